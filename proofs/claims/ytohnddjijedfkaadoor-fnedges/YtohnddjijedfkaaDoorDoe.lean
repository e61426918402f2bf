/- A new deck: the program. -/
import Derived.Test.YtohnddjijedfkaaDoorDne
import Derived.Test.YtohnddjijedfkaaDoorDte
import Derived.Test.YtohnddjijedfkaaDoorVre
import Derived.Test.YtohnddjijedfkaaDoorVve
namespace Go.Proofs.YtohnddjijedfkaaDoor
open Go.ChangeShapes Go.WideShapes Go.ChangeAt Go.RowKit
set_option linter.unusedVariables false
set_option linter.unusedSimpArgs false

set_option maxRecDepth 100000 in
set_option maxHeartbeats 1000000 in
theorem newd_impl (a : Option Addr) (cap : Nat) (l : List (Int × ByteArray)) (w : World) (h : BkR w a l) (hl : l.length ≤ 1048576) (hs : ∀ x ∈ l, x.2.size ≤ maxLen) (hT : Tim w) (hg : 0 < w.heap.size) :
    Calls Tryd.prog 6 #[.slice a l.length cap] w fun e w' => ∃ v, e = .returned (.tuple #[dkV v (new2 l).1, .int .i64 (new2 l).2]) ∧ Grow w w' v (new2 l).1.pulses := by
  have q0 := Blk.new w dkZ 27
  have hB := (Below.refl w.heap.size w).alloc (Nat.le_refl _) (.cells dkZ 27)
  have hTp := hid (tapepulses_impl a cap l _ (h.below hB) hl hs (hT.kept (hB.block _ hg)) (Nat.lt_of_lt_of_le hg hB.size))
  have hln := tp2_len l
  clear h hs hT hg
  by_cases h2 : (tp2 l).2 = 0
  · rw [new2_ok h2]
    rw [h2] at hTp
    obtain ⟨T, hT⟩ : ∃ T, (tp2 l).1 = T := ⟨_, rfl⟩
    rw [hT] at hTp hln ⊢
    have hM := hid (fun W b a cap hb hr hn => rewind_impl b a cap T 0 0 false false W hb hr hn (show T.length ≤ 1048576 by omega))
    obtain ⟨LF, hLF⟩ : ∃ LF, Dk.goto ⟨T, 0, 0, false, false⟩ 0 = ⟨T, 0, LF, false, false⟩ := ⟨_, rfl⟩
    rw [hLF] at hM ⊢
    clear hT h2 hLF
    go_enter Tryd.func6, Tryd.ntmps6
    go_upto_region 1 with fail
    obtain ⟨V, hV⟩ : ∃ V, w.alloc (.cells #[.slice none 0 0, .int .i64 0, .int .i64 0, .bool false, .bool false] 27) = V := ⟨_, rfl⟩
    rw [hV] at q0 hB hTp ⊢
    clear hV
    obtain ⟨O, hO⟩ : ∃ O, w.heap.size = O := ⟨_, rfl⟩
    have hOh : Hid (w.heap.size = O) := hO
    have hB' : Hid (Below w.heap.size w V) := hB
    rw [hO] at q0 ⊢
    clear hO hB
    replace q0 := hid q0
    go_wp2_with fail
    refine hTp.out.mono ?_
    rintro e w1 ⟨v1, rfl, hG⟩
    have q1 := q0.out.below hG.bel q0.out.lt
    have G1 := hG.since hB'.out
    have nb : Hid (v1.ownBlock ≠ some O) := hG.off q0.out.lt
    obtain ⟨a1, c1, rfl⟩ := hG.form
    have hal : Below w1.heap.size w1 (w1.alloc (.cells #[.slice a1 T.length c1, .int .i64 0, .int .i64 0, .bool false, .bool false] 27)) := (Below.refl _ _).alloc (Nat.le_refl _) _
    have q2 := hid (q1.below hal q1.lt)
    have G2 := hid (G1.below hal)
    have p2 := hid (Blk.new w1 #[.slice a1 T.length c1, .int .i64 0, .int .i64 0, .bool false, .bool false] 27)
    have nb2 : Hid ((Value.slice a1 T.length c1).ownBlock ≠ some w1.heap.size) := fun e => by
      have := (hG.own.lt _ e).2
      omega
    have hlt : Hid (O < w1.heap.size) := q1.lt
    have rr := hid ((OwnI.of G1).read.below hal)
    clear q0 hTp q1 G1 hal hG
    go_upto_region 5 with fail
    obtain ⟨g, hg⟩ : ∃ g, w1.heap.size = g := ⟨_, rfl⟩
    rw [hg] at p2 nb2 hlt
    (try rw [hg])
    obtain ⟨W2, hW2⟩ : ∃ W, w1.alloc (.cells #[.slice a1 T.length c1, .int .i64 0, .int .i64 0, .bool false, .bool false] 27) = W := ⟨_, rfl⟩
    rw [hW2] at q2 G2 p2 rr
    (try rw [hW2])
    clear hg hW2
    have ap := hid (G2.out.apart nb2.out)
    have n5 : ¬ O = g := by have := hlt.out; omega
    have n6 : ¬ g = O := by have := hlt.out; omega
    go_wp2_with fail
    refine (hM.out _ g a1 c1 p2.out rr.out ap.out).mono ?_
    rintro e w3 ⟨rfl, p3, g3⟩
    have q3 := q2.out.grown g3 (by simpa using n5)
    have G3 : Grow w w3 (.slice a1 T.length c1) T := ⟨G2.out.own.kept g3 (.inr nb2.out), G2.out.bel.grown g3 G2.out.bel.size (fun b e => by cases e; have := hlt.out; have := hOh.out; omega)⟩
    have x3 := p3.cell
    have x8 := (lay5_blk q3 rfl (.slice a1 T.length c1) 0 LF false false).cell
    dsimp only [lay5] at x8
    replace x8 := hid x8
    have G8 : Hid (Grow w (lay5 w3 O (.slice a1 T.length c1) 0 LF false false) (.slice a1 T.length c1) T) := G3.lay5 (by have := hOh.out; omega) nb.out _ _ _ _ _
    dsimp only [lay5] at G8
    have xR := q3.cell
    have fR := q3.frozen
    have lR := q3.lt
    clear q3 G3 p3 g3 q2 G2 p2 rr ap hM
    go_wp2
    have x9 := x8.out
    exact bodyPost_ret (v := .tuple #[.agg #[.slice a1 T.length c1, .int .i64 0, .int .i64 LF, .bool false, .bool false], .int .i64 0]) (by simp [results, Tryd.results6, go_sem, x9]; try rfl) rfl ⟨_, rfl, G8.out⟩
  · rw [new2_no h2]
    obtain ⟨T, hT⟩ : ∃ T, (tp2 l).1 = T := ⟨_, rfl⟩
    obtain ⟨C, hC⟩ : ∃ C, (tp2 l).2 = C := ⟨_, rfl⟩
    rw [hT, hC] at hTp
    rw [hC] at h2 ⊢
    have hCb : (C != 0) = true := by simpa using h2
    clear hT hC h2
    go_enter Tryd.func6, Tryd.ntmps6
    go_upto_region 1 with fail
    obtain ⟨V, hV⟩ : ∃ V, w.alloc (.cells #[.slice none 0 0, .int .i64 0, .int .i64 0, .bool false, .bool false] 27) = V := ⟨_, rfl⟩
    rw [hV] at q0 hB hTp ⊢
    clear hV
    obtain ⟨O, hO⟩ : ∃ O, w.heap.size = O := ⟨_, rfl⟩
    have hOh : Hid (w.heap.size = O) := hO
    have hB' : Hid (Below w.heap.size w V) := hB
    rw [hO] at q0 ⊢
    clear hO hB
    replace q0 := hid q0
    go_wp2_with fail
    refine hTp.out.mono ?_
    rintro e w1 ⟨v1, rfl, hG⟩
    have q1 := q0.out.below hG.bel q0.out.lt
    have B1 := new_trans hB'.out hG.bel
    obtain ⟨a1, c1, rfl⟩ := hG.form
    have x8 := (lay5_blk q1 rfl (.slice none 0 0) 0 0 false false).cell
    dsimp only [lay5] at x8
    replace x8 := hid x8
    have G8 : Hid (Grow w (lay5 w1 O (.slice none 0 0) 0 0 false false) (.slice none 0 0) []) := (Grow.nilv B1).lay5 (by have := hOh.out; omega) (by simp [Value.ownBlock]) _ _ _ _ _
    dsimp only [lay5] at G8
    have xR := q1.cell
    have fR := q1.frozen
    have lR := q1.lt
    clear q1 B1 hG q0 hTp hB'
    go_wp2
    have x9 := x8.out
    exact bodyPost_ret (v := .tuple #[.agg #[.slice none 0 0, .int .i64 0, .int .i64 0, .bool false, .bool false], .int .i64 C]) (by simp [results, Tryd.results6, go_sem, x9]; try rfl) rfl ⟨_, rfl, G8.out⟩
end Go.Proofs.YtohnddjijedfkaaDoor
