/- A new deck: the specification. -/
import Derived.Test.YtohnddjijedfkaaDfk
import Derived.Test.YtohnddjijedfkaaVck
namespace Go.Proofs.Ytohnddjijedfkaa
open Go.ChangeShapes Go.WideShapes Go.ChangeAt Go.RowKit
set_option linter.unusedVariables false
set_option linter.unusedSimpArgs false

theorem tp2_long {l : List (Int × ByteArray)} (h : 4096 < l.length) : tp2 l = ([], 2) := by
  unfold tp2
  rw [if_pos h]
theorem tp2_len (l : List (Int × ByteArray)) : (tp2 l).1.length ≤ 5000 := by
  unfold tp2
  split
  · exact Nat.zero_le _
  · split
    · rename_i hal
      have h1 := tpN_len hal l.length (Nat.le_refl _)
      have h2 := allL_len hal
      show (tpN l l.length).length ≤ _
      omega
    · exact Nat.zero_le _
theorem new2_ok {l : List (Int × ByteArray)} (h : (tp2 l).2 = 0) : new2 l = (Dk.goto ⟨(tp2 l).1, 0, 0, false, false⟩ 0, 0) := by unfold new2; rw [if_pos h]
theorem new2_no {l : List (Int × ByteArray)} (h : (tp2 l).2 ≠ 0) : new2 l = (dk0, (tp2 l).2) := by unfold new2; rw [if_neg h]
set_option maxRecDepth 100000 in
set_option maxHeartbeats 1000000 in
theorem newd_spec (a : Option Addr) (cap : Nat) (l : List (Int × ByteArray)) (w : World) (h : BkR w a l) (hl : l.length ≤ 1048576) (hs : ∀ x ∈ l, x.2.size ≤ maxLen) :
    Calls Try.prog 41 #[.slice a l.length cap] w fun e w' => ∃ v, e = .returned (.tuple #[dkV v (new2 l).1, .int .i64 (new2 l).2]) ∧ Grow w w' v (new2 l).1.pulses := by
  have q0 := Blk.new w dkZ 25
  have hB := (Below.refl w.heap.size w).alloc (Nat.le_refl _) (.cells dkZ 25)
  have hb0 := h.below hB
  have hTp := hid (fun W hh => tapepulses_spec a cap l W hh hl hs)
  have hln := tp2_len l
  clear h hs
  by_cases h1 : 4096 < l.length
  · have e2 : (tp2 l).2 ≠ 0 := by rw [tp2_long h1]; decide
    rw [new2_no e2, tp2_long h1]
    clear e2 hTp hln hb0
    have h1I : (4096 : Int) < (l.length : Int) := by omega
    go_enter Try.func41, Try.ntmps41
    go_upto_region 1 with fail
    obtain ⟨V, hV⟩ : ∃ V, w.alloc (.cells #[.slice none 0 0, .int .i64 0, .int .i64 0, .bool false, .bool false] 25) = V := ⟨_, rfl⟩
    rw [hV] at q0 hB ⊢
    clear hV
    obtain ⟨O, hO⟩ : ∃ O, w.heap.size = O := ⟨_, rfl⟩
    have hOh : Hid (w.heap.size = O) := hO
    have hB' : Hid (Below w.heap.size w V) := hB
    rw [hO] at q0 ⊢
    clear hO hB
    have x8 := (lay5_blk q0 rfl (.slice none 0 0) 0 0 false false).cell
    dsimp only [lay5] at x8
    replace x8 := hid x8
    have G8 : Hid (Grow w (lay5 V O (.slice none 0 0) 0 0 false false) (.slice none 0 0) []) := (Grow.nilv hB'.out).lay5 (by have := hOh.out; omega) (by simp [Value.ownBlock]) _ _ _ _ _
    dsimp only [lay5] at G8
    have xR := q0.cell
    have fR := q0.frozen
    have lR := q0.lt
    go_wp2
    have x9 := x8.out
    exact bodyPost_ret (v := .tuple #[.agg #[.slice none 0 0, .int .i64 0, .int .i64 0, .bool false, .bool false], .int .i64 2]) (by simp [results, Try.results41, go_sem, x9]; try rfl) rfl ⟨_, rfl, G8.out⟩
  have h1I : ¬ (4096 : Int) < (l.length : Int) := by omega
  by_cases h2 : (tp2 l).2 = 0
  · rw [new2_ok h2]
    rw [h2] at hTp
    obtain ⟨T, hT⟩ : ∃ T, (tp2 l).1 = T := ⟨_, rfl⟩
    rw [hT] at hTp hln ⊢
    obtain ⟨LF, hLF⟩ : ∃ LF, Dk.goto ⟨T, 0, 0, false, false⟩ 0 = ⟨T, 0, LF, false, false⟩ := ⟨_, rfl⟩
    have hgo := hid (fun W a c hh => goto_spec a c ⟨T, 0, 0, false, false⟩ 0 W hh (Int.le_refl _) (show T.length ≤ 1048576 by omega))
    rw [hLF] at hgo ⊢
    clear hT h2 hLF h1
    go_enter Try.func41, Try.ntmps41
    go_upto_region 1 with fail
    obtain ⟨V, hV⟩ : ∃ V, w.alloc (.cells #[.slice none 0 0, .int .i64 0, .int .i64 0, .bool false, .bool false] 25) = V := ⟨_, rfl⟩
    rw [hV] at q0 hB hb0 ⊢
    clear hV
    obtain ⟨O, hO⟩ : ∃ O, w.heap.size = O := ⟨_, rfl⟩
    have hOh : Hid (w.heap.size = O) := hO
    have hB' : Hid (Below w.heap.size w V) := hB
    rw [hO] at q0 ⊢
    clear hO hB
    replace q0 := hid q0
    replace hb0 := hid hb0
    go_wp2_with fail
    refine (hTp.out _ hb0.out).mono ?_
    rintro e w1 ⟨v1, rfl, hG⟩
    have q1 := hid (q0.out.below hG.bel q0.out.lt)
    have G1 := hid (hG.since hB'.out)
    have nb : Hid (v1.ownBlock ≠ some O) := hG.off q0.out.lt
    obtain ⟨a1, c1, rfl⟩ := hG.form
    have rr : Hid (RowR w1 (.slice a1 T.length c1) T) := by
      by_cases h0 : 0 < T.length
      · obtain ⟨g, _, hR⟩ := RowO.of_owns hG.own h0
        exact hR.reads
      · exact ⟨a1, c1, rfl, .inl (List.length_eq_zero_iff.1 (by omega))⟩
    clear hG q0 hb0 hTp hB'
    go_wp2_with fail
    refine (hgo.out _ a1 c1 rr.out).mono ?_
    rintro e w2 ⟨rfl, hb⟩
    have q2 := q1.out.below hb q1.out.lt
    have G2 := G1.out.below hb
    have x8 := (lay5_blk q2 rfl (.slice a1 T.length c1) 0 LF false false).cell
    dsimp only [lay5] at x8
    replace x8 := hid x8
    have G8 : Hid (Grow w (lay5 w2 O (.slice a1 T.length c1) 0 LF false false) (.slice a1 T.length c1) T) := G2.lay5 (by have := hOh.out; omega) nb.out _ _ _ _ _
    dsimp only [lay5] at G8
    have xR := q2.cell
    have fR := q2.frozen
    have lR := q2.lt
    clear q2 G2 q1 G1 rr hgo hb
    go_wp2
    have x9 := x8.out
    exact bodyPost_ret (v := .tuple #[.agg #[.slice a1 T.length c1, .int .i64 0, .int .i64 LF, .bool false, .bool false], .int .i64 0]) (by simp [results, Try.results41, go_sem, x9]; try rfl) rfl ⟨_, rfl, G8.out⟩
  · rw [new2_no h2]
    obtain ⟨T, hT⟩ : ∃ T, (tp2 l).1 = T := ⟨_, rfl⟩
    obtain ⟨C, hC⟩ : ∃ C, (tp2 l).2 = C := ⟨_, rfl⟩
    rw [hT, hC] at hTp
    rw [hC] at h2 ⊢
    have hCb : (C != 0) = true := by simpa using h2
    clear hT hC h2 h1
    go_enter Try.func41, Try.ntmps41
    go_upto_region 1 with fail
    obtain ⟨V, hV⟩ : ∃ V, w.alloc (.cells #[.slice none 0 0, .int .i64 0, .int .i64 0, .bool false, .bool false] 25) = V := ⟨_, rfl⟩
    rw [hV] at q0 hB hb0 ⊢
    clear hV
    obtain ⟨O, hO⟩ : ∃ O, w.heap.size = O := ⟨_, rfl⟩
    have hOh : Hid (w.heap.size = O) := hO
    have hB' : Hid (Below w.heap.size w V) := hB
    rw [hO] at q0 ⊢
    clear hO hB
    replace q0 := hid q0
    replace hb0 := hid hb0
    go_wp2_with fail
    refine (hTp.out _ hb0.out).mono ?_
    rintro e w1 ⟨v1, rfl, hG⟩
    have q1 := q0.out.below hG.bel q0.out.lt
    have B1 := new_trans hB'.out hG.bel
    obtain ⟨a1, c1, rfl⟩ := hG.form
    have x8 := (lay5_blk q1 rfl (.slice none 0 0) 0 0 false false).cell
    dsimp only [lay5] at x8
    replace x8 := hid x8
    have G8 : Hid (Grow w (lay5 w1 O (.slice none 0 0) 0 0 false false) (.slice none 0 0) []) := (Grow.nilv B1).lay5 (by have := hOh.out; omega) (by simp [Value.ownBlock]) _ _ _ _ _
    dsimp only [lay5] at G8
    have xR := q1.cell
    have fR := q1.frozen
    have lR := q1.lt
    clear q1 B1 hG q0 hb0 hTp hB'
    go_wp2
    have x9 := x8.out
    exact bodyPost_ret (v := .tuple #[.agg #[.slice none 0 0, .int .i64 0, .int .i64 0, .bool false, .bool false], .int .i64 C]) (by simp [results, Try.results41, go_sem, x9]; try rfl) rfl ⟨_, rfl, G8.out⟩
end Go.Proofs.Ytohnddjijedfkaa
