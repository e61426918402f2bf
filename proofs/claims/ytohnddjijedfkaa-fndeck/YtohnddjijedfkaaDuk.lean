/- A deck is played, stopped, rewound, run: the program. -/
import Derived.Test.YtohnddjijedfkaaDtk
import Derived.Test.YtohnddjijedfkaaVvk
namespace Go.Proofs.Ytohnddjijedfkaa
open Go.ChangeShapes Go.WideShapes Go.ChangeAt Go.RowKit
set_option linter.unusedVariables false
set_option linter.unusedSimpArgs false

/-- an answer's numbers stay as they are while another block is written -/
theorem Grow.far {w W W' : World} {v : Value} {P : List Int} (h : Grow w W v P) {g : Nat} (hg : W.grownBy W' (some g)) (hw : w.heap.size ≤ g) (hn : v.ownBlock ≠ some g) : Grow w W' v P :=
  ⟨h.own.kept hg (.inr hn), h.bel.grown hg h.bel.size (fun b e => by cases e; exact hw)⟩
set_option maxRecDepth 100000 in
set_option maxHeartbeats 1000000 in
theorem playI_bad (a : Option Addr) (cap : Nat) (P : List Int) (ix lf : Int) (lv pl : Bool) (w : World) (h : RowR w (.slice a P.length cap) P) (hl : P.length ≤ 1048576) (hok : (Dk.mk P ix lf lv pl).ok = false) :
    Calls Try.prog 19 #[.agg #[.slice a P.length cap, .int .i64 ix, .int .i64 lf, .bool lv, .bool pl]] w fun e w' => ∃ v, e = .returned (.tuple #[.agg #[v, .int .i64 0, .int .i64 0, .bool false, .bool false], .int .i64 1]) ∧ Grow w w' v [] := by
  obtain ⟨qO, qR, hB⟩ := two_newD w #[.slice a P.length cap, .int .i64 ix, .int .i64 lf, .bool lv, .bool pl] dkZ 25 25
  have hr := h.below hB
  have hC := hid (fun W hh hr => right_impl w.heap.size a cap ⟨P, ix, lf, lv, pl⟩ W hh hr)
  rw [hok] at hC
  replace hok := hid hok
  go_enter Try.func19, Try.ntmps19
  go_upto_region 1 with fail
  obtain ⟨V, hV⟩ : ∃ V, (w.alloc (.cells #[.slice a P.length cap, .int .i64 ix, .int .i64 lf, .bool lv, .bool pl] 25)).alloc (.cells #[.slice none 0 0, .int .i64 0, .int .i64 0, .bool false, .bool false] 25) = V := ⟨_, rfl⟩
  rw [hV] at qO qR hB hr ⊢
  have hVs : V.heap.size = w.heap.size + 1 + 1 := by rw [← hV]; simp
  clear hV
  replace qO := hid qO
  replace qR := hid qR
  replace hB := hid hB
  replace hr := hid hr
  replace hVs := hid hVs
  go_wp2_with fail
  refine (hC.out _ qO.out hr.out).mono ?_
  rintro e w1 ⟨rfl, n1, rfl⟩
  have B1 : Hid (Below w.heap.size w (V.drewN n1)) := hB.out.trans (Below.drewN _ _ _)
  have q1 : Hid (Blk (V.drewN n1) w.heap.size #[.slice a P.length cap, .int .i64 ix, .int .i64 lf, .bool lv, .bool pl]) := qO.out
  have r1 : Hid (Blk (V.drewN n1) (w.heap.size + 1) dkZ) := qR.out
  have hr1 : Hid (RowR (V.drewN n1) (.slice a P.length cap) P) := hr.out
  have s1 : Hid ((V.drewN n1).heap.size = w.heap.size + 1 + 1) := hVs.out
  obtain ⟨w1, hw1⟩ : ∃ w1, V.drewN n1 = w1 := ⟨_, rfl⟩
  rw [hw1] at B1 q1 r1 hr1 s1 ⊢
  clear hw1 qO qR hB hr hC hVs
  obtain ⟨O, hO⟩ : ∃ O, w.heap.size = O := ⟨_, rfl⟩
  have hOh : Hid (w.heap.size = O) := hO
  rw [hO] at q1 r1 s1 ⊢
  clear hO
  have n3 : ¬ O = O + 1 := by omega
  have n4 : ¬ O + 1 = O := by omega
  have r := r1
  have x8 := (lay5_blk r.out rfl (.slice none 0 0) 0 0 false false).cell
  dsimp only [lay5] at x8
  replace x8 := hid x8
  have G8 : Hid (Grow w (lay5 w1 (O + 1) (.slice none 0 0) 0 0 false false) (.slice none 0 0) _) := (Grow.nilv B1.out).lay5 (by have := hOh.out; omega) (by simp [Value.ownBlock]) _ _ _ _ _
  dsimp only [lay5] at G8
  have xR := r.out.cell
  have fR := r.out.frozen
  have lR := r.out.lt
  go_wp2
  have x9 := x8.out
  exact bodyPost_ret (v := .tuple #[.agg #[.slice none 0 0, .int .i64 0, .int .i64 0, .bool false, .bool false], .int .i64 1]) (by simp [results, Try.results19, go_sem, x9]; try rfl) rfl ⟨_, rfl, G8.out⟩
set_option maxRecDepth 100000 in
set_option maxHeartbeats 1000000 in
theorem playI_go (a : Option Addr) (cap : Nat) (P : List Int) (ix lf : Int) (lv pl : Bool) (w : World) (h : RowR w (.slice a P.length cap) P) (hl : P.length ≤ 1048576) (hok : (Dk.mk P ix lf lv pl).ok = true) (PL : Bool) (C : Int) (hP : Hid ((if ix = (P.length : Int) then pl else true) = PL ∧ (if ix = (P.length : Int) then (9 : Int) else 0) = C)) :
    Calls Try.prog 19 #[.agg #[.slice a P.length cap, .int .i64 ix, .int .i64 lf, .bool lv, .bool pl]] w fun e w' => ∃ v, e = .returned (.tuple #[.agg #[v, .int .i64 ix, .int .i64 lf, .bool lv, .bool PL], .int .i64 C]) ∧ Grow w w' v P := by
  obtain ⟨qO, qR, hB⟩ := two_newD w #[.slice a P.length cap, .int .i64 ix, .int .i64 lf, .bool lv, .bool pl] dkZ 25 25
  have hr := h.below hB
  have hC := hid (fun W hh hr => right_impl w.heap.size a cap ⟨P, ix, lf, lv, pl⟩ W hh hr)
  rw [hok] at hC
  replace hok := hid hok
  go_enter Try.func19, Try.ntmps19
  go_upto_region 1 with fail
  obtain ⟨V, hV⟩ : ∃ V, (w.alloc (.cells #[.slice a P.length cap, .int .i64 ix, .int .i64 lf, .bool lv, .bool pl] 25)).alloc (.cells #[.slice none 0 0, .int .i64 0, .int .i64 0, .bool false, .bool false] 25) = V := ⟨_, rfl⟩
  rw [hV] at qO qR hB hr ⊢
  have hVs : V.heap.size = w.heap.size + 1 + 1 := by rw [← hV]; simp
  clear hV
  replace qO := hid qO
  replace qR := hid qR
  replace hB := hid hB
  replace hr := hid hr
  replace hVs := hid hVs
  go_wp2_with fail
  refine (hC.out _ qO.out hr.out).mono ?_
  rintro e w1 ⟨rfl, n1, rfl⟩
  have B1 : Hid (Below w.heap.size w (V.drewN n1)) := hB.out.trans (Below.drewN _ _ _)
  have q1 : Hid (Blk (V.drewN n1) w.heap.size #[.slice a P.length cap, .int .i64 ix, .int .i64 lf, .bool lv, .bool pl]) := qO.out
  have r1 : Hid (Blk (V.drewN n1) (w.heap.size + 1) dkZ) := qR.out
  have hr1 : Hid (RowR (V.drewN n1) (.slice a P.length cap) P) := hr.out
  have s1 : Hid ((V.drewN n1).heap.size = w.heap.size + 1 + 1) := hVs.out
  obtain ⟨w1, hw1⟩ : ∃ w1, V.drewN n1 = w1 := ⟨_, rfl⟩
  rw [hw1] at B1 q1 r1 hr1 s1 ⊢
  clear hw1 qO qR hB hr hC hVs
  obtain ⟨O, hO⟩ : ∃ O, w.heap.size = O := ⟨_, rfl⟩
  have hOh : Hid (w.heap.size = O) := hO
  rw [hO] at q1 r1 s1 ⊢
  clear hO
  have n3 : ¬ O = O + 1 := by omega
  have n4 : ¬ O + 1 = O := by omega
  have hM := hid (fun W b a cap => playm_impl b a cap P ix lf lv pl W)
  rw [hP.out.1, hP.out.2] at hM
  go_wp2_with fail
  refine (copied_impl O a cap ⟨P, ix, lf, lv, pl⟩ w1 q1.out hr1.out hl).mono ?_
  rintro e w2 ⟨v2, rfl, q2, G2, nb2⟩
  obtain ⟨a2, c2, rfl⟩ := G2.form
  have r2 := hid (r1.out.below G2.bel r1.out.lt)
  have ap2 := hid (G2.apart nb2)
  have rr2 := hid (OwnI.of G2).read
  have nR2 : Hid ((Value.slice a2 P.length c2).ownBlock ≠ some (O + 1)) := G2.off r1.out.lt
  have G2w := hid (G2.since B1.out)
  obtain ⟨g, hg⟩ : ∃ g, w1.heap.size = g := ⟨_, rfl⟩
  have hgO : g = O + 1 + 1 := by rw [← hg]; exact s1.out
  rw [hg] at q2 nb2 ap2 ⊢
  replace q2 := hid q2
  replace nb2 := hid nb2
  clear hg G2 q1 r1 hr1 B1 s1
  have hgw : Hid (w.heap.size ≤ g ∧ O + 1 ≠ g ∧ g = O + 1 + 1) := ⟨by have := hOh.out; omega, by omega, hgO⟩
  have n5 : ¬ O + 1 = g := by omega
  have n6 : ¬ g = O + 1 := by omega
  clear hgO
  go_wp2_with fail
  refine (hM.out w2 g a2 c2 q2.out).mono ?_
  rintro e w3 ⟨rfl, q3, g3⟩
  have r := hid (r2.out.grown g3 (by simp; exact hgw.out.2.1))
  have G3 := hid (G2w.out.far g3 hgw.out.1 nb2.out)
  have x3 := q3.cell
  clear q3 g3 q2 r2 ap2 rr2 G2w nb2
  have x8 := (lay5_blk r.out rfl (.slice a2 P.length c2) ix lf lv PL).cell
  dsimp only [lay5] at x8
  replace x8 := hid x8
  have G8 : Hid (Grow w (lay5 w3 (O + 1) (.slice a2 P.length c2) ix lf lv PL) (.slice a2 P.length c2) _) := G3.out.lay5 (by have := hOh.out; omega) nR2.out _ _ _ _ _
  dsimp only [lay5] at G8
  have xR := r.out.cell
  have fR := r.out.frozen
  have lR := r.out.lt
  go_wp2
  have x9 := x8.out
  exact bodyPost_ret (v := .tuple #[.agg #[.slice a2 P.length c2, .int .i64 ix, .int .i64 lf, .bool lv, .bool PL], .int .i64 C]) (by simp [results, Try.results19, go_sem, x9]; try rfl) rfl ⟨_, rfl, G8.out⟩
theorem play_impl (a : Option Addr) (cap : Nat) (d : Dk) (w : World) (h : RowR w (.slice a d.pulses.length cap) d.pulses) (hl : d.pulses.length ≤ 1048576) :
    Calls Try.prog 19 #[dkV (.slice a d.pulses.length cap) d] w fun e w' => ∃ v, e = .returned (.tuple #[dkV v (play2 d).1, .int .i64 (play2 d).2]) ∧ Grow w w' v (play2 d).1.pulses := by
  obtain ⟨P, ix, lf, lv, pl⟩ := d
  unfold play2
  cases hok : (Dk.mk P ix lf lv pl).ok
  · exact playI_bad a cap P ix lf lv pl w h hl hok
  · rw [if_pos rfl]
    by_cases he : ix = (P.length : Int)
    · rw [if_pos (show (Dk.mk P ix lf lv pl).index = (Dk.mk P ix lf lv pl).len from he)]
      exact playI_go a cap P ix lf lv pl w h hl hok pl 9 ⟨if_pos he, if_pos he⟩
    · rw [if_neg (show ¬ (Dk.mk P ix lf lv pl).index = (Dk.mk P ix lf lv pl).len from he)]
      exact playI_go a cap P ix lf lv pl w h hl hok true 0 ⟨if_neg he, if_neg he⟩
set_option maxRecDepth 100000 in
set_option maxHeartbeats 1000000 in
theorem stopI_bad (a : Option Addr) (cap : Nat) (P : List Int) (ix lf : Int) (lv pl : Bool) (w : World) (h : RowR w (.slice a P.length cap) P) (hl : P.length ≤ 1048576) (hok : (Dk.mk P ix lf lv pl).ok = false) :
    Calls Try.prog 11 #[.agg #[.slice a P.length cap, .int .i64 ix, .int .i64 lf, .bool lv, .bool pl]] w fun e w' => ∃ v, e = .returned (.tuple #[.agg #[v, .int .i64 0, .int .i64 0, .bool false, .bool false], .int .i64 1]) ∧ Grow w w' v [] := by
  obtain ⟨qO, qR, hB⟩ := two_newD w #[.slice a P.length cap, .int .i64 ix, .int .i64 lf, .bool lv, .bool pl] dkZ 25 25
  have hr := h.below hB
  have hC := hid (fun W hh hr => right_impl w.heap.size a cap ⟨P, ix, lf, lv, pl⟩ W hh hr)
  rw [hok] at hC
  replace hok := hid hok
  go_enter Try.func11, Try.ntmps11
  go_upto_region 1 with fail
  obtain ⟨V, hV⟩ : ∃ V, (w.alloc (.cells #[.slice a P.length cap, .int .i64 ix, .int .i64 lf, .bool lv, .bool pl] 25)).alloc (.cells #[.slice none 0 0, .int .i64 0, .int .i64 0, .bool false, .bool false] 25) = V := ⟨_, rfl⟩
  rw [hV] at qO qR hB hr ⊢
  have hVs : V.heap.size = w.heap.size + 1 + 1 := by rw [← hV]; simp
  clear hV
  replace qO := hid qO
  replace qR := hid qR
  replace hB := hid hB
  replace hr := hid hr
  replace hVs := hid hVs
  go_wp2_with fail
  refine (hC.out _ qO.out hr.out).mono ?_
  rintro e w1 ⟨rfl, n1, rfl⟩
  have B1 : Hid (Below w.heap.size w (V.drewN n1)) := hB.out.trans (Below.drewN _ _ _)
  have q1 : Hid (Blk (V.drewN n1) w.heap.size #[.slice a P.length cap, .int .i64 ix, .int .i64 lf, .bool lv, .bool pl]) := qO.out
  have r1 : Hid (Blk (V.drewN n1) (w.heap.size + 1) dkZ) := qR.out
  have hr1 : Hid (RowR (V.drewN n1) (.slice a P.length cap) P) := hr.out
  have s1 : Hid ((V.drewN n1).heap.size = w.heap.size + 1 + 1) := hVs.out
  obtain ⟨w1, hw1⟩ : ∃ w1, V.drewN n1 = w1 := ⟨_, rfl⟩
  rw [hw1] at B1 q1 r1 hr1 s1 ⊢
  clear hw1 qO qR hB hr hC hVs
  obtain ⟨O, hO⟩ : ∃ O, w.heap.size = O := ⟨_, rfl⟩
  have hOh : Hid (w.heap.size = O) := hO
  rw [hO] at q1 r1 s1 ⊢
  clear hO
  have n3 : ¬ O = O + 1 := by omega
  have n4 : ¬ O + 1 = O := by omega
  have r := r1
  have x8 := (lay5_blk r.out rfl (.slice none 0 0) 0 0 false false).cell
  dsimp only [lay5] at x8
  replace x8 := hid x8
  have G8 : Hid (Grow w (lay5 w1 (O + 1) (.slice none 0 0) 0 0 false false) (.slice none 0 0) _) := (Grow.nilv B1.out).lay5 (by have := hOh.out; omega) (by simp [Value.ownBlock]) _ _ _ _ _
  dsimp only [lay5] at G8
  have xR := r.out.cell
  have fR := r.out.frozen
  have lR := r.out.lt
  go_wp2
  have x9 := x8.out
  exact bodyPost_ret (v := .tuple #[.agg #[.slice none 0 0, .int .i64 0, .int .i64 0, .bool false, .bool false], .int .i64 1]) (by simp [results, Try.results11, go_sem, x9]; try rfl) rfl ⟨_, rfl, G8.out⟩
set_option maxRecDepth 100000 in
set_option maxHeartbeats 1000000 in
theorem stopI_go (a : Option Addr) (cap : Nat) (P : List Int) (ix lf : Int) (lv pl : Bool) (w : World) (h : RowR w (.slice a P.length cap) P) (hl : P.length ≤ 1048576) (hok : (Dk.mk P ix lf lv pl).ok = true) (C : Int) (hP : Hid ((if pl = true then (0 : Int) else 13) = C)) :
    Calls Try.prog 11 #[.agg #[.slice a P.length cap, .int .i64 ix, .int .i64 lf, .bool lv, .bool pl]] w fun e w' => ∃ v, e = .returned (.tuple #[.agg #[v, .int .i64 ix, .int .i64 lf, .bool lv, .bool false], .int .i64 C]) ∧ Grow w w' v P := by
  obtain ⟨qO, qR, hB⟩ := two_newD w #[.slice a P.length cap, .int .i64 ix, .int .i64 lf, .bool lv, .bool pl] dkZ 25 25
  have hr := h.below hB
  have hC := hid (fun W hh hr => right_impl w.heap.size a cap ⟨P, ix, lf, lv, pl⟩ W hh hr)
  rw [hok] at hC
  replace hok := hid hok
  go_enter Try.func11, Try.ntmps11
  go_upto_region 1 with fail
  obtain ⟨V, hV⟩ : ∃ V, (w.alloc (.cells #[.slice a P.length cap, .int .i64 ix, .int .i64 lf, .bool lv, .bool pl] 25)).alloc (.cells #[.slice none 0 0, .int .i64 0, .int .i64 0, .bool false, .bool false] 25) = V := ⟨_, rfl⟩
  rw [hV] at qO qR hB hr ⊢
  have hVs : V.heap.size = w.heap.size + 1 + 1 := by rw [← hV]; simp
  clear hV
  replace qO := hid qO
  replace qR := hid qR
  replace hB := hid hB
  replace hr := hid hr
  replace hVs := hid hVs
  go_wp2_with fail
  refine (hC.out _ qO.out hr.out).mono ?_
  rintro e w1 ⟨rfl, n1, rfl⟩
  have B1 : Hid (Below w.heap.size w (V.drewN n1)) := hB.out.trans (Below.drewN _ _ _)
  have q1 : Hid (Blk (V.drewN n1) w.heap.size #[.slice a P.length cap, .int .i64 ix, .int .i64 lf, .bool lv, .bool pl]) := qO.out
  have r1 : Hid (Blk (V.drewN n1) (w.heap.size + 1) dkZ) := qR.out
  have hr1 : Hid (RowR (V.drewN n1) (.slice a P.length cap) P) := hr.out
  have s1 : Hid ((V.drewN n1).heap.size = w.heap.size + 1 + 1) := hVs.out
  obtain ⟨w1, hw1⟩ : ∃ w1, V.drewN n1 = w1 := ⟨_, rfl⟩
  rw [hw1] at B1 q1 r1 hr1 s1 ⊢
  clear hw1 qO qR hB hr hC hVs
  obtain ⟨O, hO⟩ : ∃ O, w.heap.size = O := ⟨_, rfl⟩
  have hOh : Hid (w.heap.size = O) := hO
  rw [hO] at q1 r1 s1 ⊢
  clear hO
  have n3 : ¬ O = O + 1 := by omega
  have n4 : ¬ O + 1 = O := by omega
  have hM := hid (fun W b v => stopm_impl b v ix lf lv pl W)
  rw [hP.out] at hM
  go_wp2_with fail
  refine (copied_impl O a cap ⟨P, ix, lf, lv, pl⟩ w1 q1.out hr1.out hl).mono ?_
  rintro e w2 ⟨v2, rfl, q2, G2, nb2⟩
  obtain ⟨a2, c2, rfl⟩ := G2.form
  have r2 := hid (r1.out.below G2.bel r1.out.lt)
  have ap2 := hid (G2.apart nb2)
  have rr2 := hid (OwnI.of G2).read
  have nR2 : Hid ((Value.slice a2 P.length c2).ownBlock ≠ some (O + 1)) := G2.off r1.out.lt
  have G2w := hid (G2.since B1.out)
  obtain ⟨g, hg⟩ : ∃ g, w1.heap.size = g := ⟨_, rfl⟩
  have hgO : g = O + 1 + 1 := by rw [← hg]; exact s1.out
  rw [hg] at q2 nb2 ap2 ⊢
  replace q2 := hid q2
  replace nb2 := hid nb2
  clear hg G2 q1 r1 hr1 B1 s1
  have hgw : Hid (w.heap.size ≤ g ∧ O + 1 ≠ g ∧ g = O + 1 + 1) := ⟨by have := hOh.out; omega, by omega, hgO⟩
  have n5 : ¬ O + 1 = g := by omega
  have n6 : ¬ g = O + 1 := by omega
  clear hgO
  go_wp2_with fail
  refine (hM.out w2 g _ q2.out).mono ?_
  rintro e w3 ⟨rfl, q3, g3⟩
  have r := hid (r2.out.grown g3 (by simp; exact hgw.out.2.1))
  have G3 := hid (G2w.out.far g3 hgw.out.1 nb2.out)
  have x3 := q3.cell
  clear q3 g3 q2 r2 ap2 rr2 G2w nb2
  have x8 := (lay5_blk r.out rfl (.slice a2 P.length c2) ix lf lv false).cell
  dsimp only [lay5] at x8
  replace x8 := hid x8
  have G8 : Hid (Grow w (lay5 w3 (O + 1) (.slice a2 P.length c2) ix lf lv false) (.slice a2 P.length c2) _) := G3.out.lay5 (by have := hOh.out; omega) nR2.out _ _ _ _ _
  dsimp only [lay5] at G8
  have xR := r.out.cell
  have fR := r.out.frozen
  have lR := r.out.lt
  go_wp2
  have x9 := x8.out
  exact bodyPost_ret (v := .tuple #[.agg #[.slice a2 P.length c2, .int .i64 ix, .int .i64 lf, .bool lv, .bool false], .int .i64 C]) (by simp [results, Try.results11, go_sem, x9]; try rfl) rfl ⟨_, rfl, G8.out⟩
theorem stop_impl (a : Option Addr) (cap : Nat) (d : Dk) (w : World) (h : RowR w (.slice a d.pulses.length cap) d.pulses) (hl : d.pulses.length ≤ 1048576) :
    Calls Try.prog 11 #[dkV (.slice a d.pulses.length cap) d] w fun e w' => ∃ v, e = .returned (.tuple #[dkV v (stop2 d).1, .int .i64 (stop2 d).2]) ∧ Grow w w' v (stop2 d).1.pulses := by
  obtain ⟨P, ix, lf, lv, pl⟩ := d
  unfold stop2
  cases hok : (Dk.mk P ix lf lv pl).ok
  · exact stopI_bad a cap P ix lf lv pl w h hl hok
  · rw [if_pos rfl]
    cases pl
    · rw [if_neg (show ¬ (Dk.mk P ix lf lv false).plays = true from fun e => by cases e)]
      exact stopI_go a cap P ix lf lv false w h hl hok 13 rfl
    · rw [if_pos (show (Dk.mk P ix lf lv true).plays = true from rfl)]
      exact stopI_go a cap P ix lf lv true w h hl hok 0 rfl
set_option maxRecDepth 100000 in
set_option maxHeartbeats 1000000 in
theorem runI_bad (a : Option Addr) (cap : Nat) (P : List Int) (ix lf : Int) (lv pl : Bool) (t : Int) (w : World) (h : RowR w (.slice a P.length cap) P) (hl : P.length ≤ 1048576) (hok : (Dk.mk P ix lf lv pl).ok = false) :
    Calls Try.prog 9 #[.agg #[.slice a P.length cap, .int .i64 ix, .int .i64 lf, .bool lv, .bool pl], .int .i64 t] w fun e w' => ∃ v, e = .returned (.tuple #[.agg #[v, .int .i64 0, .int .i64 0, .bool false, .bool false], .int .i64 0, .int .i64 1]) ∧ Grow w w' v [] := by
  obtain ⟨qO, qR, hB⟩ := two_newD w #[.slice a P.length cap, .int .i64 ix, .int .i64 lf, .bool lv, .bool pl] dkZ 25 25
  have hr := h.below hB
  have hC := hid (fun W hh hr => right_impl w.heap.size a cap ⟨P, ix, lf, lv, pl⟩ W hh hr)
  rw [hok] at hC
  replace hok := hid hok
  go_enter Try.func9, Try.ntmps9
  go_upto_region 1 with fail
  obtain ⟨V, hV⟩ : ∃ V, (w.alloc (.cells #[.slice a P.length cap, .int .i64 ix, .int .i64 lf, .bool lv, .bool pl] 25)).alloc (.cells #[.slice none 0 0, .int .i64 0, .int .i64 0, .bool false, .bool false] 25) = V := ⟨_, rfl⟩
  rw [hV] at qO qR hB hr ⊢
  have hVs : V.heap.size = w.heap.size + 1 + 1 := by rw [← hV]; simp
  clear hV
  replace qO := hid qO
  replace qR := hid qR
  replace hB := hid hB
  replace hr := hid hr
  replace hVs := hid hVs
  go_wp2_with fail
  refine (hC.out _ qO.out hr.out).mono ?_
  rintro e w1 ⟨rfl, n1, rfl⟩
  have B1 : Hid (Below w.heap.size w (V.drewN n1)) := hB.out.trans (Below.drewN _ _ _)
  have q1 : Hid (Blk (V.drewN n1) w.heap.size #[.slice a P.length cap, .int .i64 ix, .int .i64 lf, .bool lv, .bool pl]) := qO.out
  have r1 : Hid (Blk (V.drewN n1) (w.heap.size + 1) dkZ) := qR.out
  have hr1 : Hid (RowR (V.drewN n1) (.slice a P.length cap) P) := hr.out
  have s1 : Hid ((V.drewN n1).heap.size = w.heap.size + 1 + 1) := hVs.out
  obtain ⟨w1, hw1⟩ : ∃ w1, V.drewN n1 = w1 := ⟨_, rfl⟩
  rw [hw1] at B1 q1 r1 hr1 s1 ⊢
  clear hw1 qO qR hB hr hC hVs
  obtain ⟨O, hO⟩ : ∃ O, w.heap.size = O := ⟨_, rfl⟩
  have hOh : Hid (w.heap.size = O) := hO
  rw [hO] at q1 r1 s1 ⊢
  clear hO
  have n3 : ¬ O = O + 1 := by omega
  have n4 : ¬ O + 1 = O := by omega
  have r := r1
  have x8 := (lay5_blk r.out rfl (.slice none 0 0) 0 0 false false).cell
  dsimp only [lay5] at x8
  replace x8 := hid x8
  have G8 : Hid (Grow w (lay5 w1 (O + 1) (.slice none 0 0) 0 0 false false) (.slice none 0 0) _) := (Grow.nilv B1.out).lay5 (by have := hOh.out; omega) (by simp [Value.ownBlock]) _ _ _ _ _
  dsimp only [lay5] at G8
  have xR := r.out.cell
  have fR := r.out.frozen
  have lR := r.out.lt
  go_wp2
  have x9 := x8.out
  exact bodyPost_ret (v := .tuple #[.agg #[.slice none 0 0, .int .i64 0, .int .i64 0, .bool false, .bool false], .int .i64 0, .int .i64 1]) (by simp [results, Try.results9, go_sem, x9]; try rfl) rfl ⟨_, rfl, G8.out⟩
set_option maxRecDepth 100000 in
set_option maxHeartbeats 1000000 in
theorem runI_out (a : Option Addr) (cap : Nat) (P : List Int) (ix lf : Int) (lv pl : Bool) (t : Int) (w : World) (h : RowR w (.slice a P.length cap) P) (hl : P.length ≤ 1048576) (hok : (Dk.mk P ix lf lv pl).ok = true) (hin : inB t 0 100000 = false) :
    Calls Try.prog 9 #[.agg #[.slice a P.length cap, .int .i64 ix, .int .i64 lf, .bool lv, .bool pl], .int .i64 t] w fun e w' => ∃ v, e = .returned (.tuple #[.agg #[v, .int .i64 0, .int .i64 0, .bool false, .bool false], .int .i64 0, .int .i64 4]) ∧ Grow w w' v [] := by
  obtain ⟨qO, qR, hB⟩ := two_newD w #[.slice a P.length cap, .int .i64 ix, .int .i64 lf, .bool lv, .bool pl] dkZ 25 25
  have hr := h.below hB
  have hC := hid (fun W hh hr => right_impl w.heap.size a cap ⟨P, ix, lf, lv, pl⟩ W hh hr)
  rw [hok] at hC
  replace hok := hid hok
  go_enter Try.func9, Try.ntmps9
  go_upto_region 1 with fail
  obtain ⟨V, hV⟩ : ∃ V, (w.alloc (.cells #[.slice a P.length cap, .int .i64 ix, .int .i64 lf, .bool lv, .bool pl] 25)).alloc (.cells #[.slice none 0 0, .int .i64 0, .int .i64 0, .bool false, .bool false] 25) = V := ⟨_, rfl⟩
  rw [hV] at qO qR hB hr ⊢
  have hVs : V.heap.size = w.heap.size + 1 + 1 := by rw [← hV]; simp
  clear hV
  replace qO := hid qO
  replace qR := hid qR
  replace hB := hid hB
  replace hr := hid hr
  replace hVs := hid hVs
  go_wp2_with fail
  refine (hC.out _ qO.out hr.out).mono ?_
  rintro e w1 ⟨rfl, n1, rfl⟩
  have B1 : Hid (Below w.heap.size w (V.drewN n1)) := hB.out.trans (Below.drewN _ _ _)
  have q1 : Hid (Blk (V.drewN n1) w.heap.size #[.slice a P.length cap, .int .i64 ix, .int .i64 lf, .bool lv, .bool pl]) := qO.out
  have r1 : Hid (Blk (V.drewN n1) (w.heap.size + 1) dkZ) := qR.out
  have hr1 : Hid (RowR (V.drewN n1) (.slice a P.length cap) P) := hr.out
  have s1 : Hid ((V.drewN n1).heap.size = w.heap.size + 1 + 1) := hVs.out
  obtain ⟨w1, hw1⟩ : ∃ w1, V.drewN n1 = w1 := ⟨_, rfl⟩
  rw [hw1] at B1 q1 r1 hr1 s1 ⊢
  clear hw1 qO qR hB hr hC hVs
  obtain ⟨O, hO⟩ : ∃ O, w.heap.size = O := ⟨_, rfl⟩
  have hOh : Hid (w.heap.size = O) := hO
  rw [hO] at q1 r1 s1 ⊢
  clear hO
  have n3 : ¬ O = O + 1 := by omega
  have n4 : ¬ O + 1 = O := by omega
  have hI := hid (fun W => withinV_impl t 0 100000 W)
  rw [hin] at hI
  go_wp2_with fail
  refine (hI.out _).mono ?_
  rintro e w' ⟨rfl, hww⟩
  obtain rfl := hww.symm
  clear hI
  have r := r1
  have x8 := (lay5_blk r.out rfl (.slice none 0 0) 0 0 false false).cell
  dsimp only [lay5] at x8
  replace x8 := hid x8
  have G8 : Hid (Grow w (lay5 w1 (O + 1) (.slice none 0 0) 0 0 false false) (.slice none 0 0) _) := (Grow.nilv B1.out).lay5 (by have := hOh.out; omega) (by simp [Value.ownBlock]) _ _ _ _ _
  dsimp only [lay5] at G8
  have xR := r.out.cell
  have fR := r.out.frozen
  have lR := r.out.lt
  go_wp2
  have x9 := x8.out
  exact bodyPost_ret (v := .tuple #[.agg #[.slice none 0 0, .int .i64 0, .int .i64 0, .bool false, .bool false], .int .i64 0, .int .i64 4]) (by simp [results, Try.results9, go_sem, x9]; try rfl) rfl ⟨_, rfl, G8.out⟩
set_option maxRecDepth 100000 in
set_option maxHeartbeats 1000000 in
theorem runI_go (a : Option Addr) (cap : Nat) (P : List Int) (ix lf : Int) (lv pl : Bool) (t : Int) (w : World) (h : RowR w (.slice a P.length cap) P) (hl : P.length ≤ 1048576) (hok : (Dk.mk P ix lf lv pl).ok = true) (hin : inB t 0 100000 = true) (I L E : Int) (V1 L1 : Bool) (hR : Hid (run2 ⟨P, ix, lf, lv, pl⟩ t = (⟨P, I, L, V1, L1⟩, E))) :
    Calls Try.prog 9 #[.agg #[.slice a P.length cap, .int .i64 ix, .int .i64 lf, .bool lv, .bool pl], .int .i64 t] w fun e w' => ∃ v, e = .returned (.tuple #[.agg #[v, .int .i64 I, .int .i64 L, .bool V1, .bool L1], .int .i64 E, .int .i64 0]) ∧ Grow w w' v P := by
  obtain ⟨qO, qR, hB⟩ := two_newD w #[.slice a P.length cap, .int .i64 ix, .int .i64 lf, .bool lv, .bool pl] dkZ 25 25
  have hr := h.below hB
  have hC := hid (fun W hh hr => right_impl w.heap.size a cap ⟨P, ix, lf, lv, pl⟩ W hh hr)
  rw [hok] at hC
  replace hok := hid hok
  go_enter Try.func9, Try.ntmps9
  go_upto_region 1 with fail
  obtain ⟨V, hV⟩ : ∃ V, (w.alloc (.cells #[.slice a P.length cap, .int .i64 ix, .int .i64 lf, .bool lv, .bool pl] 25)).alloc (.cells #[.slice none 0 0, .int .i64 0, .int .i64 0, .bool false, .bool false] 25) = V := ⟨_, rfl⟩
  rw [hV] at qO qR hB hr ⊢
  have hVs : V.heap.size = w.heap.size + 1 + 1 := by rw [← hV]; simp
  clear hV
  replace qO := hid qO
  replace qR := hid qR
  replace hB := hid hB
  replace hr := hid hr
  replace hVs := hid hVs
  go_wp2_with fail
  refine (hC.out _ qO.out hr.out).mono ?_
  rintro e w1 ⟨rfl, n1, rfl⟩
  have B1 : Hid (Below w.heap.size w (V.drewN n1)) := hB.out.trans (Below.drewN _ _ _)
  have q1 : Hid (Blk (V.drewN n1) w.heap.size #[.slice a P.length cap, .int .i64 ix, .int .i64 lf, .bool lv, .bool pl]) := qO.out
  have r1 : Hid (Blk (V.drewN n1) (w.heap.size + 1) dkZ) := qR.out
  have hr1 : Hid (RowR (V.drewN n1) (.slice a P.length cap) P) := hr.out
  have s1 : Hid ((V.drewN n1).heap.size = w.heap.size + 1 + 1) := hVs.out
  obtain ⟨w1, hw1⟩ : ∃ w1, V.drewN n1 = w1 := ⟨_, rfl⟩
  rw [hw1] at B1 q1 r1 hr1 s1 ⊢
  clear hw1 qO qR hB hr hC hVs
  obtain ⟨O, hO⟩ : ∃ O, w.heap.size = O := ⟨_, rfl⟩
  have hOh : Hid (w.heap.size = O) := hO
  rw [hO] at q1 r1 s1 ⊢
  clear hO
  have n3 : ¬ O = O + 1 := by omega
  have n4 : ¬ O + 1 = O := by omega
  have hI := hid (fun W => withinV_impl t 0 100000 W)
  rw [hin] at hI
  go_wp2_with fail
  refine (hI.out _).mono ?_
  rintro e w' ⟨rfl, hww⟩
  obtain rfl := hww.symm
  clear hI
  have ht := of_decide_eq_true hin
  have hM := hid (fun W b a cap hb hr hn => runm_impl b a cap ⟨P, ix, lf, lv, pl⟩ t W hb hr hn hok.out ht.1 (by omega))
  rw [hR.out] at hM
  go_wp2_with fail
  refine (copied_impl O a cap ⟨P, ix, lf, lv, pl⟩ w1 q1.out hr1.out hl).mono ?_
  rintro e w2 ⟨v2, rfl, q2, G2, nb2⟩
  obtain ⟨a2, c2, rfl⟩ := G2.form
  have r2 := hid (r1.out.below G2.bel r1.out.lt)
  have ap2 := hid (G2.apart nb2)
  have rr2 := hid (OwnI.of G2).read
  have nR2 : Hid ((Value.slice a2 P.length c2).ownBlock ≠ some (O + 1)) := G2.off r1.out.lt
  have G2w := hid (G2.since B1.out)
  obtain ⟨g, hg⟩ : ∃ g, w1.heap.size = g := ⟨_, rfl⟩
  have hgO : g = O + 1 + 1 := by rw [← hg]; exact s1.out
  rw [hg] at q2 nb2 ap2 ⊢
  replace q2 := hid q2
  replace nb2 := hid nb2
  clear hg G2 q1 r1 hr1 B1 s1
  have hgw : Hid (w.heap.size ≤ g ∧ O + 1 ≠ g ∧ g = O + 1 + 1) := ⟨by have := hOh.out; omega, by omega, hgO⟩
  have n5 : ¬ O + 1 = g := by omega
  have n6 : ¬ g = O + 1 := by omega
  clear hgO
  go_wp2_with fail
  refine (hM.out w2 g a2 c2 q2.out rr2.out ap2.out).mono ?_
  rintro e w3 ⟨rfl, q3, g3⟩
  have r := hid (r2.out.grown g3 (by simp; exact hgw.out.2.1))
  have G3 := hid (G2w.out.far g3 hgw.out.1 nb2.out)
  have x3 := q3.cell
  clear q3 g3 q2 r2 ap2 rr2 G2w nb2
  have x8 := (lay5_blk r.out rfl (.slice a2 P.length c2) I L V1 L1).cell
  dsimp only [lay5] at x8
  replace x8 := hid x8
  have G8 : Hid (Grow w (lay5 w3 (O + 1) (.slice a2 P.length c2) I L V1 L1) (.slice a2 P.length c2) _) := G3.out.lay5 (by have := hOh.out; omega) nR2.out _ _ _ _ _
  dsimp only [lay5] at G8
  have xR := r.out.cell
  have fR := r.out.frozen
  have lR := r.out.lt
  go_wp2
  have x9 := x8.out
  exact bodyPost_ret (v := .tuple #[.agg #[.slice a2 P.length c2, .int .i64 I, .int .i64 L, .bool V1, .bool L1], .int .i64 E, .int .i64 0]) (by simp [results, Try.results9, go_sem, x9]; try rfl) rfl ⟨_, rfl, G8.out⟩
theorem rund_impl (a : Option Addr) (cap : Nat) (d : Dk) (t : Int) (w : World) (h : RowR w (.slice a d.pulses.length cap) d.pulses) (hl : d.pulses.length ≤ 1048576) :
    Calls Try.prog 9 #[dkV (.slice a d.pulses.length cap) d, .int .i64 t] w fun e w' => ∃ v, e = .returned (.tuple #[dkV v (runV d t).1.1, .int .i64 (runV d t).1.2, .int .i64 (runV d t).2]) ∧ Grow w w' v (runV d t).1.1.pulses := by
  obtain ⟨P, ix, lf, lv, pl⟩ := d
  unfold runV
  cases hok : (Dk.mk P ix lf lv pl).ok
  · exact runI_bad a cap P ix lf lv pl t w h hl hok
  · rw [if_pos rfl]
    cases hin : inB t 0 100000
    · exact runI_out a cap P ix lf lv pl t w h hl hok hin
    · rw [if_pos rfl]
      have hp := (runD_ok (P.length + 1) ⟨P, ix, lf, lv, pl⟩ t 0 hok).2.1
      obtain ⟨⟨⟨P2, I, L, V1, L1⟩, E⟩, hE⟩ : ∃ p, p = run2 ⟨P, ix, lf, lv, pl⟩ t := ⟨_, rfl⟩
      have hp2 : (run2 ⟨P, ix, lf, lv, pl⟩ t).1.pulses = P := hp
      rw [← hE] at hp2 ⊢
      obtain rfl : P2 = P := hp2
      exact runI_go a cap P2 ix lf lv pl t w h hl hok hin I L E V1 L1 hE.symm
end Go.Proofs.Ytohnddjijedfkaa
