/- A deck is played, stopped, rewound: the specification. -/
import Derived.Test.YtohnddjijedfkaaDf
namespace Go.Proofs.Ytohnddjijedfkaa
open Go.ChangeShapes Go.WideShapes Go.ChangeAt Go.RowKit
set_option linter.unusedVariables false
set_option linter.unusedSimpArgs false

set_option maxRecDepth 100000 in
set_option maxHeartbeats 1000000 in
theorem play_bad (a : Option Addr) (cap : Nat) (P : List Int) (ix lf : Int) (lv pl : Bool) (w : World) (h : RowR w (.slice a P.length cap) P) (hl : P.length ≤ 1048576) (hok : (Dk.mk P ix lf lv pl).ok = false) :
    Calls Try.prog 18 #[.agg #[.slice a P.length cap, .int .i64 ix, .int .i64 lf, .bool lv, .bool pl]] w fun e w' => ∃ v, e = .returned (.tuple #[.agg #[v, .int .i64 0, .int .i64 0, .bool false, .bool false], .int .i64 1]) ∧ Grow w w' v [] := by
  obtain ⟨qO, qR, hB⟩ := two_newD w #[.slice a P.length cap, .int .i64 ix, .int .i64 lf, .bool lv, .bool pl] dkZ 25 25
  have hr := h.below hB
  have hC := hid (fun W hh => deckok_spec a cap ⟨P, ix, lf, lv, pl⟩ W hh hl)
  rw [hok] at hC
  go_enter Try.func18, Try.ntmps18
  go_upto_region 1 with fail
  obtain ⟨V, hV⟩ : ∃ V, (w.alloc (.cells #[.slice a P.length cap, .int .i64 ix, .int .i64 lf, .bool lv, .bool pl] 25)).alloc (.cells #[.slice none 0 0, .int .i64 0, .int .i64 0, .bool false, .bool false] 25) = V := ⟨_, rfl⟩
  rw [hV] at qO qR hB hr ⊢
  clear hV
  have x0 := qO.cell
  replace qO := hid qO
  replace qR := hid qR
  replace hB := hid hB
  replace hr := hid hr
  go_wp2_with fail
  refine (hC.out _ hr.out).mono ?_
  rintro e w1 ⟨rfl, hb⟩
  have B1 := hid (new_trans hB.out hb)
  have q1 := hid (qO.out.below hb qO.out.lt)
  have r1 := hid (qR.out.below hb qR.out.lt)
  have hr1 := hid (hr.out.below hb)
  clear hb x0 qO qR hB hr hC
  obtain ⟨O, hO⟩ : ∃ O, w.heap.size = O := ⟨_, rfl⟩
  have hOh : Hid (w.heap.size = O) := hO
  rw [hO] at q1 r1 ⊢
  clear hO
  have n3 : ¬ O = O + 1 := by omega
  have n4 : ¬ O + 1 = O := by omega
  have r := r1
  have x8 := (lay5_blk r.out rfl (.slice none 0 0) 0 0 false false).cell
  dsimp only [lay5] at x8
  replace x8 := hid x8
  have G8 : Hid (Grow w (lay5 w1 (O + 1) (.slice none 0 0) 0 0 false false) (.slice none 0 0) _) := (Grow.nilv B1.out).lay5 (by have := hOh.out; omega) (by simp [Value.ownBlock]) _ _ _ _ _
  dsimp only [lay5] at G8
  have xR := r.out.cell
  have fR := r.out.frozen
  have lR := r.out.lt
  go_wp2
  have x9 := x8.out
  exact bodyPost_ret (v := .tuple #[.agg #[.slice none 0 0, .int .i64 0, .int .i64 0, .bool false, .bool false], .int .i64 1]) (by simp [results, Try.results18, go_sem, x9]; try rfl) rfl ⟨_, rfl, G8.out⟩
set_option maxRecDepth 100000 in
set_option maxHeartbeats 1000000 in
theorem play_end (a : Option Addr) (cap : Nat) (P : List Int) (ix lf : Int) (lv pl : Bool) (w : World) (h : RowR w (.slice a P.length cap) P) (hl : P.length ≤ 1048576) (hok : (Dk.mk P ix lf lv pl).ok = true) (he : Hid (ix = (P.length : Int))) :
    Calls Try.prog 18 #[.agg #[.slice a P.length cap, .int .i64 ix, .int .i64 lf, .bool lv, .bool pl]] w fun e w' => ∃ v, e = .returned (.tuple #[.agg #[v, .int .i64 ix, .int .i64 lf, .bool lv, .bool pl], .int .i64 9]) ∧ Grow w w' v P := by
  obtain ⟨qO, qR, hB⟩ := two_newD w #[.slice a P.length cap, .int .i64 ix, .int .i64 lf, .bool lv, .bool pl] dkZ 25 25
  have hr := h.below hB
  have hC := hid (fun W hh => deckok_spec a cap ⟨P, ix, lf, lv, pl⟩ W hh hl)
  rw [hok] at hC
  go_enter Try.func18, Try.ntmps18
  go_upto_region 1 with fail
  obtain ⟨V, hV⟩ : ∃ V, (w.alloc (.cells #[.slice a P.length cap, .int .i64 ix, .int .i64 lf, .bool lv, .bool pl] 25)).alloc (.cells #[.slice none 0 0, .int .i64 0, .int .i64 0, .bool false, .bool false] 25) = V := ⟨_, rfl⟩
  rw [hV] at qO qR hB hr ⊢
  clear hV
  have x0 := qO.cell
  replace qO := hid qO
  replace qR := hid qR
  replace hB := hid hB
  replace hr := hid hr
  go_wp2_with fail
  refine (hC.out _ hr.out).mono ?_
  rintro e w1 ⟨rfl, hb⟩
  have B1 := hid (new_trans hB.out hb)
  have q1 := hid (qO.out.below hb qO.out.lt)
  have r1 := hid (qR.out.below hb qR.out.lt)
  have hr1 := hid (hr.out.below hb)
  clear hb x0 qO qR hB hr hC
  obtain ⟨O, hO⟩ : ∃ O, w.heap.size = O := ⟨_, rfl⟩
  have hOh : Hid (w.heap.size = O) := hO
  rw [hO] at q1 r1 ⊢
  clear hO
  have n3 : ¬ O = O + 1 := by omega
  have n4 : ¬ O + 1 = O := by omega
  have x1 := q1.out.cell
  have f1 := q1.out.frozen
  have l1 := q1.out.lt
  have heb : (ix == (P.length : Int)) = true := by rw [beq_iff_eq]; exact he.out
  clear he
  go_wp2_with fail
  refine (own_spec a cap ⟨P, ix, lf, lv, pl⟩ _ hr1.out hl).mono ?_
  rintro e w2 ⟨v2, rfl, hG⟩
  obtain ⟨a2, c2, rfl⟩ := hG.form
  have r := hid (r1.out.below hG.bel r1.out.lt)
  have G2 := hid (hG.since B1.out)
  have nb : Hid ((Value.slice a2 P.length c2).ownBlock ≠ some (O + 1)) := hG.off r1.out.lt
  clear hG q1 r1 hr1 B1
  have x8 := (lay5_blk r.out rfl (.slice a2 P.length c2) ix lf lv pl).cell
  dsimp only [lay5] at x8
  replace x8 := hid x8
  have G8 : Hid (Grow w (lay5 w2 (O + 1) (.slice a2 P.length c2) ix lf lv pl) (.slice a2 P.length c2) _) := G2.out.lay5 (by have := hOh.out; omega) nb.out _ _ _ _ _
  dsimp only [lay5] at G8
  have xR := r.out.cell
  have fR := r.out.frozen
  have lR := r.out.lt
  go_wp2
  have x9 := x8.out
  exact bodyPost_ret (v := .tuple #[.agg #[.slice a2 P.length c2, .int .i64 ix, .int .i64 lf, .bool lv, .bool pl], .int .i64 9]) (by simp [results, Try.results18, go_sem, x9]; try rfl) rfl ⟨_, rfl, G8.out⟩
set_option maxRecDepth 100000 in
set_option maxHeartbeats 1000000 in
theorem play_go (a : Option Addr) (cap : Nat) (P : List Int) (ix lf : Int) (lv pl : Bool) (w : World) (h : RowR w (.slice a P.length cap) P) (hl : P.length ≤ 1048576) (hok : (Dk.mk P ix lf lv pl).ok = true) (he : Hid (ix ≠ (P.length : Int))) :
    Calls Try.prog 18 #[.agg #[.slice a P.length cap, .int .i64 ix, .int .i64 lf, .bool lv, .bool pl]] w fun e w' => ∃ v, e = .returned (.tuple #[.agg #[v, .int .i64 ix, .int .i64 lf, .bool lv, .bool true], .int .i64 0]) ∧ Grow w w' v P := by
  obtain ⟨qO, qR, hB⟩ := two_newD w #[.slice a P.length cap, .int .i64 ix, .int .i64 lf, .bool lv, .bool pl] dkZ 25 25
  have hr := h.below hB
  have hC := hid (fun W hh => deckok_spec a cap ⟨P, ix, lf, lv, pl⟩ W hh hl)
  rw [hok] at hC
  go_enter Try.func18, Try.ntmps18
  go_upto_region 1 with fail
  obtain ⟨V, hV⟩ : ∃ V, (w.alloc (.cells #[.slice a P.length cap, .int .i64 ix, .int .i64 lf, .bool lv, .bool pl] 25)).alloc (.cells #[.slice none 0 0, .int .i64 0, .int .i64 0, .bool false, .bool false] 25) = V := ⟨_, rfl⟩
  rw [hV] at qO qR hB hr ⊢
  clear hV
  have x0 := qO.cell
  replace qO := hid qO
  replace qR := hid qR
  replace hB := hid hB
  replace hr := hid hr
  go_wp2_with fail
  refine (hC.out _ hr.out).mono ?_
  rintro e w1 ⟨rfl, hb⟩
  have B1 := hid (new_trans hB.out hb)
  have q1 := hid (qO.out.below hb qO.out.lt)
  have r1 := hid (qR.out.below hb qR.out.lt)
  have hr1 := hid (hr.out.below hb)
  clear hb x0 qO qR hB hr hC
  obtain ⟨O, hO⟩ : ∃ O, w.heap.size = O := ⟨_, rfl⟩
  have hOh : Hid (w.heap.size = O) := hO
  rw [hO] at q1 r1 ⊢
  clear hO
  have n3 : ¬ O = O + 1 := by omega
  have n4 : ¬ O + 1 = O := by omega
  have heb : (ix == (P.length : Int)) = false := by rw [beq_eq_false_iff_ne]; exact he.out
  clear he
  have x1 := q1.out.cell
  have f1 := q1.out.frozen
  have l1 := q1.out.lt
  have q2 := hid (q1.out.set 4 (.bool true))
  have r2 := hid (r1.out.other (p := ⟨O, 4, none⟩) n4 (.bool true))
  have B2 : Hid (Below w.heap.size w (w1.setCell ⟨O, 4, none⟩ (.bool true))) := B1.out.setCell (p := ⟨O, 4, none⟩) (by show w.heap.size ≤ O; have := hOh.out; omega) _
  have hr2 : Hid (RowR (w1.setCell ⟨O, 4, none⟩ (.bool true)) (.slice a P.length cap) P) := (h.below B2.out)
  go_upto_region 6 with fail
  obtain ⟨W2, hW2⟩ : ∃ W, w1.setCell ⟨O, 4, none⟩ (.bool true) = W := ⟨_, rfl⟩
  rw [hW2] at q2 r2 B2 hr2 ⊢
  clear hW2 x1 f1 l1 q1 r1 B1 hr1
  have q1 := q2
  have r1 := r2
  have B1 := B2
  have hr1 := hr2
  clear q2 r2 B2 hr2
  have x1 := q1.out.cell
  go_wp2_with fail
  refine (own_spec a cap ⟨P, ix, lf, lv, true⟩ _ hr1.out hl).mono ?_
  rintro e w2 ⟨v2, rfl, hG⟩
  obtain ⟨a2, c2, rfl⟩ := hG.form
  have r := hid (r1.out.below hG.bel r1.out.lt)
  have G2 := hid (hG.since B1.out)
  have nb : Hid ((Value.slice a2 P.length c2).ownBlock ≠ some (O + 1)) := hG.off r1.out.lt
  clear hG q1 r1 hr1 B1
  have x8 := (lay5_blk r.out rfl (.slice a2 P.length c2) ix lf lv true).cell
  dsimp only [lay5] at x8
  replace x8 := hid x8
  have G8 : Hid (Grow w (lay5 w2 (O + 1) (.slice a2 P.length c2) ix lf lv true) (.slice a2 P.length c2) _) := G2.out.lay5 (by have := hOh.out; omega) nb.out _ _ _ _ _
  dsimp only [lay5] at G8
  have xR := r.out.cell
  have fR := r.out.frozen
  have lR := r.out.lt
  go_wp2
  have x9 := x8.out
  exact bodyPost_ret (v := .tuple #[.agg #[.slice a2 P.length c2, .int .i64 ix, .int .i64 lf, .bool lv, .bool true], .int .i64 0]) (by simp [results, Try.results18, go_sem, x9]; try rfl) rfl ⟨_, rfl, G8.out⟩
theorem play_spec (a : Option Addr) (cap : Nat) (d : Dk) (w : World) (h : RowR w (.slice a d.pulses.length cap) d.pulses) (hl : d.pulses.length ≤ 1048576) :
    Calls Try.prog 18 #[dkV (.slice a d.pulses.length cap) d] w fun e w' => ∃ v, e = .returned (.tuple #[dkV v (play2 d).1, .int .i64 (play2 d).2]) ∧ Grow w w' v (play2 d).1.pulses := by
  obtain ⟨P, ix, lf, lv, pl⟩ := d
  unfold play2
  cases hok : (Dk.mk P ix lf lv pl).ok
  · exact play_bad a cap P ix lf lv pl w h hl hok
  · rw [if_pos rfl]
    by_cases he : ix = (P.length : Int)
    · rw [if_pos (show (Dk.mk P ix lf lv pl).index = (Dk.mk P ix lf lv pl).len from he)]
      exact play_end a cap P ix lf lv pl w h hl hok he
    · rw [if_neg (show ¬ (Dk.mk P ix lf lv pl).index = (Dk.mk P ix lf lv pl).len from he)]
      exact play_go a cap P ix lf lv pl w h hl hok he
set_option maxRecDepth 100000 in
set_option maxHeartbeats 1000000 in
theorem stop_bad (a : Option Addr) (cap : Nat) (P : List Int) (ix lf : Int) (lv pl : Bool) (w : World) (h : RowR w (.slice a P.length cap) P) (hl : P.length ≤ 1048576) (hok : (Dk.mk P ix lf lv pl).ok = false) :
    Calls Try.prog 22 #[.agg #[.slice a P.length cap, .int .i64 ix, .int .i64 lf, .bool lv, .bool pl]] w fun e w' => ∃ v, e = .returned (.tuple #[.agg #[v, .int .i64 0, .int .i64 0, .bool false, .bool false], .int .i64 1]) ∧ Grow w w' v [] := by
  obtain ⟨qO, qR, hB⟩ := two_newD w #[.slice a P.length cap, .int .i64 ix, .int .i64 lf, .bool lv, .bool pl] dkZ 25 25
  have hr := h.below hB
  have hC := hid (fun W hh => deckok_spec a cap ⟨P, ix, lf, lv, pl⟩ W hh hl)
  rw [hok] at hC
  go_enter Try.func22, Try.ntmps22
  go_upto_region 1 with fail
  obtain ⟨V, hV⟩ : ∃ V, (w.alloc (.cells #[.slice a P.length cap, .int .i64 ix, .int .i64 lf, .bool lv, .bool pl] 25)).alloc (.cells #[.slice none 0 0, .int .i64 0, .int .i64 0, .bool false, .bool false] 25) = V := ⟨_, rfl⟩
  rw [hV] at qO qR hB hr ⊢
  clear hV
  have x0 := qO.cell
  replace qO := hid qO
  replace qR := hid qR
  replace hB := hid hB
  replace hr := hid hr
  go_wp2_with fail
  refine (hC.out _ hr.out).mono ?_
  rintro e w1 ⟨rfl, hb⟩
  have B1 := hid (new_trans hB.out hb)
  have q1 := hid (qO.out.below hb qO.out.lt)
  have r1 := hid (qR.out.below hb qR.out.lt)
  have hr1 := hid (hr.out.below hb)
  clear hb x0 qO qR hB hr hC
  obtain ⟨O, hO⟩ : ∃ O, w.heap.size = O := ⟨_, rfl⟩
  have hOh : Hid (w.heap.size = O) := hO
  rw [hO] at q1 r1 ⊢
  clear hO
  have n3 : ¬ O = O + 1 := by omega
  have n4 : ¬ O + 1 = O := by omega
  have r := r1
  have x8 := (lay5_blk r.out rfl (.slice none 0 0) 0 0 false false).cell
  dsimp only [lay5] at x8
  replace x8 := hid x8
  have G8 : Hid (Grow w (lay5 w1 (O + 1) (.slice none 0 0) 0 0 false false) (.slice none 0 0) _) := (Grow.nilv B1.out).lay5 (by have := hOh.out; omega) (by simp [Value.ownBlock]) _ _ _ _ _
  dsimp only [lay5] at G8
  have xR := r.out.cell
  have fR := r.out.frozen
  have lR := r.out.lt
  go_wp2
  have x9 := x8.out
  exact bodyPost_ret (v := .tuple #[.agg #[.slice none 0 0, .int .i64 0, .int .i64 0, .bool false, .bool false], .int .i64 1]) (by simp [results, Try.results22, go_sem, x9]; try rfl) rfl ⟨_, rfl, G8.out⟩
set_option maxRecDepth 100000 in
set_option maxHeartbeats 1000000 in
theorem stop_no (a : Option Addr) (cap : Nat) (P : List Int) (ix lf : Int) (lv pl : Bool) (w : World) (h : RowR w (.slice a P.length cap) P) (hl : P.length ≤ 1048576) (hok : (Dk.mk P ix lf lv pl).ok = true) (he : Hid (pl = false)) :
    Calls Try.prog 22 #[.agg #[.slice a P.length cap, .int .i64 ix, .int .i64 lf, .bool lv, .bool pl]] w fun e w' => ∃ v, e = .returned (.tuple #[.agg #[v, .int .i64 ix, .int .i64 lf, .bool lv, .bool false], .int .i64 13]) ∧ Grow w w' v P := by
  obtain ⟨qO, qR, hB⟩ := two_newD w #[.slice a P.length cap, .int .i64 ix, .int .i64 lf, .bool lv, .bool pl] dkZ 25 25
  have hr := h.below hB
  have hC := hid (fun W hh => deckok_spec a cap ⟨P, ix, lf, lv, pl⟩ W hh hl)
  rw [hok] at hC
  go_enter Try.func22, Try.ntmps22
  go_upto_region 1 with fail
  obtain ⟨V, hV⟩ : ∃ V, (w.alloc (.cells #[.slice a P.length cap, .int .i64 ix, .int .i64 lf, .bool lv, .bool pl] 25)).alloc (.cells #[.slice none 0 0, .int .i64 0, .int .i64 0, .bool false, .bool false] 25) = V := ⟨_, rfl⟩
  rw [hV] at qO qR hB hr ⊢
  clear hV
  have x0 := qO.cell
  replace qO := hid qO
  replace qR := hid qR
  replace hB := hid hB
  replace hr := hid hr
  go_wp2_with fail
  refine (hC.out _ hr.out).mono ?_
  rintro e w1 ⟨rfl, hb⟩
  have B1 := hid (new_trans hB.out hb)
  have q1 := hid (qO.out.below hb qO.out.lt)
  have r1 := hid (qR.out.below hb qR.out.lt)
  have hr1 := hid (hr.out.below hb)
  clear hb x0 qO qR hB hr hC
  obtain ⟨O, hO⟩ : ∃ O, w.heap.size = O := ⟨_, rfl⟩
  have hOh : Hid (w.heap.size = O) := hO
  rw [hO] at q1 r1 ⊢
  clear hO
  have n3 : ¬ O = O + 1 := by omega
  have n4 : ¬ O + 1 = O := by omega
  have he2 := he.out
  clear he
  subst he2
  have x1 := q1.out.cell
  have f1 := q1.out.frozen
  have l1 := q1.out.lt
  go_wp2_with fail
  refine (own_spec a cap ⟨P, ix, lf, lv, false⟩ _ hr1.out hl).mono ?_
  rintro e w2 ⟨v2, rfl, hG⟩
  obtain ⟨a2, c2, rfl⟩ := hG.form
  have r := hid (r1.out.below hG.bel r1.out.lt)
  have G2 := hid (hG.since B1.out)
  have nb : Hid ((Value.slice a2 P.length c2).ownBlock ≠ some (O + 1)) := hG.off r1.out.lt
  clear hG q1 r1 hr1 B1
  have x8 := (lay5_blk r.out rfl (.slice a2 P.length c2) ix lf lv false).cell
  dsimp only [lay5] at x8
  replace x8 := hid x8
  have G8 : Hid (Grow w (lay5 w2 (O + 1) (.slice a2 P.length c2) ix lf lv false) (.slice a2 P.length c2) _) := G2.out.lay5 (by have := hOh.out; omega) nb.out _ _ _ _ _
  dsimp only [lay5] at G8
  have xR := r.out.cell
  have fR := r.out.frozen
  have lR := r.out.lt
  go_wp2
  have x9 := x8.out
  exact bodyPost_ret (v := .tuple #[.agg #[.slice a2 P.length c2, .int .i64 ix, .int .i64 lf, .bool lv, .bool false], .int .i64 13]) (by simp [results, Try.results22, go_sem, x9]; try rfl) rfl ⟨_, rfl, G8.out⟩
set_option maxRecDepth 100000 in
set_option maxHeartbeats 1000000 in
theorem stop_go (a : Option Addr) (cap : Nat) (P : List Int) (ix lf : Int) (lv pl : Bool) (w : World) (h : RowR w (.slice a P.length cap) P) (hl : P.length ≤ 1048576) (hok : (Dk.mk P ix lf lv pl).ok = true) (he : Hid (pl = true)) :
    Calls Try.prog 22 #[.agg #[.slice a P.length cap, .int .i64 ix, .int .i64 lf, .bool lv, .bool pl]] w fun e w' => ∃ v, e = .returned (.tuple #[.agg #[v, .int .i64 ix, .int .i64 lf, .bool lv, .bool false], .int .i64 0]) ∧ Grow w w' v P := by
  obtain ⟨qO, qR, hB⟩ := two_newD w #[.slice a P.length cap, .int .i64 ix, .int .i64 lf, .bool lv, .bool pl] dkZ 25 25
  have hr := h.below hB
  have hC := hid (fun W hh => deckok_spec a cap ⟨P, ix, lf, lv, pl⟩ W hh hl)
  rw [hok] at hC
  go_enter Try.func22, Try.ntmps22
  go_upto_region 1 with fail
  obtain ⟨V, hV⟩ : ∃ V, (w.alloc (.cells #[.slice a P.length cap, .int .i64 ix, .int .i64 lf, .bool lv, .bool pl] 25)).alloc (.cells #[.slice none 0 0, .int .i64 0, .int .i64 0, .bool false, .bool false] 25) = V := ⟨_, rfl⟩
  rw [hV] at qO qR hB hr ⊢
  clear hV
  have x0 := qO.cell
  replace qO := hid qO
  replace qR := hid qR
  replace hB := hid hB
  replace hr := hid hr
  go_wp2_with fail
  refine (hC.out _ hr.out).mono ?_
  rintro e w1 ⟨rfl, hb⟩
  have B1 := hid (new_trans hB.out hb)
  have q1 := hid (qO.out.below hb qO.out.lt)
  have r1 := hid (qR.out.below hb qR.out.lt)
  have hr1 := hid (hr.out.below hb)
  clear hb x0 qO qR hB hr hC
  obtain ⟨O, hO⟩ : ∃ O, w.heap.size = O := ⟨_, rfl⟩
  have hOh : Hid (w.heap.size = O) := hO
  rw [hO] at q1 r1 ⊢
  clear hO
  have n3 : ¬ O = O + 1 := by omega
  have n4 : ¬ O + 1 = O := by omega
  have he2 := he.out
  clear he
  subst he2
  have x1 := q1.out.cell
  have f1 := q1.out.frozen
  have l1 := q1.out.lt
  have q2 := hid (q1.out.set 4 (.bool false))
  have r2 := hid (r1.out.other (p := ⟨O, 4, none⟩) n4 (.bool false))
  have B2 : Hid (Below w.heap.size w (w1.setCell ⟨O, 4, none⟩ (.bool false))) := B1.out.setCell (p := ⟨O, 4, none⟩) (by show w.heap.size ≤ O; have := hOh.out; omega) _
  have hr2 : Hid (RowR (w1.setCell ⟨O, 4, none⟩ (.bool false)) (.slice a P.length cap) P) := (h.below B2.out)
  go_upto_region 6 with fail
  obtain ⟨W2, hW2⟩ : ∃ W, w1.setCell ⟨O, 4, none⟩ (.bool false) = W := ⟨_, rfl⟩
  rw [hW2] at q2 r2 B2 hr2 ⊢
  clear hW2 x1 f1 l1 q1 r1 B1 hr1
  have q1 := q2
  have r1 := r2
  have B1 := B2
  have hr1 := hr2
  clear q2 r2 B2 hr2
  have x1 := q1.out.cell
  go_wp2_with fail
  refine (own_spec a cap ⟨P, ix, lf, lv, false⟩ _ hr1.out hl).mono ?_
  rintro e w2 ⟨v2, rfl, hG⟩
  obtain ⟨a2, c2, rfl⟩ := hG.form
  have r := hid (r1.out.below hG.bel r1.out.lt)
  have G2 := hid (hG.since B1.out)
  have nb : Hid ((Value.slice a2 P.length c2).ownBlock ≠ some (O + 1)) := hG.off r1.out.lt
  clear hG q1 r1 hr1 B1
  have x8 := (lay5_blk r.out rfl (.slice a2 P.length c2) ix lf lv false).cell
  dsimp only [lay5] at x8
  replace x8 := hid x8
  have G8 : Hid (Grow w (lay5 w2 (O + 1) (.slice a2 P.length c2) ix lf lv false) (.slice a2 P.length c2) _) := G2.out.lay5 (by have := hOh.out; omega) nb.out _ _ _ _ _
  dsimp only [lay5] at G8
  have xR := r.out.cell
  have fR := r.out.frozen
  have lR := r.out.lt
  go_wp2
  have x9 := x8.out
  exact bodyPost_ret (v := .tuple #[.agg #[.slice a2 P.length c2, .int .i64 ix, .int .i64 lf, .bool lv, .bool false], .int .i64 0]) (by simp [results, Try.results22, go_sem, x9]; try rfl) rfl ⟨_, rfl, G8.out⟩
theorem stop_spec (a : Option Addr) (cap : Nat) (d : Dk) (w : World) (h : RowR w (.slice a d.pulses.length cap) d.pulses) (hl : d.pulses.length ≤ 1048576) :
    Calls Try.prog 22 #[dkV (.slice a d.pulses.length cap) d] w fun e w' => ∃ v, e = .returned (.tuple #[dkV v (stop2 d).1, .int .i64 (stop2 d).2]) ∧ Grow w w' v (stop2 d).1.pulses := by
  obtain ⟨P, ix, lf, lv, pl⟩ := d
  unfold stop2
  cases hok : (Dk.mk P ix lf lv pl).ok
  · exact stop_bad a cap P ix lf lv pl w h hl hok
  · rw [if_pos rfl]
    cases pl
    · rw [if_neg (show ¬ (Dk.mk P ix lf lv false).plays = true from fun e => by cases e)]
      exact stop_no a cap P ix lf lv false w h hl hok rfl
    · rw [if_pos (show (Dk.mk P ix lf lv true).plays = true from rfl)]
      exact stop_go a cap P ix lf lv true w h hl hok rfl
end Go.Proofs.Ytohnddjijedfkaa
