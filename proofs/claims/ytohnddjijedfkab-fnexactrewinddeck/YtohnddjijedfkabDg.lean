/- A deck is played, stopped, rewound: the specification. -/
import Derived.Test.YtohnddjijedfkabDf
namespace Go.Proofs.Ytohnddjijedfkab
open Go.ChangeShapes Go.WideShapes Go.ChangeAt Go.RowKit
set_option linter.unusedVariables false
set_option linter.unusedSimpArgs false

set_option maxRecDepth 100000 in
set_option maxHeartbeats 1000000 in
theorem rew_bad (a : Option Addr) (cap : Nat) (P : List Int) (ix lf : Int) (lv pl : Bool) (w : World) (h : RowR w (.slice a P.length cap) P) (hl : P.length ≤ 1048576) (hok : (Dk.mk P ix lf lv pl).ok = false) :
    Calls Try.prog 7 #[.agg #[.slice a P.length cap, .int .i64 ix, .int .i64 lf, .bool lv, .bool pl]] w fun e w' => ∃ v, e = .returned (.tuple #[.agg #[v, .int .i64 0, .int .i64 0, .bool false, .bool false], .int .i64 1]) ∧ Grow w w' v [] := by
  obtain ⟨qO, qR, hB⟩ := two_newD w #[.slice a P.length cap, .int .i64 ix, .int .i64 lf, .bool lv, .bool pl] dkZ 26 26
  have hr := h.below hB
  have hC := hid (fun W hh => deckok_spec a cap ⟨P, ix, lf, lv, pl⟩ W hh hl)
  rw [hok] at hC
  go_enter Try.func7, Try.ntmps7
  go_upto_region 1 with fail
  obtain ⟨V, hV⟩ : ∃ V, (w.alloc (.cells #[.slice a P.length cap, .int .i64 ix, .int .i64 lf, .bool lv, .bool pl] 26)).alloc (.cells #[.slice none 0 0, .int .i64 0, .int .i64 0, .bool false, .bool false] 26) = V := ⟨_, rfl⟩
  rw [hV] at qO qR hB hr ⊢
  clear hV
  have x0 := qO.cell
  replace qO := hid qO
  replace qR := hid qR
  replace hB := hid hB
  replace hr := hid hr
  go_wp2_with fail
  refine (hC.out _ hr.out).mono ?_
  rintro e w1 ⟨rfl, hb⟩
  have B1 := hid (new_trans hB.out hb)
  have q1 := hid (qO.out.below hb qO.out.lt)
  have r1 := hid (qR.out.below hb qR.out.lt)
  have hr1 := hid (hr.out.below hb)
  clear hb x0 qO qR hB hr hC
  obtain ⟨O, hO⟩ : ∃ O, w.heap.size = O := ⟨_, rfl⟩
  have hOh : Hid (w.heap.size = O) := hO
  rw [hO] at q1 r1 ⊢
  clear hO
  have n3 : ¬ O = O + 1 := by omega
  have n4 : ¬ O + 1 = O := by omega
  have r := r1
  have x8 := (lay5_blk r.out rfl (.slice none 0 0) 0 0 false false).cell
  dsimp only [lay5] at x8
  replace x8 := hid x8
  have G8 : Hid (Grow w (lay5 w1 (O + 1) (.slice none 0 0) 0 0 false false) (.slice none 0 0) _) := (Grow.nilv B1.out).lay5 (by have := hOh.out; omega) (by simp [Value.ownBlock]) _ _ _ _ _
  dsimp only [lay5] at G8
  have xR := r.out.cell
  have fR := r.out.frozen
  have lR := r.out.lt
  go_wp2
  have x9 := x8.out
  exact bodyPost_ret (v := .tuple #[.agg #[.slice none 0 0, .int .i64 0, .int .i64 0, .bool false, .bool false], .int .i64 1]) (by simp [results, Try.results7, go_sem, x9]; try rfl) rfl ⟨_, rfl, G8.out⟩
set_option maxRecDepth 100000 in
set_option maxHeartbeats 1000000 in
theorem rew_go (a : Option Addr) (cap : Nat) (P : List Int) (ix lf : Int) (lv pl : Bool) (w : World) (h : RowR w (.slice a P.length cap) P) (hl : P.length ≤ 1048576) (hok : (Dk.mk P ix lf lv pl).ok = true) (LF : Int) (hLF : Hid (LF = ((Dk.mk P 0 0 false false).goto 0).left)) :
    Calls Try.prog 7 #[.agg #[.slice a P.length cap, .int .i64 ix, .int .i64 lf, .bool lv, .bool pl]] w fun e w' => ∃ v, e = .returned (.tuple #[.agg #[v, .int .i64 0, .int .i64 LF, .bool false, .bool false], .int .i64 0]) ∧ Grow w w' v P := by
  obtain ⟨qO, qR, hB⟩ := two_newD w #[.slice a P.length cap, .int .i64 ix, .int .i64 lf, .bool lv, .bool pl] dkZ 26 26
  have hr := h.below hB
  have hC := hid (fun W hh => deckok_spec a cap ⟨P, ix, lf, lv, pl⟩ W hh hl)
  rw [hok] at hC
  go_enter Try.func7, Try.ntmps7
  go_upto_region 1 with fail
  obtain ⟨V, hV⟩ : ∃ V, (w.alloc (.cells #[.slice a P.length cap, .int .i64 ix, .int .i64 lf, .bool lv, .bool pl] 26)).alloc (.cells #[.slice none 0 0, .int .i64 0, .int .i64 0, .bool false, .bool false] 26) = V := ⟨_, rfl⟩
  rw [hV] at qO qR hB hr ⊢
  clear hV
  have x0 := qO.cell
  replace qO := hid qO
  replace qR := hid qR
  replace hB := hid hB
  replace hr := hid hr
  go_wp2_with fail
  refine (hC.out _ hr.out).mono ?_
  rintro e w1 ⟨rfl, hb⟩
  have B1 := hid (new_trans hB.out hb)
  have q1 := hid (qO.out.below hb qO.out.lt)
  have r1 := hid (qR.out.below hb qR.out.lt)
  have hr1 := hid (hr.out.below hb)
  clear hb x0 qO qR hB hr hC
  obtain ⟨O, hO⟩ : ∃ O, w.heap.size = O := ⟨_, rfl⟩
  have hOh : Hid (w.heap.size = O) := hO
  rw [hO] at q1 r1 ⊢
  clear hO
  have n3 : ¬ O = O + 1 := by omega
  have n4 : ¬ O + 1 = O := by omega
  have x1 := q1.out.cell
  have hgo := hid (goto_spec a cap ⟨P, 0, 0, false, false⟩ 0 w1 hr1.out (by omega) hl)
  have e1 : (Dk.mk P 0 0 false false).goto 0 = ⟨P, 0, LF, false, false⟩ := by rw [hLF.out]; rfl
  rw [e1] at hgo
  clear e1
  go_wp2_with fail
  refine hgo.out.mono ?_
  rintro e w3 ⟨rfl, hb⟩
  have q3 := hid (q1.out.below hb q1.out.lt)
  have r3 := hid (r1.out.below hb r1.out.lt)
  have B3 := hid (new_trans B1.out hb)
  have hr3 := hid (hr1.out.below hb)
  clear hb q1 r1 B1 hr1 x1 hgo
  have q1 := q3
  have r1 := r3
  have B1 := B3
  have hr1 := hr3
  clear q3 r3 B3 hr3
  go_wp2_with fail
  refine (own_spec a cap ⟨P, 0, LF, false, false⟩ _ hr1.out hl).mono ?_
  rintro e w2 ⟨v2, rfl, hG⟩
  obtain ⟨a2, c2, rfl⟩ := hG.form
  have r := hid (r1.out.below hG.bel r1.out.lt)
  have G2 := hid (hG.since B1.out)
  have nb : Hid ((Value.slice a2 P.length c2).ownBlock ≠ some (O + 1)) := hG.off r1.out.lt
  clear hG q1 r1 hr1 B1
  have x8 := (lay5_blk r.out rfl (.slice a2 P.length c2) 0 LF false false).cell
  dsimp only [lay5] at x8
  replace x8 := hid x8
  have G8 : Hid (Grow w (lay5 w2 (O + 1) (.slice a2 P.length c2) 0 LF false false) (.slice a2 P.length c2) _) := G2.out.lay5 (by have := hOh.out; omega) nb.out _ _ _ _ _
  dsimp only [lay5] at G8
  have xR := r.out.cell
  have fR := r.out.frozen
  have lR := r.out.lt
  go_wp2
  have x9 := x8.out
  exact bodyPost_ret (v := .tuple #[.agg #[.slice a2 P.length c2, .int .i64 0, .int .i64 LF, .bool false, .bool false], .int .i64 0]) (by simp [results, Try.results7, go_sem, x9]; try rfl) rfl ⟨_, rfl, G8.out⟩
theorem rew_spec (a : Option Addr) (cap : Nat) (d : Dk) (w : World) (h : RowR w (.slice a d.pulses.length cap) d.pulses) (hl : d.pulses.length ≤ 1048576) :
    Calls Try.prog 7 #[dkV (.slice a d.pulses.length cap) d] w fun e w' => ∃ v, e = .returned (.tuple #[dkV v (rew2 d).1, .int .i64 (rew2 d).2]) ∧ Grow w w' v (rew2 d).1.pulses := by
  obtain ⟨P, ix, lf, lv, pl⟩ := d
  unfold rew2
  cases hok : (Dk.mk P ix lf lv pl).ok
  · exact rew_bad a cap P ix lf lv pl w h hl hok
  · rw [if_pos rfl]
    exact rew_go a cap P ix lf lv pl w h hl hok _ rfl
end Go.Proofs.Ytohnddjijedfkab
