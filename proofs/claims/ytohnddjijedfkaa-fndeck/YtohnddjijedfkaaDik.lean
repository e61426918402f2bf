/- RunDeck: the specification. -/
import Derived.Test.YtohnddjijedfkaaDhk
namespace Go.Proofs.Ytohnddjijedfkaa
open Go.ChangeShapes Go.WideShapes Go.ChangeAt Go.RowKit
set_option linter.unusedVariables false
set_option linter.unusedSimpArgs false

set_option maxRecDepth 100000 in
set_option maxHeartbeats 1000000 in
theorem run_bad (a : Option Addr) (cap : Nat) (P : List Int) (ix lf : Int) (lv pl : Bool) (t : Int) (w : World) (h : RowR w (.slice a P.length cap) P) (hl : P.length ≤ 1048576) (hok : (Dk.mk P ix lf lv pl).ok = false) :
    Calls Try.prog 10 #[.agg #[.slice a P.length cap, .int .i64 ix, .int .i64 lf, .bool lv, .bool pl], .int .i64 t] w fun e w' => ∃ v, e = .returned (.tuple #[.agg #[v, .int .i64 0, .int .i64 0, .bool false, .bool false], .int .i64 0, .int .i64 1]) ∧ Grow w w' v [] := by
  obtain ⟨qO, qR, hB⟩ := two_newD w #[.slice a P.length cap, .int .i64 ix, .int .i64 lf, .bool lv, .bool pl] dkZ 25 25
  have hr := h.below hB
  have hC := hid (fun W hh => deckok_spec a cap ⟨P, ix, lf, lv, pl⟩ W hh hl)
  rw [hok] at hC
  replace hok := hid hok
  go_enter Try.func10, Try.ntmps10
  go_upto_region 1 with fail
  obtain ⟨V, hV⟩ : ∃ V, (w.alloc (.cells #[.slice a P.length cap, .int .i64 ix, .int .i64 lf, .bool lv, .bool pl] 25)).alloc (.cells #[.slice none 0 0, .int .i64 0, .int .i64 0, .bool false, .bool false] 25) = V := ⟨_, rfl⟩
  rw [hV] at qO qR hB hr ⊢
  clear hV
  have x0 := qO.cell
  replace qO := hid qO
  replace qR := hid qR
  replace hB := hid hB
  replace hr := hid hr
  go_wp2_with fail
  refine (hC.out _ hr.out).mono ?_
  rintro e w1 ⟨rfl, hb⟩
  have B1 := hid (new_trans hB.out hb)
  have q1 := hid (qO.out.below hb qO.out.lt)
  have r1 := hid (qR.out.below hb qR.out.lt)
  have hr1 := hid (hr.out.below hb)
  clear hb x0 qO qR hB hr hC
  obtain ⟨O, hO⟩ : ∃ O, w.heap.size = O := ⟨_, rfl⟩
  have hOh : Hid (w.heap.size = O) := hO
  rw [hO] at q1 r1 ⊢
  clear hO
  have n3 : ¬ O = O + 1 := by omega
  have n4 : ¬ O + 1 = O := by omega
  have r := r1
  have x8 := (lay5_blk r.out rfl (.slice none 0 0) 0 0 false false).cell
  dsimp only [lay5] at x8
  replace x8 := hid x8
  have G8 : Hid (Grow w (lay5 w1 (O + 1) (.slice none 0 0) 0 0 false false) (.slice none 0 0) _) := (Grow.nilv B1.out).lay5 (by have := hOh.out; omega) (by simp [Value.ownBlock]) _ _ _ _ _
  dsimp only [lay5] at G8
  have xR := r.out.cell
  have fR := r.out.frozen
  have lR := r.out.lt
  go_wp2
  have x9 := x8.out
  exact bodyPost_ret (v := .tuple #[.agg #[.slice none 0 0, .int .i64 0, .int .i64 0, .bool false, .bool false], .int .i64 0, .int .i64 1]) (by simp [results, Try.results10, go_sem, x9]; try rfl) rfl ⟨_, rfl, G8.out⟩
set_option maxRecDepth 100000 in
set_option maxHeartbeats 1000000 in
theorem run_out (a : Option Addr) (cap : Nat) (P : List Int) (ix lf : Int) (lv pl : Bool) (t : Int) (w : World) (h : RowR w (.slice a P.length cap) P) (hl : P.length ≤ 1048576) (hok : (Dk.mk P ix lf lv pl).ok = true) (hin : inB t 0 100000 = false) :
    Calls Try.prog 10 #[.agg #[.slice a P.length cap, .int .i64 ix, .int .i64 lf, .bool lv, .bool pl], .int .i64 t] w fun e w' => ∃ v, e = .returned (.tuple #[.agg #[v, .int .i64 0, .int .i64 0, .bool false, .bool false], .int .i64 0, .int .i64 4]) ∧ Grow w w' v [] := by
  obtain ⟨qO, qR, hB⟩ := two_newD w #[.slice a P.length cap, .int .i64 ix, .int .i64 lf, .bool lv, .bool pl] dkZ 25 25
  have hr := h.below hB
  have hC := hid (fun W hh => deckok_spec a cap ⟨P, ix, lf, lv, pl⟩ W hh hl)
  rw [hok] at hC
  replace hok := hid hok
  go_enter Try.func10, Try.ntmps10
  go_upto_region 1 with fail
  obtain ⟨V, hV⟩ : ∃ V, (w.alloc (.cells #[.slice a P.length cap, .int .i64 ix, .int .i64 lf, .bool lv, .bool pl] 25)).alloc (.cells #[.slice none 0 0, .int .i64 0, .int .i64 0, .bool false, .bool false] 25) = V := ⟨_, rfl⟩
  rw [hV] at qO qR hB hr ⊢
  clear hV
  have x0 := qO.cell
  replace qO := hid qO
  replace qR := hid qR
  replace hB := hid hB
  replace hr := hid hr
  go_wp2_with fail
  refine (hC.out _ hr.out).mono ?_
  rintro e w1 ⟨rfl, hb⟩
  have B1 := hid (new_trans hB.out hb)
  have q1 := hid (qO.out.below hb qO.out.lt)
  have r1 := hid (qR.out.below hb qR.out.lt)
  have hr1 := hid (hr.out.below hb)
  clear hb x0 qO qR hB hr hC
  obtain ⟨O, hO⟩ : ∃ O, w.heap.size = O := ⟨_, rfl⟩
  have hOh : Hid (w.heap.size = O) := hO
  rw [hO] at q1 r1 ⊢
  clear hO
  have n3 : ¬ O = O + 1 := by omega
  have n4 : ¬ O + 1 = O := by omega
  have hI := hid (fun W => in_spec t 0 100000 W)
  rw [hin] at hI
  go_wp2_with fail
  refine (hI.out _).mono ?_
  rintro e w' ⟨rfl, hww⟩
  obtain rfl := hww.symm
  clear hI
  have r := r1
  have x8 := (lay5_blk r.out rfl (.slice none 0 0) 0 0 false false).cell
  dsimp only [lay5] at x8
  replace x8 := hid x8
  have G8 : Hid (Grow w (lay5 w1 (O + 1) (.slice none 0 0) 0 0 false false) (.slice none 0 0) _) := (Grow.nilv B1.out).lay5 (by have := hOh.out; omega) (by simp [Value.ownBlock]) _ _ _ _ _
  dsimp only [lay5] at G8
  have xR := r.out.cell
  have fR := r.out.frozen
  have lR := r.out.lt
  go_wp2
  have x9 := x8.out
  exact bodyPost_ret (v := .tuple #[.agg #[.slice none 0 0, .int .i64 0, .int .i64 0, .bool false, .bool false], .int .i64 0, .int .i64 4]) (by simp [results, Try.results10, go_sem, x9]; try rfl) rfl ⟨_, rfl, G8.out⟩
set_option maxRecDepth 100000 in
set_option maxHeartbeats 1000000 in
theorem run_go (a : Option Addr) (cap : Nat) (P : List Int) (ix lf : Int) (lv pl : Bool) (t : Int) (w : World) (h : RowR w (.slice a P.length cap) P) (hl : P.length ≤ 1048576) (hok : (Dk.mk P ix lf lv pl).ok = true) (hin : inB t 0 100000 = true) (I L E : Int) (V1 L1 : Bool) (hR : Hid (run2 ⟨P, ix, lf, lv, pl⟩ t = (⟨P, I, L, V1, L1⟩, E))) :
    Calls Try.prog 10 #[.agg #[.slice a P.length cap, .int .i64 ix, .int .i64 lf, .bool lv, .bool pl], .int .i64 t] w fun e w' => ∃ v, e = .returned (.tuple #[.agg #[v, .int .i64 I, .int .i64 L, .bool V1, .bool L1], .int .i64 E, .int .i64 0]) ∧ Grow w w' v P := by
  obtain ⟨qO, qR, hB⟩ := two_newD w #[.slice a P.length cap, .int .i64 ix, .int .i64 lf, .bool lv, .bool pl] dkZ 25 25
  have hr := h.below hB
  have hC := hid (fun W hh => deckok_spec a cap ⟨P, ix, lf, lv, pl⟩ W hh hl)
  rw [hok] at hC
  replace hok := hid hok
  go_enter Try.func10, Try.ntmps10
  go_upto_region 1 with fail
  obtain ⟨V, hV⟩ : ∃ V, (w.alloc (.cells #[.slice a P.length cap, .int .i64 ix, .int .i64 lf, .bool lv, .bool pl] 25)).alloc (.cells #[.slice none 0 0, .int .i64 0, .int .i64 0, .bool false, .bool false] 25) = V := ⟨_, rfl⟩
  rw [hV] at qO qR hB hr ⊢
  clear hV
  have x0 := qO.cell
  replace qO := hid qO
  replace qR := hid qR
  replace hB := hid hB
  replace hr := hid hr
  go_wp2_with fail
  refine (hC.out _ hr.out).mono ?_
  rintro e w1 ⟨rfl, hb⟩
  have B1 := hid (new_trans hB.out hb)
  have q1 := hid (qO.out.below hb qO.out.lt)
  have r1 := hid (qR.out.below hb qR.out.lt)
  have hr1 := hid (hr.out.below hb)
  clear hb x0 qO qR hB hr hC
  obtain ⟨O, hO⟩ : ∃ O, w.heap.size = O := ⟨_, rfl⟩
  have hOh : Hid (w.heap.size = O) := hO
  rw [hO] at q1 r1 ⊢
  clear hO
  have n3 : ¬ O = O + 1 := by omega
  have n4 : ¬ O + 1 = O := by omega
  have hI := hid (fun W => in_spec t 0 100000 W)
  rw [hin] at hI
  go_wp2_with fail
  refine (hI.out _).mono ?_
  rintro e w' ⟨rfl, hww⟩
  obtain rfl := hww.symm
  clear hI
  have ht := of_decide_eq_true hin
  have hLr := hid (lrun_spec a cap ⟨P, ix, lf, lv, pl⟩ t w1 hr1.out hok.out ht.1 (by omega))
  rw [hR.out] at hLr
  have x1 := q1.out.cell
  go_wp2_with fail
  refine hLr.out.mono ?_
  rintro e w2 ⟨rfl, hb⟩
  have B2 := new_trans B1.out hb
  have r2 := r1.out.below hb r1.out.lt
  have hr2 := hr1.out.below hb
  have ha : Below w2.heap.size w2 (w2.alloc (.cells #[.slice a P.length cap, .int .i64 I, .int .i64 L, .bool V1, .bool L1] 25)) := (Below.refl _ _).alloc (Nat.le_refl _) _
  have q3 := hid (Blk.new w2 #[.slice a P.length cap, .int .i64 I, .int .i64 L, .bool V1, .bool L1] 25)
  have r3 := hid (r2.below ha r2.lt)
  have B3 := hid (new_trans B2 ha)
  have hr3 := hid (hr2.below ha)
  clear hb x1 q1 r1 B1 hr1 hLr B2 r2 hr2 ha
  go_upto_region 6 with fail
  obtain ⟨W3, hW3⟩ : ∃ W, w2.alloc (.cells #[.slice a P.length cap, .int .i64 I, .int .i64 L, .bool V1, .bool L1] 25) = W := ⟨_, rfl⟩
  obtain ⟨b7, hb7⟩ : ∃ b, w2.heap.size = b := ⟨_, rfl⟩
  rw [hb7] at q3
  rw [hW3] at q3 r3 B3 hr3
  rw [hb7, hW3]
  clear hW3 hb7
  have x3 := q3.out.cell
  go_wp2_with fail
  refine (own_spec a cap ⟨P, I, L, V1, L1⟩ _ hr3.out hl).mono ?_
  rintro e w4 ⟨v4, rfl, hG⟩
  obtain ⟨a4, c4, rfl⟩ := hG.form
  have r := hid (r3.out.below hG.bel r3.out.lt)
  have G4 := hid (hG.since B3.out)
  have nb : Hid ((Value.slice a4 P.length c4).ownBlock ≠ some (O + 1)) := hG.off r3.out.lt
  clear hG q3 r3 hr3 B3 x3
  have x8 := (lay5_blk r.out rfl (.slice a4 P.length c4) I L V1 L1).cell
  dsimp only [lay5] at x8
  replace x8 := hid x8
  have G8 : Hid (Grow w (lay5 w4 (O + 1) (.slice a4 P.length c4) I L V1 L1) (.slice a4 P.length c4) _) := G4.out.lay5 (by have := hOh.out; omega) nb.out _ _ _ _ _
  dsimp only [lay5] at G8
  have xR := r.out.cell
  have fR := r.out.frozen
  have lR := r.out.lt
  go_wp2
  have x9 := x8.out
  exact bodyPost_ret (v := .tuple #[.agg #[.slice a4 P.length c4, .int .i64 I, .int .i64 L, .bool V1, .bool L1], .int .i64 E, .int .i64 0]) (by simp [results, Try.results10, go_sem, x9]; try rfl) rfl ⟨_, rfl, G8.out⟩
theorem rund_spec (a : Option Addr) (cap : Nat) (d : Dk) (t : Int) (w : World) (h : RowR w (.slice a d.pulses.length cap) d.pulses) (hl : d.pulses.length ≤ 1048576) :
    Calls Try.prog 10 #[dkV (.slice a d.pulses.length cap) d, .int .i64 t] w fun e w' => ∃ v, e = .returned (.tuple #[dkV v (runV d t).1.1, .int .i64 (runV d t).1.2, .int .i64 (runV d t).2]) ∧ Grow w w' v (runV d t).1.1.pulses := by
  obtain ⟨P, ix, lf, lv, pl⟩ := d
  unfold runV
  cases hok : (Dk.mk P ix lf lv pl).ok
  · exact run_bad a cap P ix lf lv pl t w h hl hok
  · rw [if_pos rfl]
    cases hin : inB t 0 100000
    · exact run_out a cap P ix lf lv pl t w h hl hok hin
    · rw [if_pos rfl]
      have hp := (runD_ok (P.length + 1) ⟨P, ix, lf, lv, pl⟩ t 0 hok).2.1
      obtain ⟨⟨⟨P2, I, L, V1, L1⟩, E⟩, hE⟩ : ∃ p, p = run2 ⟨P, ix, lf, lv, pl⟩ t := ⟨_, rfl⟩
      have hp2 : (run2 ⟨P, ix, lf, lv, pl⟩ t).1.pulses = P := hp
      rw [← hE] at hp2 ⊢
      obtain rfl : P2 = P := hp2
      exact run_go a cap P2 ix lf lv pl t w h hl hok hin I L E V1 L1 hE.symm
end Go.Proofs.Ytohnddjijedfkaa
