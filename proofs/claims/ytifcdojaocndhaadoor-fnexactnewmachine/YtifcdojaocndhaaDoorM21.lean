/- Decks: the specification. -/
import Derived.Test.YtifcdojaocndhaaDoorM13
import Derived.Test.YtifcdojaocndhaaDoorM20
import Derived.Deep.Onto
import Derived.BigQuiet
import Derived.Deep.DeepCutAuto
import Derived.OwnWalk
import Derived.Deep.AppendLies
import Derived.Test.YtifcdojaocndhaaDoorMbm
namespace Go.Proofs.YtifcdojaocndhaaDoor
open Go.ChangeShapes Go.WideShapes Go.ChangeAt Go.RowKit
set_option linter.unusedVariables false
set_option linter.unusedSimpArgs false

abbrev dkA (v : Value) (d : Dk) : Array Value := #[v, .int .i64 d.index, .int .i64 d.left, .bool d.level, .bool d.plays]
abbrev dkV (v : Value) (d : Dk) : Value := .agg (dkA v d)
set_option maxRecDepth 100000 in
set_option maxHeartbeats 2000000 in
theorem pok_specD (a : Option Addr) (cap : Nat) (P : List Int) (w : World) (h : RowR w (.slice a P.length cap) P) (hl : P.length ≤ 1048576) : Calls Tryd.prog 137 #[.slice a P.length cap] w fun e w' => e = .returned (.bool (okPl P)) ∧ w' = w := by
  have hno : Hid (∀ k, k < P.length → inB (P.getD k 0) 1 1000 = false → okPl P = false) := fun k hk hb => by unfold okPl; rw [show allP P = false from all_no hk hb]; rfl
  have hyes : Hid ((∀ k, k < P.length → inB (P.getD k 0) 1 1000 = true) → okPl P = decide ((P.length : Int) ≤ 5000)) := fun hh => by unfold okPl; rw [show allP P = true from all_yes hh, Bool.true_and, Bool.eq_iff_iff]; simp; omega
  replace h := hid h
  obtain ⟨Q, hQ⟩ : ∃ Q, okPl P = Q := ⟨_, rfl⟩
  rw [hQ] at hno hyes ⊢
  clear hQ
  go_enter Tryd.func137, Tryd.ntmps137
  go_wp2
  go_loop [3] (fun i => ∃ k : Nat, k ≤ P.length ∧ i = .int .i64 k ∧ (∀ j, j < k → inB (P.getD j 0) 1 1000 = true)) (fun i => P.length - (intOf i).toNat)
  case atStart => exact ⟨0, by omega, rfl, fun j hj => by omega⟩
  case round =>
    obtain ⟨k, hk, rfl, hj⟩ := hrel
    by_cases hlt : k < P.length
    · obtain ⟨b, off, rfl, x1⟩ := h.out.at hlt
      cases hb : inB (P.getD k 0) 1 1000
      · have hE2 := hid (hno.out k hlt hb)
        clear hj hno hyes
        have hI := hid (fun W => in_spec (P.getD k 0) 1 1000 W)
        rw [hb] at hI
        generalize P.getD k 0 = X at *
        go_wp2_with (go_at_call 99; refine (hI.out _).mono ?_; rintro e w' ⟨rfl, hww⟩; obtain rfl := hww.symm)
        go_ret
        exact ⟨by rw [hE2.out]; try rfl, rfl⟩
      · have hj2 : Hid (∀ j, j < k + 1 → inB (P.getD j 0) 1 1000 = true) := fun j hj1 => by
          by_cases e : j = k
          · rw [e]; exact hb
          · exact hj j (by omega)
        clear hj hno hyes
        have hI := hid (fun W => in_spec (P.getD k 0) 1 1000 W)
        rw [hb] at hI
        clear hb
        generalize P.getD k 0 = X at *
        go_wp2_with (go_at_call 99; refine (hI.out _).mono ?_; rintro e w' ⟨rfl, hww⟩; obtain rfl := hww.symm)
        go_round
        case rel => exact ⟨k + 1, by omega, by go_num, hj2.out⟩
        case measure => simp [intOf] <;> omega
    · obtain rfl : k = P.length := by omega
      have hE2 := hid (hyes.out hj)
      clear hj hno hyes
      go_wp2
      go_ret
      exact ⟨by rw [hE2.out]; try rfl, rfl⟩
theorem row_pulse {w : World} {a : Option Addr} {cap : Nat} {d : Dk} (h : RowR w (.slice a d.pulses.length cap) d.pulses) {i : Int} (h0 : 0 ≤ i) (h1 : i < d.len) : ∃ (b off k : Nat), a = some ⟨b, off, none⟩ ∧ i = (k : Int) ∧ k < d.pulses.length ∧ w.cell? ⟨b, off + k, none⟩ = some (.int .i64 (d.pulse i)) := by
  unfold Dk.len at h1
  obtain ⟨b, off, ha, hc⟩ := h.at (k := i.toNat) (by omega)
  exact ⟨b, off, i.toNat, ha, by omega, by omega, hc⟩
end Go.Proofs.YtifcdojaocndhaaDoor

/- Decks, right or not: the specification. -/
namespace Go.Proofs.YtifcdojaocndhaaDoor
open Go.ChangeShapes Go.WideShapes Go.ChangeAt Go.RowKit
set_option linter.unusedVariables false
set_option linter.unusedSimpArgs false

set_option maxRecDepth 100000 in
set_option maxHeartbeats 1000000 in
theorem deckok_no (a : Option Addr) (cap : Nat) (P : List Int) (ix lf : Int) (lv pl : Bool) (w : World) (h : RowR w (.slice a P.length cap) P) (hl : P.length ≤ 1048576) (ho : okPl P = false) :
    Calls Tryd.prog 98 #[.agg #[.slice a P.length cap, .int .i64 ix, .int .i64 lf, .bool lv, .bool pl]] w fun e w' => e = .returned (.bool false) ∧ Below w.heap.size w w' := by
  have hB := (Below.refl w.heap.size w).alloc (Nat.le_refl _) (.cells #[.slice a P.length cap, .int .i64 ix, .int .i64 lf, .bool lv, .bool pl] 38)
  have hP := hid (pok_specD a cap P _ (h.below hB) hl)
  have hr := hid (h.below hB)
  have hq := Blk.new w #[.slice a P.length cap, .int .i64 ix, .int .i64 lf, .bool lv, .bool pl] 38
  have x0 := hq.cell
  rw [ho] at hP
  replace hB := hid hB
  clear hq h ho
  go_enter Tryd.func98, Tryd.ntmps98
  go_upto_region 1 with fail
  obtain ⟨V, hV⟩ : ∃ V, w.alloc (.cells #[.slice a P.length cap, .int .i64 ix, .int .i64 lf, .bool lv, .bool pl] 38) = V := ⟨_, rfl⟩
  rw [hV] at hB hP x0 hr ⊢
  clear hV
  go_wp2_with fail
  refine hP.out.mono ?_
  rintro e w1 ⟨rfl, hww⟩
  obtain rfl := hww.symm
  clear hP
  go_wp2
  go_ret
  exact ⟨rfl, hB.out⟩
set_option maxRecDepth 100000 in
set_option maxHeartbeats 1000000 in
theorem deckok_out (a : Option Addr) (cap : Nat) (P : List Int) (ix lf : Int) (lv pl : Bool) (w : World) (h : RowR w (.slice a P.length cap) P) (hl : P.length ≤ 1048576) (ho : okPl P = true) (hi : inB ix 0 (P.length : Int) = false) :
    Calls Tryd.prog 98 #[.agg #[.slice a P.length cap, .int .i64 ix, .int .i64 lf, .bool lv, .bool pl]] w fun e w' => e = .returned (.bool false) ∧ Below w.heap.size w w' := by
  have hB := (Below.refl w.heap.size w).alloc (Nat.le_refl _) (.cells #[.slice a P.length cap, .int .i64 ix, .int .i64 lf, .bool lv, .bool pl] 38)
  have hP := hid (pok_specD a cap P _ (h.below hB) hl)
  have hr := hid (h.below hB)
  have hq := Blk.new w #[.slice a P.length cap, .int .i64 ix, .int .i64 lf, .bool lv, .bool pl] 38
  have x0 := hq.cell
  rw [ho] at hP
  replace hB := hid hB
  clear hq h ho
  have hI := hid (fun W => in_spec ix 0 (P.length : Int) W)
  rw [hi] at hI
  clear hi
  go_enter Tryd.func98, Tryd.ntmps98
  go_upto_region 1 with fail
  obtain ⟨V, hV⟩ : ∃ V, w.alloc (.cells #[.slice a P.length cap, .int .i64 ix, .int .i64 lf, .bool lv, .bool pl] 38) = V := ⟨_, rfl⟩
  rw [hV] at hB hP x0 hr ⊢
  clear hV
  go_wp2_with fail
  refine hP.out.mono ?_
  rintro e w1 ⟨rfl, hww⟩
  obtain rfl := hww.symm
  clear hP
  go_wp2_with fail
  refine (hI.out _).mono ?_
  rintro e w1 ⟨rfl, hww⟩
  obtain rfl := hww.symm
  clear hI
  go_wp2
  go_ret
  exact ⟨rfl, hB.out⟩
set_option maxRecDepth 100000 in
set_option maxHeartbeats 1000000 in
theorem deckok_end (a : Option Addr) (cap : Nat) (P : List Int) (ix lf : Int) (lv pl : Bool) (w : World) (h : RowR w (.slice a P.length cap) P) (hl : P.length ≤ 1048576) (ho : okPl P = true) (hi : inB ix 0 (P.length : Int) = true) (he : ix = (P.length : Int)) :
    Calls Tryd.prog 98 #[.agg #[.slice a P.length cap, .int .i64 ix, .int .i64 lf, .bool lv, .bool pl]] w fun e w' => e = .returned (.bool (decide (lf = 0) && !pl)) ∧ Below w.heap.size w w' := by
  have hB := (Below.refl w.heap.size w).alloc (Nat.le_refl _) (.cells #[.slice a P.length cap, .int .i64 ix, .int .i64 lf, .bool lv, .bool pl] 38)
  have hP := hid (pok_specD a cap P _ (h.below hB) hl)
  have hr := hid (h.below hB)
  have hq := Blk.new w #[.slice a P.length cap, .int .i64 ix, .int .i64 lf, .bool lv, .bool pl] 38
  have x0 := hq.cell
  rw [ho] at hP
  replace hB := hid hB
  clear hq h ho
  have hI := hid (fun W => in_spec ix 0 (P.length : Int) W)
  rw [hi] at hI
  have heb : (ix == (P.length : Int)) = true := by rw [beq_iff_eq]; exact he
  clear hi he
  have e : decide (lf = 0) = (lf == 0) := by rw [Bool.eq_iff_iff]; simp
  rw [e]
  clear e
  cases hl0 : (lf == 0)
  all_goals
    go_enter Tryd.func98, Tryd.ntmps98
    go_upto_region 1 with fail
    obtain ⟨V, hV⟩ : ∃ V, w.alloc (.cells #[.slice a P.length cap, .int .i64 ix, .int .i64 lf, .bool lv, .bool pl] 38) = V := ⟨_, rfl⟩
    rw [hV] at hB hP x0 hr ⊢
    clear hV
    go_wp2_with fail
    refine hP.out.mono ?_
    rintro e w1 ⟨rfl, hww⟩
    obtain rfl := hww.symm
    clear hP
    go_wp2_with fail
    refine (hI.out _).mono ?_
    rintro e w1 ⟨rfl, hww⟩
    obtain rfl := hww.symm
    clear hI
    go_wp2
    go_ret
    exact ⟨by cases pl <;> rfl, hB.out⟩
set_option maxRecDepth 100000 in
set_option maxHeartbeats 1000000 in
theorem deckok_mid (a : Option Addr) (cap : Nat) (P : List Int) (ix lf : Int) (lv pl : Bool) (w : World) (h : RowR w (.slice a P.length cap) P) (hl : P.length ≤ 1048576) (ho : okPl P = true) (hi : inB ix 0 (P.length : Int) = true) (he : ix ≠ (P.length : Int)) :
    Calls Tryd.prog 98 #[.agg #[.slice a P.length cap, .int .i64 ix, .int .i64 lf, .bool lv, .bool pl]] w fun e w' => e = .returned (.bool (inB lf 1 (P.getD ix.toNat 0))) ∧ Below w.heap.size w w' := by
  have hB := (Below.refl w.heap.size w).alloc (Nat.le_refl _) (.cells #[.slice a P.length cap, .int .i64 ix, .int .i64 lf, .bool lv, .bool pl] 38)
  have hP := hid (pok_specD a cap P _ (h.below hB) hl)
  have hr := hid (h.below hB)
  have hq := Blk.new w #[.slice a P.length cap, .int .i64 ix, .int .i64 lf, .bool lv, .bool pl] 38
  have x0 := hq.cell
  rw [ho] at hP
  replace hB := hid hB
  clear hq h ho
  have hI := hid (fun W => in_spec ix 0 (P.length : Int) W)
  rw [hi] at hI
  have hi2 : 0 ≤ ix ∧ ix ≤ (P.length : Int) := of_decide_eq_true hi
  have heb : (ix == (P.length : Int)) = false := by rw [beq_eq_false_iff_ne]; exact he
  obtain ⟨k, rfl⟩ : ∃ k : Nat, ix = (k : Int) := ⟨ix.toNat, by omega⟩
  have hkl : k < P.length := by omega
  have hkI : (k : Int) < (P.length : Int) := by omega
  rw [Int.toNat_natCast]
  obtain ⟨b, off, rfl, xk⟩ := hr.out.at hkl
  have hI2 := hid (fun W => in_spec lf 1 (P.getD k 0) W)
  generalize P.getD k 0 = X at *
  clear hi he hi2
  go_enter Tryd.func98, Tryd.ntmps98
  go_upto_region 1 with fail
  obtain ⟨V, hV⟩ : ∃ V, w.alloc (.cells #[.slice (some ⟨b, off, none⟩) P.length cap, .int .i64 (k : Int), .int .i64 lf, .bool lv, .bool pl] 38) = V := ⟨_, rfl⟩
  rw [hV] at hB hP x0 hr xk ⊢
  clear hV
  go_wp2_with fail
  refine hP.out.mono ?_
  rintro e w1 ⟨rfl, hww⟩
  obtain rfl := hww.symm
  clear hP
  go_wp2_with fail
  refine (hI.out _).mono ?_
  rintro e w1 ⟨rfl, hww⟩
  obtain rfl := hww.symm
  clear hI
  go_wp2_with fail
  go_quiet ((go_at_call 99; exact Calls.quiet_of_same (hI2.out _)))
  go_wp2
  go_ret
  exact ⟨rfl, hB.out.trans ⟨rfl, rfl, rfl, Nat.le_refl _, fun _ _ => rfl⟩⟩
theorem deckok_spec (a : Option Addr) (cap : Nat) (d : Dk) (w : World) (h : RowR w (.slice a d.pulses.length cap) d.pulses) (hl : d.pulses.length ≤ 1048576) :
    Calls Tryd.prog 98 #[dkV (.slice a d.pulses.length cap) d] w fun e w' => e = .returned (.bool d.ok) ∧ Below w.heap.size w w' := by
  obtain ⟨P, ix, lf, lv, pl⟩ := d
  have e : (Dk.mk P ix lf lv pl).ok = (okPl P && inB ix 0 (P.length : Int) && (if ix = (P.length : Int) then decide (lf = 0) && !pl else inB lf 1 (P.getD ix.toNat 0))) := rfl
  rw [e]
  cases ho : okPl P
  · exact deckok_no a cap P ix lf lv pl w h hl ho
  cases hi : inB ix 0 (P.length : Int)
  · exact deckok_out a cap P ix lf lv pl w h hl ho hi
  by_cases he : ix = (P.length : Int)
  · rw [if_pos he]
    exact deckok_end a cap P ix lf lv pl w h hl ho hi he
  · rw [if_neg he]
    exact deckok_mid a cap P ix lf lv pl w h hl ho hi he
end Go.Proofs.YtifcdojaocndhaaDoor

/- A deck at a pulse's beginning, and a deck with pulses of its own: the specification. -/
namespace Go.Proofs.YtifcdojaocndhaaDoor
open Go.ChangeShapes Go.WideShapes Go.ChangeAt Go.RowKit
set_option linter.unusedVariables false
set_option linter.unusedSimpArgs false

theorem two_newD (w : World) (A B : Array Value) (t u : TypeId) : Blk ((w.alloc (.cells A t)).alloc (.cells B u)) w.heap.size A ∧ Blk ((w.alloc (.cells A t)).alloc (.cells B u)) (w.heap.size + 1) B ∧ Below w.heap.size w ((w.alloc (.cells A t)).alloc (.cells B u)) := by
  refine ⟨(Blk.new w A t).alloc _, ?_, ((Below.refl _ _).alloc (Nat.le_refl _) _).alloc (by simp) _⟩
  have := Blk.new (w.alloc (.cells A t)) B u
  rw [World.size_alloc] at this
  exact this
set_option maxRecDepth 100000 in
set_option maxHeartbeats 1000000 in
theorem goto_in (b off cap : Nat) (P : List Int) (ix lf : Int) (lv pl : Bool) (k : Nat) (X : Int) (w : World) (hk : k < P.length) (hl : P.length ≤ 1048576) (xk : w.cell? ⟨b, off + k, none⟩ = some (.int .i64 X)) :
    Calls Tryd.prog 131 #[.agg #[.slice (some ⟨b, off, none⟩) P.length cap, .int .i64 ix, .int .i64 lf, .bool lv, .bool pl], .int .i64 (k : Int)] w fun e w' => e = .returned (.agg #[.slice (some ⟨b, off, none⟩) P.length cap, .int .i64 (k : Int), .int .i64 X, .bool lv, .bool pl]) ∧ Below w.heap.size w w' := by
  obtain ⟨qO, qR, hB⟩ := two_newD w #[.slice (some ⟨b, off, none⟩) P.length cap, .int .i64 ix, .int .i64 lf, .bool lv, .bool pl] #[.slice none 0 0, .int .i64 0, .int .i64 0, .bool false, .bool false] 38 38
  have xk2 := cell_keptU hB xk
  have hbl : b < w.heap.size := World.block_lt_of_cell? w _ xk
  have hkI : (k : Int) < (P.length : Int) := by omega
  go_enter Tryd.func131, Tryd.ntmps131
  go_upto_region 1 with fail
  obtain ⟨V, hV⟩ : ∃ V, (w.alloc (.cells #[.slice (some ⟨b, off, none⟩) P.length cap, .int .i64 ix, .int .i64 lf, .bool lv, .bool pl] 38)).alloc (.cells #[.slice none 0 0, .int .i64 0, .int .i64 0, .bool false, .bool false] 38) = V := ⟨_, rfl⟩
  rw [hV] at qO qR hB xk2 ⊢
  clear hV xk
  obtain ⟨O, hO⟩ : ∃ O, w.heap.size = O := ⟨_, rfl⟩
  have hBh : Hid (Below w.heap.size w V ∧ w.heap.size = O) := ⟨hB, hO⟩
  rw [hO] at qO qR hbl ⊢
  clear hB hO
  have n1 : ¬ b = O := by omega
  have n3 : ¬ O + 1 = O := by omega
  have n4 : ¬ O = O + 1 := by omega
  have xO := qO.cell
  have fO := qO.frozen
  have lO := qO.lt
  have q3 := (qO.set 1 (.int .i64 (k : Int))).set 2 (.int .i64 0)
  have r3 := (qR.other (p := ⟨O, 1, none⟩) n3 (.int .i64 (k : Int))).other (p := ⟨O, 2, none⟩) n3 (.int .i64 0)
  have x3 : ((V.setCell ⟨O, 1, none⟩ (.int .i64 (k : Int))).setCell ⟨O, 2, none⟩ (.int .i64 0)).cell? ⟨b, off + k, none⟩ = some (.int .i64 X) := by
    rw [World.cell?_of_block (a := ⟨b, off + k, none⟩) ((Below.heap_setCell _ _ _ _ n1).trans (Below.heap_setCell _ _ _ _ n1))]
    exact xk2
  have B3 : Hid (Below w.heap.size w ((V.setCell ⟨O, 1, none⟩ (.int .i64 (k : Int))).setCell ⟨O, 2, none⟩ (.int .i64 0))) := (hBh.out.1.setCell (p := ⟨O, 1, none⟩) (by show w.heap.size ≤ O; have := hBh.out.2; omega) _).setCell (p := ⟨O, 2, none⟩) (by show w.heap.size ≤ O; have := hBh.out.2; omega) _
  replace q3 := hid q3
  replace r3 := hid r3
  replace x3 := hid x3
  clear qO qR xk2
  go_upto_region 3 with fail
  obtain ⟨W3, hW3⟩ : ∃ W, (V.setCell ⟨O, 1, none⟩ (.int .i64 (k : Int))).setCell ⟨O, 2, none⟩ (.int .i64 0) = W := ⟨_, rfl⟩
  rw [hW3] at q3 r3 x3 B3 ⊢
  clear hW3 xO fO lO
  have xO := q3.out.cell
  have fO := q3.out.frozen
  have lO := q3.out.lt
  have x3' := x3.out
  have q4 := hid (q3.out.set 2 (.int .i64 X))
  have r4 := hid (r3.out.other (p := ⟨O, 2, none⟩) n3 (.int .i64 X))
  have B4 : Hid (Below w.heap.size w (W3.setCell ⟨O, 2, none⟩ (.int .i64 X))) := B3.out.setCell (p := ⟨O, 2, none⟩) (by show w.heap.size ≤ O; have := hBh.out.2; omega) _
  go_upto_region 5 with fail
  obtain ⟨W4, hW4⟩ : ∃ W, W3.setCell ⟨O, 2, none⟩ (.int .i64 X) = W := ⟨_, rfl⟩
  rw [hW4] at q4 r4 B4 ⊢
  clear hW4 xO fO lO x3' x3 q3 r3 B3
  have xO := q4.out.cell
  have xR := r4.out.cell
  have fR := r4.out.frozen
  have lR := r4.out.lt
  have r5 := ((((r4.out.set 0 (.slice (some ⟨b, off, none⟩) P.length cap)).set 1 (.int .i64 (k : Int))).set 2 (.int .i64 X)).set 3 (.bool lv)).set 4 (.bool pl)
  have x5 := hid r5.cell
  have B5 : Hid (Below w.heap.size w (((((W4.setCell ⟨O + 1, 0, none⟩ (.slice (some ⟨b, off, none⟩) P.length cap)).setCell ⟨O + 1, 1, none⟩ (.int .i64 (k : Int))).setCell ⟨O + 1, 2, none⟩ (.int .i64 X)).setCell ⟨O + 1, 3, none⟩ (.bool lv)).setCell ⟨O + 1, 4, none⟩ (.bool pl))) := by
    refine Below.setCell (p := ⟨O + 1, 4, none⟩) (Below.setCell (p := ⟨O + 1, 3, none⟩) (Below.setCell (p := ⟨O + 1, 2, none⟩) (Below.setCell (p := ⟨O + 1, 1, none⟩) (Below.setCell (p := ⟨O + 1, 0, none⟩) B4.out ?_ _) ?_ _) ?_ _) ?_ _) ?_ _
    all_goals (show w.heap.size ≤ O + 1; have := hBh.out.2; omega)
  clear r5
  go_wp2
  have x6 := x5.out
  exact bodyPost_ret (v := .agg #[.slice (some ⟨b, off, none⟩) P.length cap, .int .i64 (k : Int), .int .i64 X, .bool lv, .bool pl]) (by simp [results, Tryd.results131, go_sem, x6]; try rfl) rfl ⟨rfl, B5.out⟩
set_option maxRecDepth 100000 in
set_option maxHeartbeats 1000000 in
theorem goto_out (a : Option Addr) (cap : Nat) (P : List Int) (ix lf : Int) (lv pl : Bool) (k : Nat) (w : World) (hk : P.length ≤ k) (hl : P.length ≤ 1048576) :
    Calls Tryd.prog 131 #[.agg #[.slice a P.length cap, .int .i64 ix, .int .i64 lf, .bool lv, .bool pl], .int .i64 (k : Int)] w fun e w' => e = .returned (.agg #[.slice a P.length cap, .int .i64 (k : Int), .int .i64 0, .bool lv, .bool pl]) ∧ Below w.heap.size w w' := by
  obtain ⟨qO, qR, hB⟩ := two_newD w #[.slice a P.length cap, .int .i64 ix, .int .i64 lf, .bool lv, .bool pl] #[.slice none 0 0, .int .i64 0, .int .i64 0, .bool false, .bool false] 38 38
  have hkI : ¬ (k : Int) < (P.length : Int) := by omega
  go_enter Tryd.func131, Tryd.ntmps131
  go_upto_region 1 with fail
  obtain ⟨V, hV⟩ : ∃ V, (w.alloc (.cells #[.slice a P.length cap, .int .i64 ix, .int .i64 lf, .bool lv, .bool pl] 38)).alloc (.cells #[.slice none 0 0, .int .i64 0, .int .i64 0, .bool false, .bool false] 38) = V := ⟨_, rfl⟩
  rw [hV] at qO qR hB ⊢
  clear hV
  obtain ⟨O, hO⟩ : ∃ O, w.heap.size = O := ⟨_, rfl⟩
  have hBh : Hid (Below w.heap.size w V ∧ w.heap.size = O) := ⟨hB, hO⟩
  rw [hO] at qO qR ⊢
  clear hB hO
  have n3 : ¬ O + 1 = O := by omega
  have n4 : ¬ O = O + 1 := by omega
  have xO := qO.cell
  have fO := qO.frozen
  have lO := qO.lt
  have q3 := (qO.set 1 (.int .i64 (k : Int))).set 2 (.int .i64 0)
  have r3 := (qR.other (p := ⟨O, 1, none⟩) n3 (.int .i64 (k : Int))).other (p := ⟨O, 2, none⟩) n3 (.int .i64 0)
  have B3 : Hid (Below w.heap.size w ((V.setCell ⟨O, 1, none⟩ (.int .i64 (k : Int))).setCell ⟨O, 2, none⟩ (.int .i64 0))) := (hBh.out.1.setCell (p := ⟨O, 1, none⟩) (by show w.heap.size ≤ O; have := hBh.out.2; omega) _).setCell (p := ⟨O, 2, none⟩) (by show w.heap.size ≤ O; have := hBh.out.2; omega) _
  replace q3 := hid q3
  replace r3 := hid r3
  clear qO qR
  go_upto_region 3 with fail
  obtain ⟨W3, hW3⟩ : ∃ W, (V.setCell ⟨O, 1, none⟩ (.int .i64 (k : Int))).setCell ⟨O, 2, none⟩ (.int .i64 0) = W := ⟨_, rfl⟩
  rw [hW3] at q3 r3 B3 ⊢
  clear hW3 xO fO lO
  have xO := q3.out.cell
  have xR := r3.out.cell
  have fR := r3.out.frozen
  have lR := r3.out.lt
  have r5 := ((((r3.out.set 0 (.slice a P.length cap)).set 1 (.int .i64 (k : Int))).set 2 (.int .i64 0)).set 3 (.bool lv)).set 4 (.bool pl)
  have x5 := hid r5.cell
  have B5 : Hid (Below w.heap.size w (((((W3.setCell ⟨O + 1, 0, none⟩ (.slice a P.length cap)).setCell ⟨O + 1, 1, none⟩ (.int .i64 (k : Int))).setCell ⟨O + 1, 2, none⟩ (.int .i64 0)).setCell ⟨O + 1, 3, none⟩ (.bool lv)).setCell ⟨O + 1, 4, none⟩ (.bool pl))) := by
    refine Below.setCell (p := ⟨O + 1, 4, none⟩) (Below.setCell (p := ⟨O + 1, 3, none⟩) (Below.setCell (p := ⟨O + 1, 2, none⟩) (Below.setCell (p := ⟨O + 1, 1, none⟩) (Below.setCell (p := ⟨O + 1, 0, none⟩) B3.out ?_ _) ?_ _) ?_ _) ?_ _) ?_ _
    all_goals (show w.heap.size ≤ O + 1; have := hBh.out.2; omega)
  clear r5
  go_wp2
  have x6 := x5.out
  exact bodyPost_ret (v := .agg #[.slice a P.length cap, .int .i64 (k : Int), .int .i64 0, .bool lv, .bool pl]) (by simp [results, Tryd.results131, go_sem, x6]; try rfl) rfl ⟨rfl, B5.out⟩
theorem goto_spec (a : Option Addr) (cap : Nat) (d : Dk) (i : Int) (w : World) (h : RowR w (.slice a d.pulses.length cap) d.pulses) (h0 : 0 ≤ i) (hl : d.pulses.length ≤ 1048576) :
    Calls Tryd.prog 131 #[dkV (.slice a d.pulses.length cap) d, .int .i64 i] w fun e w' => e = .returned (dkV (.slice a d.pulses.length cap) (d.goto i)) ∧ Below w.heap.size w w' := by
  obtain ⟨k, rfl⟩ : ∃ k : Nat, i = (k : Int) := ⟨i.toNat, by omega⟩
  obtain ⟨P, ix, lf, lv, pl⟩ := d
  by_cases hlt : k < P.length
  · obtain ⟨b, off, rfl, hc⟩ := h.at hlt
    have e : (Dk.mk P ix lf lv pl).goto (k : Int) = ⟨P, k, P.getD k 0, lv, pl⟩ := by
      show Dk.mk P k (if (k : Int) < (P.length : Int) then P.getD ((k : Int).toNat) 0 else 0) lv pl = _
      rw [if_pos (by omega), Int.toNat_natCast]
    rw [e]
    exact goto_in b off cap P ix lf lv pl k _ w hlt hl hc
  · have e : (Dk.mk P ix lf lv pl).goto (k : Int) = ⟨P, k, 0, lv, pl⟩ := by
      show Dk.mk P k (if (k : Int) < (P.length : Int) then P.getD ((k : Int).toNat) 0 else 0) lv pl = _
      rw [if_neg (by omega)]
    rw [e]
    exact goto_out a cap P ix lf lv pl k w (by omega) hl
end Go.Proofs.YtifcdojaocndhaaDoor

/- A deck with pulses of its own: the specification. -/
namespace Go.Proofs.YtifcdojaocndhaaDoor
open Go.ChangeShapes Go.WideShapes Go.ChangeAt Go.RowKit
set_option linter.unusedVariables false
set_option linter.unusedSimpArgs false

/-- an answer of a deck, laid into a block -/
theorem dk_laid {w W : World} {O R : Nat} {v0 v' : Value} {P : List Int} {B : Array Value} {ix lf : Int} {lv pl : Bool} (hO : Blk W O #[v0, .int .i64 ix, .int .i64 lf, .bool lv, .bool pl]) (hR : Blk W R B) (hB5 : B.size = 5) (hne : R ≠ O) (h0 : w.heap.size ≤ O) (h1 : w.heap.size ≤ R) (hG : Grow w W v' P) (n0 : v'.ownBlock ≠ some O) (n1 : v'.ownBlock ≠ some R) :
    Blk (W.setCell ⟨O, 0, none⟩ v') O #[v', .int .i64 ix, .int .i64 lf, .bool lv, .bool pl] ∧ Blk (W.setCell ⟨O, 0, none⟩ v') R B ∧
    (∀ i, ((((((W.setCell ⟨O, 0, none⟩ v').setCell ⟨R, 0, none⟩ v').setCell ⟨R, 1, none⟩ (.int .i64 ix)).setCell ⟨R, 2, none⟩ (.int .i64 lf)).setCell ⟨R, 3, none⟩ (.bool lv)).setCell ⟨R, 4, none⟩ (.bool pl)).cell? ⟨R, i, none⟩ = (#[v', .int .i64 ix, .int .i64 lf, .bool lv, .bool pl] : Array Value)[i]?) ∧
    Grow w ((((((W.setCell ⟨O, 0, none⟩ v').setCell ⟨R, 0, none⟩ v').setCell ⟨R, 1, none⟩ (.int .i64 ix)).setCell ⟨R, 2, none⟩ (.int .i64 lf)).setCell ⟨R, 3, none⟩ (.bool lv)).setCell ⟨R, 4, none⟩ (.bool pl)) v' P := by
  have sg : ∀ (X : World) (b i : Nat) (u : Value), X.grownBy (X.setCell ⟨b, i, none⟩ u) (some b) := fun X b i u => ⟨rfl, rfl, rfl, by simp [World.setCell], fun k _ hk => Below.heap_setCell _ _ _ _ (fun e => hk (by rw [e]))⟩
  have q := hO.set 0 v'
  have r := hR.other (p := ⟨O, 0, none⟩) hne v'
  have r5 := ((((r.set 0 v').set 1 (.int .i64 ix)).set 2 (.int .i64 lf)).set 3 (.bool lv)).set 4 (.bool pl)
  obtain ⟨b0, b1, b2, b3, b4, rfl⟩ : ∃ b0 b1 b2 b3 b4, B = #[b0, b1, b2, b3, b4] := array5 hB5
  refine ⟨q, r, fun i => r5.cell i, ?_, ?_⟩
  · exact (((((hG.own.kept (sg _ O 0 _) (.inr n0)).kept (sg _ R 0 _) (.inr n1)).kept (sg _ R 1 _) (.inr n1)).kept (sg _ R 2 _) (.inr n1)).kept (sg _ R 3 _) (.inr n1)).kept (sg _ R 4 _) (.inr n1)
  · exact (((((hG.bel.setCell (p := ⟨O, 0, none⟩) h0 _).setCell (p := ⟨R, 0, none⟩) h1 _).setCell (p := ⟨R, 1, none⟩) h1 _).setCell (p := ⟨R, 2, none⟩) h1 _).setCell (p := ⟨R, 3, none⟩) h1 _).setCell (p := ⟨R, 4, none⟩) h1 _
end Go.Proofs.YtifcdojaocndhaaDoor

/- A struct of a deck laid whole into a block; a deck with pulses of its own, whatever they are: the specification. -/
namespace Go.Proofs.YtifcdojaocndhaaDoor
open Go.ChangeShapes Go.WideShapes Go.ChangeAt Go.RowKit
set_option linter.unusedVariables false
set_option linter.unusedSimpArgs false

abbrev dkZ : Array Value := #[.slice none 0 0, .int .i64 0, .int .i64 0, .bool false, .bool false]
/-- the five cells of a deck are stored -/
abbrev lay5 (W : World) (b : Nat) (v : Value) (ix lf : Int) (lv pl : Bool) : World := ((((W.setCell ⟨b, 0, none⟩ v).setCell ⟨b, 1, none⟩ (.int .i64 ix)).setCell ⟨b, 2, none⟩ (.int .i64 lf)).setCell ⟨b, 3, none⟩ (.bool lv)).setCell ⟨b, 4, none⟩ (.bool pl)
theorem lay5_blk {W : World} {b : Nat} {B : Array Value} (h : Blk W b B) (hs : B.size = 5) (v : Value) (ix lf : Int) (lv pl : Bool) : Blk (lay5 W b v ix lf lv pl) b #[v, .int .i64 ix, .int .i64 lf, .bool lv, .bool pl] := by
  obtain ⟨b0, b1, b2, b3, b4, rfl⟩ : ∃ b0 b1 b2 b3 b4, B = #[b0, b1, b2, b3, b4] := array5 hs
  exact ((((h.set 0 v).set 1 (.int .i64 ix)).set 2 (.int .i64 lf)).set 3 (.bool lv)).set 4 (.bool pl)
theorem lay5_size (W : World) (b : Nat) (v : Value) (ix lf : Int) (lv pl : Bool) : (lay5 W b v ix lf lv pl).heap.size = W.heap.size := by simp [World.setCell]
theorem lay5_heap (W : World) (b : Nat) (v : Value) (ix lf : Int) (lv pl : Bool) {k : Nat} (hk : k ≠ b) : (lay5 W b v ix lf lv pl).heap[k]? = W.heap[k]? := by
  iterate 4 refine (Below.heap_setCell _ _ _ _ hk).trans ?_
  exact Below.heap_setCell _ _ _ _ hk
theorem lay5_grown (W : World) (b : Nat) (v : Value) (ix lf : Int) (lv pl : Bool) : W.grownBy (lay5 W b v ix lf lv pl) (some b) :=
  grown_set1 (grown_set1 (grown_set1 (grown_set1 (grown_set1 (World.grownBy.refl W (some b))))))
theorem lay5_other {W : World} {b c : Nat} {X : Array Value} (h : Blk W c X) (hc : c ≠ b) (v : Value) (ix lf : Int) (lv pl : Bool) : Blk (lay5 W b v ix lf lv pl) c X := by
  obtain ⟨t, h⟩ := h
  exact ⟨t, (lay5_heap _ _ _ _ _ _ _ hc).trans h⟩
theorem lay5_below {w W : World} {b lo : Nat} (h : Below lo w W) (hb : lo ≤ b) (v : Value) (ix lf : Int) (lv pl : Bool) : Below lo w (lay5 W b v ix lf lv pl) :=
  ((((h.setCell (p := ⟨b, 0, none⟩) hb _).setCell (p := ⟨b, 1, none⟩) hb _).setCell (p := ⟨b, 2, none⟩) hb _).setCell (p := ⟨b, 3, none⟩) hb _).setCell (p := ⟨b, 4, none⟩) hb _
/-- a row of numbers whose block is another one -/
theorem Grow.lay5 {w W : World} {v : Value} {P : List Int} (h : Grow w W v P) {b : Nat} (hb : w.heap.size ≤ b) (hn : v.ownBlock ≠ some b) (u : Value) (ix lf : Int) (lv pl : Bool) : Grow w (lay5 W b u ix lf lv pl) v P :=
  ⟨h.own.kept (lay5_grown W b u ix lf lv pl) (.inr hn), lay5_below h.bel hb u ix lf lv pl⟩
theorem Grow.nilv {w W : World} (h : Below w.heap.size w W) : Grow w W (.slice none 0 0) [] := ⟨World.ownsRow_nil W _ _ _, h⟩
/-- grown since an earlier world -/
theorem Grow.since {w W W' : World} {v : Value} {P : List Int} (h : Grow W W' v P) (hb : Below w.heap.size w W) : Grow w W' v P := ⟨h.own.mono hb.size, new_trans hb h.bel⟩
theorem Grow.off {w W : World} {v : Value} {P : List Int} (h : Grow w W v P) {b : Nat} (hb : b < w.heap.size) : v.ownBlock ≠ some b := fun e => by
  have := (h.own.lt b e).1
  omega
theorem run_append_zero {P : Program} (w : World) (t ty e : TypeId) (i : TypeInfo) (ht : P.underlying t = some (.slice e)) (hi : P.info? e = some i) (x a : Option Addr) (c c' : Nat) :
    (Builtin.append_ #[t, t] ty #[.slice x 0 c', .slice a 0 c]).run P w = .ok (.slice x 0 c') w := by
  cases x <;> cases a <;> simp [Builtin.append_, run_underlying ht, sizeOf, typeInfo, hi, Builtin.lenOf, Builtin.firstCells, loadCells, loadCellsFrom, storeCells]
/-- nothing is appended -/
theorem wpList_append_zero {P : Program} (w : World) {ops : Array Oper} {rest : List Oper} {o : Oper} {a : Act} {Q : Exit → Act → World → Prop} (hgd : o.guard = none) (s x : Operand) (t : TypeId)
    (ho : o.op = .call { callee := .builtin .append, args := #[s, x], argTypes := #[t, t] }) (e : TypeId) (i : TypeInfo) (ht : P.underlying t = some (.slice e)) (hi : P.info? e = some i)
    (y b : Option Addr) (c c' : Nat) (hs : a.eval s = .slice y 0 c') (hx : a.eval x = .slice b 0 c) (h : wpList P ops Q rest (a.put o.dst (.slice y 0 c')) w) : wpList P ops Q (o :: rest) a w :=
  wpList_plain hgd fun _ hK => by
    unfold Oper.wp execOp
    simp only [ho, resolve, invoke, builtin, Sem.run_bind, Sem.run_pure, Result.andThen_ok, List.map_toArray, List.map_cons, List.map_nil, hs, hx, run_append_zero w t o.type e i ht hi y b c c']
    exact hK _ _ h
end Go.Proofs.YtifcdojaocndhaaDoor
