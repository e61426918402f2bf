/- Decks: the specification. -/
import Derived.Test.YtifcdojaocndhaaDoorU15
import Derived.Test.YtifcdojaocndhaaDoorU24
import Derived.Deep.Onto
import Derived.BigQuiet
import Derived.Deep.DeepCutAuto
namespace Go.Proofs.YtifcdojaocndhaaDoor
open Go.ChangeShapes Go.WideShapes Go.ChangeAt Go.RowKit
set_option linter.unusedVariables false
set_option linter.unusedSimpArgs false

abbrev dkA (v : Value) (d : Dk) : Array Value := #[v, .int .i64 d.index, .int .i64 d.left, .bool d.level, .bool d.plays]
abbrev dkV (v : Value) (d : Dk) : Value := .agg (dkA v d)
set_option maxRecDepth 100000 in
set_option maxHeartbeats 2000000 in
theorem pok_specD (a : Option Addr) (cap : Nat) (P : List Int) (w : World) (h : RowR w (.slice a P.length cap) P) (hl : P.length ≤ 1048576) : Calls Tryd.prog 137 #[.slice a P.length cap] w fun e w' => e = .returned (.bool (okPl P)) ∧ w' = w := by
  have hno : Hid (∀ k, k < P.length → inB (P.getD k 0) 1 1000 = false → okPl P = false) := fun k hk hb => by unfold okPl; rw [show allP P = false from all_no hk hb]; rfl
  have hyes : Hid ((∀ k, k < P.length → inB (P.getD k 0) 1 1000 = true) → okPl P = decide ((P.length : Int) ≤ 5000)) := fun hh => by unfold okPl; rw [show allP P = true from all_yes hh, Bool.true_and, Bool.eq_iff_iff]; simp; omega
  replace h := hid h
  obtain ⟨Q, hQ⟩ : ∃ Q, okPl P = Q := ⟨_, rfl⟩
  rw [hQ] at hno hyes ⊢
  clear hQ
  go_enter Tryd.func137, Tryd.ntmps137
  go_wp2
  go_loop [3] (fun i => ∃ k : Nat, k ≤ P.length ∧ i = .int .i64 k ∧ (∀ j, j < k → inB (P.getD j 0) 1 1000 = true)) (fun i => P.length - (intOf i).toNat)
  case atStart => exact ⟨0, by omega, rfl, fun j hj => by omega⟩
  case round =>
    obtain ⟨k, hk, rfl, hj⟩ := hrel
    by_cases hlt : k < P.length
    · obtain ⟨b, off, rfl, x1⟩ := h.out.at hlt
      cases hb : inB (P.getD k 0) 1 1000
      · have hE2 := hid (hno.out k hlt hb)
        clear hj hno hyes
        have hI := hid (fun W => in_spec (P.getD k 0) 1 1000 W)
        rw [hb] at hI
        generalize P.getD k 0 = X at *
        go_wp2_with (go_at_call 99; refine (hI.out _).mono ?_; rintro e w' ⟨rfl, hww⟩; obtain rfl := hww.symm)
        go_ret
        exact ⟨by rw [hE2.out]; try rfl, rfl⟩
      · have hj2 : Hid (∀ j, j < k + 1 → inB (P.getD j 0) 1 1000 = true) := fun j hj1 => by
          by_cases e : j = k
          · rw [e]; exact hb
          · exact hj j (by omega)
        clear hj hno hyes
        have hI := hid (fun W => in_spec (P.getD k 0) 1 1000 W)
        rw [hb] at hI
        clear hb
        generalize P.getD k 0 = X at *
        go_wp2_with (go_at_call 99; refine (hI.out _).mono ?_; rintro e w' ⟨rfl, hww⟩; obtain rfl := hww.symm)
        go_round
        case rel => exact ⟨k + 1, by omega, by go_num, hj2.out⟩
        case measure => simp [intOf] <;> omega
    · obtain rfl : k = P.length := by omega
      have hE2 := hid (hyes.out hj)
      clear hj hno hyes
      go_wp2
      go_ret
      exact ⟨by rw [hE2.out]; try rfl, rfl⟩
theorem row_pulse {w : World} {a : Option Addr} {cap : Nat} {d : Dk} (h : RowR w (.slice a d.pulses.length cap) d.pulses) {i : Int} (h0 : 0 ≤ i) (h1 : i < d.len) : ∃ (b off k : Nat), a = some ⟨b, off, none⟩ ∧ i = (k : Int) ∧ k < d.pulses.length ∧ w.cell? ⟨b, off + k, none⟩ = some (.int .i64 (d.pulse i)) := by
  unfold Dk.len at h1
  obtain ⟨b, off, ha, hc⟩ := h.at (k := i.toNat) (by omega)
  exact ⟨b, off, i.toNat, ha, by omega, by omega, hc⟩
end Go.Proofs.YtifcdojaocndhaaDoor

/- Decks, right or not: the specification. -/
namespace Go.Proofs.YtifcdojaocndhaaDoor
open Go.ChangeShapes Go.WideShapes Go.ChangeAt Go.RowKit
set_option linter.unusedVariables false
set_option linter.unusedSimpArgs false

set_option maxRecDepth 100000 in
set_option maxHeartbeats 1000000 in
theorem deckok_no (a : Option Addr) (cap : Nat) (P : List Int) (ix lf : Int) (lv pl : Bool) (w : World) (h : RowR w (.slice a P.length cap) P) (hl : P.length ≤ 1048576) (ho : okPl P = false) :
    Calls Tryd.prog 98 #[.agg #[.slice a P.length cap, .int .i64 ix, .int .i64 lf, .bool lv, .bool pl]] w fun e w' => e = .returned (.bool false) ∧ Below w.heap.size w w' := by
  have hB := (Below.refl w.heap.size w).alloc (Nat.le_refl _) (.cells #[.slice a P.length cap, .int .i64 ix, .int .i64 lf, .bool lv, .bool pl] 38)
  have hP := hid (pok_specD a cap P _ (h.below hB) hl)
  have hr := hid (h.below hB)
  have hq := Blk.new w #[.slice a P.length cap, .int .i64 ix, .int .i64 lf, .bool lv, .bool pl] 38
  have x0 := hq.cell
  rw [ho] at hP
  replace hB := hid hB
  clear hq h ho
  go_enter Tryd.func98, Tryd.ntmps98
  go_upto_region 1 with fail
  obtain ⟨V, hV⟩ : ∃ V, w.alloc (.cells #[.slice a P.length cap, .int .i64 ix, .int .i64 lf, .bool lv, .bool pl] 38) = V := ⟨_, rfl⟩
  rw [hV] at hB hP x0 hr ⊢
  clear hV
  go_wp2_with fail
  refine hP.out.mono ?_
  rintro e w1 ⟨rfl, hww⟩
  obtain rfl := hww.symm
  clear hP
  go_wp2
  go_ret
  exact ⟨rfl, hB.out⟩
set_option maxRecDepth 100000 in
set_option maxHeartbeats 1000000 in
theorem deckok_out (a : Option Addr) (cap : Nat) (P : List Int) (ix lf : Int) (lv pl : Bool) (w : World) (h : RowR w (.slice a P.length cap) P) (hl : P.length ≤ 1048576) (ho : okPl P = true) (hi : inB ix 0 (P.length : Int) = false) :
    Calls Tryd.prog 98 #[.agg #[.slice a P.length cap, .int .i64 ix, .int .i64 lf, .bool lv, .bool pl]] w fun e w' => e = .returned (.bool false) ∧ Below w.heap.size w w' := by
  have hB := (Below.refl w.heap.size w).alloc (Nat.le_refl _) (.cells #[.slice a P.length cap, .int .i64 ix, .int .i64 lf, .bool lv, .bool pl] 38)
  have hP := hid (pok_specD a cap P _ (h.below hB) hl)
  have hr := hid (h.below hB)
  have hq := Blk.new w #[.slice a P.length cap, .int .i64 ix, .int .i64 lf, .bool lv, .bool pl] 38
  have x0 := hq.cell
  rw [ho] at hP
  replace hB := hid hB
  clear hq h ho
  have hI := hid (fun W => in_spec ix 0 (P.length : Int) W)
  rw [hi] at hI
  clear hi
  go_enter Tryd.func98, Tryd.ntmps98
  go_upto_region 1 with fail
  obtain ⟨V, hV⟩ : ∃ V, w.alloc (.cells #[.slice a P.length cap, .int .i64 ix, .int .i64 lf, .bool lv, .bool pl] 38) = V := ⟨_, rfl⟩
  rw [hV] at hB hP x0 hr ⊢
  clear hV
  go_wp2_with fail
  refine hP.out.mono ?_
  rintro e w1 ⟨rfl, hww⟩
  obtain rfl := hww.symm
  clear hP
  go_wp2_with fail
  refine (hI.out _).mono ?_
  rintro e w1 ⟨rfl, hww⟩
  obtain rfl := hww.symm
  clear hI
  go_wp2
  go_ret
  exact ⟨rfl, hB.out⟩
set_option maxRecDepth 100000 in
set_option maxHeartbeats 1000000 in
theorem deckok_end (a : Option Addr) (cap : Nat) (P : List Int) (ix lf : Int) (lv pl : Bool) (w : World) (h : RowR w (.slice a P.length cap) P) (hl : P.length ≤ 1048576) (ho : okPl P = true) (hi : inB ix 0 (P.length : Int) = true) (he : ix = (P.length : Int)) :
    Calls Tryd.prog 98 #[.agg #[.slice a P.length cap, .int .i64 ix, .int .i64 lf, .bool lv, .bool pl]] w fun e w' => e = .returned (.bool (decide (lf = 0) && !pl)) ∧ Below w.heap.size w w' := by
  have hB := (Below.refl w.heap.size w).alloc (Nat.le_refl _) (.cells #[.slice a P.length cap, .int .i64 ix, .int .i64 lf, .bool lv, .bool pl] 38)
  have hP := hid (pok_specD a cap P _ (h.below hB) hl)
  have hr := hid (h.below hB)
  have hq := Blk.new w #[.slice a P.length cap, .int .i64 ix, .int .i64 lf, .bool lv, .bool pl] 38
  have x0 := hq.cell
  rw [ho] at hP
  replace hB := hid hB
  clear hq h ho
  have hI := hid (fun W => in_spec ix 0 (P.length : Int) W)
  rw [hi] at hI
  have heb : (ix == (P.length : Int)) = true := by rw [beq_iff_eq]; exact he
  clear hi he
  have e : decide (lf = 0) = (lf == 0) := by rw [Bool.eq_iff_iff]; simp
  rw [e]
  clear e
  cases hl0 : (lf == 0)
  all_goals
    go_enter Tryd.func98, Tryd.ntmps98
    go_upto_region 1 with fail
    obtain ⟨V, hV⟩ : ∃ V, w.alloc (.cells #[.slice a P.length cap, .int .i64 ix, .int .i64 lf, .bool lv, .bool pl] 38) = V := ⟨_, rfl⟩
    rw [hV] at hB hP x0 hr ⊢
    clear hV
    go_wp2_with fail
    refine hP.out.mono ?_
    rintro e w1 ⟨rfl, hww⟩
    obtain rfl := hww.symm
    clear hP
    go_wp2_with fail
    refine (hI.out _).mono ?_
    rintro e w1 ⟨rfl, hww⟩
    obtain rfl := hww.symm
    clear hI
    go_wp2
    go_ret
    exact ⟨by cases pl <;> rfl, hB.out⟩
set_option maxRecDepth 100000 in
set_option maxHeartbeats 1000000 in
theorem deckok_mid (a : Option Addr) (cap : Nat) (P : List Int) (ix lf : Int) (lv pl : Bool) (w : World) (h : RowR w (.slice a P.length cap) P) (hl : P.length ≤ 1048576) (ho : okPl P = true) (hi : inB ix 0 (P.length : Int) = true) (he : ix ≠ (P.length : Int)) :
    Calls Tryd.prog 98 #[.agg #[.slice a P.length cap, .int .i64 ix, .int .i64 lf, .bool lv, .bool pl]] w fun e w' => e = .returned (.bool (inB lf 1 (P.getD ix.toNat 0))) ∧ Below w.heap.size w w' := by
  have hB := (Below.refl w.heap.size w).alloc (Nat.le_refl _) (.cells #[.slice a P.length cap, .int .i64 ix, .int .i64 lf, .bool lv, .bool pl] 38)
  have hP := hid (pok_specD a cap P _ (h.below hB) hl)
  have hr := hid (h.below hB)
  have hq := Blk.new w #[.slice a P.length cap, .int .i64 ix, .int .i64 lf, .bool lv, .bool pl] 38
  have x0 := hq.cell
  rw [ho] at hP
  replace hB := hid hB
  clear hq h ho
  have hI := hid (fun W => in_spec ix 0 (P.length : Int) W)
  rw [hi] at hI
  have hi2 : 0 ≤ ix ∧ ix ≤ (P.length : Int) := of_decide_eq_true hi
  have heb : (ix == (P.length : Int)) = false := by rw [beq_eq_false_iff_ne]; exact he
  obtain ⟨k, rfl⟩ : ∃ k : Nat, ix = (k : Int) := ⟨ix.toNat, by omega⟩
  have hkl : k < P.length := by omega
  have hkI : (k : Int) < (P.length : Int) := by omega
  rw [Int.toNat_natCast]
  obtain ⟨b, off, rfl, xk⟩ := hr.out.at hkl
  have hI2 := hid (fun W => in_spec lf 1 (P.getD k 0) W)
  generalize P.getD k 0 = X at *
  clear hi he hi2
  go_enter Tryd.func98, Tryd.ntmps98
  go_upto_region 1 with fail
  obtain ⟨V, hV⟩ : ∃ V, w.alloc (.cells #[.slice (some ⟨b, off, none⟩) P.length cap, .int .i64 (k : Int), .int .i64 lf, .bool lv, .bool pl] 38) = V := ⟨_, rfl⟩
  rw [hV] at hB hP x0 hr xk ⊢
  clear hV
  go_wp2_with fail
  refine hP.out.mono ?_
  rintro e w1 ⟨rfl, hww⟩
  obtain rfl := hww.symm
  clear hP
  go_wp2_with fail
  refine (hI.out _).mono ?_
  rintro e w1 ⟨rfl, hww⟩
  obtain rfl := hww.symm
  clear hI
  go_wp2_with fail
  go_quiet ((go_at_call 99; exact Calls.quiet_of_same (hI2.out _)))
  go_wp2
  go_ret
  exact ⟨rfl, hB.out.trans ⟨rfl, rfl, rfl, Nat.le_refl _, fun _ _ => rfl⟩⟩
theorem deckok_spec (a : Option Addr) (cap : Nat) (d : Dk) (w : World) (h : RowR w (.slice a d.pulses.length cap) d.pulses) (hl : d.pulses.length ≤ 1048576) :
    Calls Tryd.prog 98 #[dkV (.slice a d.pulses.length cap) d] w fun e w' => e = .returned (.bool d.ok) ∧ Below w.heap.size w w' := by
  obtain ⟨P, ix, lf, lv, pl⟩ := d
  have e : (Dk.mk P ix lf lv pl).ok = (okPl P && inB ix 0 (P.length : Int) && (if ix = (P.length : Int) then decide (lf = 0) && !pl else inB lf 1 (P.getD ix.toNat 0))) := rfl
  rw [e]
  cases ho : okPl P
  · exact deckok_no a cap P ix lf lv pl w h hl ho
  cases hi : inB ix 0 (P.length : Int)
  · exact deckok_out a cap P ix lf lv pl w h hl ho hi
  by_cases he : ix = (P.length : Int)
  · rw [if_pos he]
    exact deckok_end a cap P ix lf lv pl w h hl ho hi he
  · rw [if_neg he]
    exact deckok_mid a cap P ix lf lv pl w h hl ho hi he
end Go.Proofs.YtifcdojaocndhaaDoor
