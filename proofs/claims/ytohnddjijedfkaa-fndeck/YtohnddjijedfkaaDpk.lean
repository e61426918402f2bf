/- A deck in a block: whether it is at its end, whether it is right: the program. -/
import Derived.Test.YtohnddjijedfkaaDhk
import Derived.Test.YtohnddjijedfkaaVuk
import Derived.Deep.QuietTactic
namespace Go.Proofs.Ytohnddjijedfkaa
open Go.ChangeShapes Go.WideShapes Go.ChangeAt Go.RowKit
set_option linter.unusedVariables false
set_option linter.unusedSimpArgs false

set_option maxRecDepth 100000 in
theorem atend_impl (b : Nat) (a : Option Addr) (cap : Nat) (P : List Int) (ix lf : Int) (lv pl : Bool) (W : World) (h : Blk W b #[.slice a P.length cap, .int .i64 ix, .int .i64 lf, .bool lv, .bool pl]) :
    Calls Try.prog 46 #[.pointer (some ⟨b, 0, none⟩)] W fun e w' => e = .returned (.bool (ix == (P.length : Int))) ∧ ∃ n, w' = W.drewN n := by
  have x0 := h.cell
  clear h
  go_enter Try.func46, Try.ntmps46
  go_wp2
  go_quiet (fail)
  go_wp2
  go_ret
  exact ⟨rfl, _, rfl⟩
set_option maxRecDepth 100000 in
set_option maxHeartbeats 1000000 in
theorem right_long (b : Nat) (a : Option Addr) (cap : Nat) (P : List Int) (ix lf : Int) (lv pl : Bool) (W : World) (h : Blk W b #[.slice a P.length cap, .int .i64 ix, .int .i64 lf, .bool lv, .bool pl]) (hl : 5000 < P.length) :
    Calls Try.prog 25 #[.pointer (some ⟨b, 0, none⟩)] W fun e w' => e = .returned (.bool false) ∧ ∃ n, w' = W.drewN n := by
  have x0 := h.cell
  have hd : (5000 : Int) < (P.length : Int) := by omega
  clear h
  go_enter Try.func25, Try.ntmps25
  go_wp2
  go_quiet (fail)
  go_wp2
  go_ret
  exact ⟨rfl, _, rfl⟩
set_option maxRecDepth 100000 in
set_option maxHeartbeats 1000000 in
theorem right_out (b : Nat) (a : Option Addr) (cap : Nat) (P : List Int) (ix lf : Int) (lv pl : Bool) (W : World) (h : Blk W b #[.slice a P.length cap, .int .i64 ix, .int .i64 lf, .bool lv, .bool pl]) (hl : P.length ≤ 5000) (hi : inB ix 0 (P.length : Int) = false) :
    Calls Try.prog 25 #[.pointer (some ⟨b, 0, none⟩)] W fun e w' => e = .returned (.bool false) ∧ ∃ n, w' = W.drewN n := by
  have x0 := h.cell
  have hd : ¬ (5000 : Int) < (P.length : Int) := by omega
  have hI := hid (fun W => withinV_impl ix 0 (P.length : Int) W)
  rw [hi] at hI
  clear h
  go_enter Try.func25, Try.ntmps25
  go_wp2
  go_quiet ((go_at_call 26; exact Calls.quiet_of_same (hI.out _)))
  go_wp2
  go_ret
  exact ⟨rfl, _, rfl⟩
set_option maxRecDepth 100000 in
set_option maxHeartbeats 2000000 in
theorem right_in (b : Nat) (a : Option Addr) (cap : Nat) (P : List Int) (ix lf : Int) (lv pl : Bool) (W : World) (h : Blk W b #[.slice a P.length cap, .int .i64 ix, .int .i64 lf, .bool lv, .bool pl]) (hr : RowR W (.slice a P.length cap) P) (hl : P.length ≤ 5000) (hi : inB ix 0 (P.length : Int) = true) :
    Calls Try.prog 25 #[.pointer (some ⟨b, 0, none⟩)] W fun e w' => e = .returned (.bool (Dk.mk P ix lf lv pl).ok) ∧ ∃ n, w' = W.drewN n := by
  have hno : Hid (∀ k, k < P.length → inB (P.getD k 0) 1 1000 = false → (Dk.mk P ix lf lv pl).ok = false) := fun k hk hb => by
    unfold Dk.ok okPl
    rw [show allP P = false from all_no hk hb]
    rfl
  have hyes : Hid ((∀ k, k < P.length → inB (P.getD k 0) 1 1000 = true) → (Dk.mk P ix lf lv pl).ok = if ix = (P.length : Int) then decide (lf = 0) && !pl else inB lf 1 (P.getD ix.toNat 0)) := fun hh => by
    show ((allP P && decide (P.length ≤ 5000)) && inB ix 0 (P.length : Int) && (if ix = (P.length : Int) then decide (lf = 0) && !pl else inB lf 1 (P.getD ix.toNat 0))) = _
    rw [show allP P = true from all_yes hh, decide_eq_true hl, hi]
    rfl
  obtain ⟨Q, hQ⟩ : ∃ Q, (Dk.mk P ix lf lv pl).ok = Q := ⟨_, rfl⟩
  rw [hQ] at hno hyes ⊢
  clear hQ
  have x0 := h.cell
  have hd : ¬ (5000 : Int) < (P.length : Int) := by omega
  have hI := hid (fun W => withinV_impl ix 0 (P.length : Int) W)
  rw [hi] at hI
  have hi2 : Hid (0 ≤ ix ∧ ix ≤ (P.length : Int)) := hid (of_decide_eq_true hi)
  replace h := hid h
  replace hr := hid hr
  clear hi
  go_enter Try.func25, Try.ntmps25
  go_wp2
  go_quiet ((go_at_call 26; exact Calls.quiet_of_same (hI.out _)))
  generalize nq = n1 at *
  clear hI
  go_wp2
  go_loop [29] (fun i => ∃ k : Nat, k ≤ P.length ∧ i = .int .i64 k ∧ (∀ j, j < k → inB (P.getD j 0) 1 1000 = true)) (fun i => P.length - (intOf i).toNat)
  case atStart => exact ⟨0, by omega, rfl, fun j hj => by omega⟩
  case round =>
    obtain ⟨k, hk, rfl, hj⟩ := hrel
    by_cases hlt : k < P.length
    · obtain ⟨g, off, rfl, x1⟩ := hr.out.at hlt
      cases hb : inB (P.getD k 0) 1 1000
      · have hE2 := hid (hno.out k hlt hb)
        clear hj hno hyes
        have hI := hid (fun W => isPulse_impl (P.getD k 0) W)
        rw [hb] at hI
        clear hb
        generalize P.getD k 0 = X at *
        go_wp2_with (go_at_call 45; refine (hI.out _).mono ?_; rintro e w' ⟨rfl, hww⟩; obtain rfl := hww.symm)
        go_ret
        exact ⟨ret_bool hE2.out.symm, _, rfl⟩
      · have hj2 : Hid (∀ j, j < k + 1 → inB (P.getD j 0) 1 1000 = true) := fun j hj1 => by
          by_cases e : j = k
          · rw [e]; exact hb
          · exact hj j (by omega)
        clear hj hno hyes
        have hI := hid (fun W => isPulse_impl (P.getD k 0) W)
        rw [hb] at hI
        clear hb
        generalize P.getD k 0 = X at *
        go_wp2_with (go_at_call 45; refine (hI.out _).mono ?_; rintro e w' ⟨rfl, hww⟩; obtain rfl := hww.symm)
        go_round
        case rel => exact ⟨k + 1, by omega, by go_num, hj2.out⟩
        case measure => simp [intOf] <;> omega
    · obtain rfl : k = P.length := by omega
      have hE := hyes.out hj
      clear hj hno hyes
      have hA := hid (atend_impl b a cap P ix lf lv pl (W.drewN n1) h.out)
      by_cases he : ix = (P.length : Int)
      · rw [if_pos he] at hE
        have heb : (ix == (P.length : Int)) = true := by rw [beq_iff_eq]; exact he
        rw [heb] at hA
        replace hE := hid hE
        clear he heb
        go_wp2_with fail
        refine hA.out.mono ?_
        rintro e w2 ⟨rfl, n2, rfl⟩
        have e2 : decide (lf = 0) = (lf == 0) := by rw [Bool.eq_iff_iff]; simp
        rw [e2] at hE
        clear e2
        cases hl0 : (lf == 0)
        all_goals
          go_wp2
          go_ret
          exact ⟨ret_bool (by rw [hE.out, hl0]; cases pl <;> rfl), n1 + n2, by first | rfl | exact World.drewN_drewN W n1 n2⟩
      · rw [if_neg he] at hE
        have heb : (ix == (P.length : Int)) = false := by rw [beq_eq_false_iff_ne]; exact he
        rw [heb] at hA
        obtain ⟨m, rfl⟩ : ∃ m : Nat, ix = (m : Int) := ⟨ix.toNat, by have := hi2.out.1; omega⟩
        have hml : m < P.length := by have := hi2.out.2; omega
        have hmI : (m : Int) < (P.length : Int) := by omega
        rw [Int.toNat_natCast] at hE
        obtain ⟨g, off, rfl, xm⟩ := hr.out.at hml
        have hI2 := hid (fun W => withinV_impl lf 1 (P.getD m 0) W)
        generalize P.getD m 0 = X at *
        replace hE := hid hE
        clear he heb hi2
        go_wp2_with fail
        refine hA.out.mono ?_
        rintro e w2 ⟨rfl, n2, rfl⟩
        have x2 : ∀ i, ((W.drewN n1).drewN n2).cell? ⟨b, i, none⟩ = _ := x0
        have y2 : ((W.drewN n1).drewN n2).cell? ⟨g, off + m, none⟩ = _ := xm
        obtain ⟨W2, hW2⟩ : ∃ W2, (W.drewN n1).drewN n2 = W2 := ⟨_, rfl⟩
        rw [hW2] at x2 y2 ⊢
        replace hW2 := hid hW2
        clear x0 xm
        go_wp2
        go_quiet ((go_at_call 26; exact Calls.quiet_of_same (hI2.out _)))
        generalize nq = n3 at *
        go_wp2
        go_ret
        exact ⟨ret_bool hE.out.symm, n1 + (n2 + n3), by rw [← hW2.out, World.drewN_drewN, World.drewN_drewN]⟩
theorem right_impl (b : Nat) (a : Option Addr) (cap : Nat) (d : Dk) (W : World) (h : Blk W b (dkA (.slice a d.pulses.length cap) d)) (hr : RowR W (.slice a d.pulses.length cap) d.pulses) :
    Calls Try.prog 25 #[.pointer (some ⟨b, 0, none⟩)] W fun e w' => e = .returned (.bool d.ok) ∧ ∃ n, w' = W.drewN n := by
  obtain ⟨P, ix, lf, lv, pl⟩ := d
  by_cases hl : P.length ≤ 5000
  · cases hi : inB ix 0 (P.length : Int)
    · have e : (Dk.mk P ix lf lv pl).ok = false := by
        show ((allP P && decide (P.length ≤ 5000)) && inB ix 0 (P.length : Int) && _) = false
        rw [hi, Bool.and_false, Bool.false_and]
      rw [e]
      exact right_out b a cap P ix lf lv pl W h hl hi
    · exact right_in b a cap P ix lf lv pl W h hr hl hi
  · have e : (Dk.mk P ix lf lv pl).ok = false := by
      show ((allP P && decide (P.length ≤ 5000)) && inB ix 0 (P.length : Int) && _) = false
      rw [decide_eq_false hl, Bool.and_false, Bool.false_and, Bool.false_and]
    rw [e]
    exact right_long b a cap P ix lf lv pl W h (by omega)
set_option maxRecDepth 100000 in
theorem deckok_impl (a : Option Addr) (cap : Nat) (d : Dk) (w : World) (h : RowR w (.slice a d.pulses.length cap) d.pulses) :
    Calls Try.prog 13 #[dkV (.slice a d.pulses.length cap) d] w fun e w' => e = .returned (.bool d.ok) ∧ Below w.heap.size w w' := by
  obtain ⟨P, ix, lf, lv, pl⟩ := d
  have hB := (Below.refl w.heap.size w).alloc (Nat.le_refl _) (.cells #[.slice a P.length cap, .int .i64 ix, .int .i64 lf, .bool lv, .bool pl] 25)
  have hP := hid (right_impl w.heap.size a cap ⟨P, ix, lf, lv, pl⟩ _ (Blk.new w _ 25) (h.below hB))
  replace hB := hid hB
  clear h
  generalize (Dk.mk P ix lf lv pl).ok = Q at *
  go_enter Try.func13, Try.ntmps13
  go_wp2_with fail
  refine hP.out.mono ?_
  rintro e w1 ⟨rfl, n, rfl⟩
  go_wp2
  go_ret
  exact ⟨rfl, hB.out.trans (Below.drewN _ _ _)⟩
end Go.Proofs.Ytohnddjijedfkaa
