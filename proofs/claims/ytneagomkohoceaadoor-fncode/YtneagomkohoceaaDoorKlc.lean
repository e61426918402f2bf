/- The words of a text and numbers, as the program reads them. -/
import Derived.Test.YtneagomkohoceaaDoorIqc
import Derived.Test.YtneagomkohoceaaDoorImc
import Derived.Test.YtneagomkohoceaaDoorShc
import Derived.Shelf.GgClosure.Gives
namespace Go.Proofs.YtneagomkohoceaaDoor
open Go.ChangeShapes Go.WideShapes Go.ChangeAt Go.RowKit
set_option linter.unusedVariables false
set_option linter.unusedSimpArgs false

theorem dig_impl (z : Int) (w : World) : Calls Tryd.prog 91 #[.int .u8 z] w fun e w' => e = .returned (.bool (inB z 48 57)) ∧ w' = w := by
  go_enter Tryd.func91, Tryd.ntmps91
  go_wp2
  all_goals go_ret
  all_goals exact ⟨ret_bool (by rw [Bool.eq_iff_iff]; simp [inB]; try omega), rfl⟩
theorem blank_impl (x : Int) (w : World) : Calls Tryd.prog 67 #[.int .i32 x] w fun e w' => e = .returned (.bool (x == 32)) ∧ w' = w := by
  go_enter Tryd.func67, Tryd.ntmps67
  go_wp2
  go_ret
  exact ⟨rfl, rfl⟩
theorem enter_blank : ∀ args w, (callFunc 67 args).run Tryd.prog w = .ok (.enter 67 args) w := enters_of Tryd.func67 (by kernel_rfl) rfl
theorem words_impl (s : ByteArray) (w : World) (hs : s.size ≤ 65536) :
    Calls Tryd.prog 41 #[.string s] w fun e w' => ∃ v, e = .returned v ∧ w'.ownsRow w.heap.size 9 1 v (wordsB s).length ((wordsB s).map Value.string) ∧ Below w.heap.size w w' := by
  have hp : PredAt Tryd.prog 67 #[] encR blankP w := fun W x _ => by
    refine (blank_impl (x : Int) W).mono ?_
    rintro e w' ⟨rfl, rfl⟩
    refine ⟨ret_bool ?_, 0, rfl⟩
    unfold blankP
    rw [Bool.eq_iff_iff]
    simp
    omega
  have hF := Tryd.strings_FieldsFunc 67 #[] enter_blank blankP s w (by omega) hp
  rw [words_runes] at hF
  replace hF := hid hF
  go_enter Tryd.func41, Tryd.ntmps41
  go_wp2_with fail
  refine hF.out.mono ?_
  rintro e w1 ⟨A, rfl, _, hown, hb⟩
  replace hown := hid hown
  replace hb := hid hb
  clear hF
  go_wp2
  go_ret
  exact ⟨_, rfl, hown.out, hb.out⟩
theorem NumP.no {s : ByteArray} (h : ¬ isNum s) : NumP s (.returned (.tuple #[.int .i64 0, .bool false])) := ⟨0, by rw [decide_eq_false h], fun h2 => absurd h2 h⟩
theorem NumP.yes {s : ByteArray} {n : Int} (h : isNum s) (hn : valS s s.size = n) : NumP s (.returned (.tuple #[.int .i64 n, .bool true])) := ⟨n, by rw [decide_eq_true h], fun _ => hn.symm⟩
set_option maxRecDepth 100000 in
set_option maxHeartbeats 1000000 in
theorem num_impl (s : ByteArray) (w : World) (hs : s.size ≤ 1000000) :
    Calls Tryd.prog 83 #[.string s] w fun e w' => NumP s e ∧ w' = w := by
  have hno : Hid (¬ isNum s → NumP s (.returned (.tuple #[.int .i64 0, .bool false]))) := NumP.no
  by_cases h0 : s.size < 1
  · have hnn := hid (hno.out (fun h => by have := h.1; omega))
    have hi : (s.size : Int) < 1 := by omega
    go_enter Tryd.func83, Tryd.ntmps83
    go_wp2
    go_ret2
    exact ⟨hnn.out, rfl⟩
  have hB0 : decide ((s.size : Int) < 1) = false := by simp; omega
  by_cases h18 : 18 < s.size
  · have hnn := hid (hno.out (fun h => by have := h.2.1; omega))
    have hi : (18 : Int) < (s.size : Int) := by omega
    go_enter Tryd.func83, Tryd.ntmps83
    go_wp2
    go_ret2
    exact ⟨hnn.out, rfl⟩
  have hB18 : decide ((18 : Int) < (s.size : Int)) = false := by simp; omega
  have hi0 := run_idx s 0 0 rfl (by omega)
  have hz0 := byt_bd s 0
  by_cases hlead : 1 < s.size ∧ byt s 0 = 48
  · have hnn := hid (hno.out (fun h => h.2.2.1 hlead.1 hlead.2))
    rw [hlead.2] at hi0
    have hi : (1 : Int) < (s.size : Int) := by omega
    go_enter Tryd.func83, Tryd.ntmps83
    go_wp2
    go_ret2
    exact ⟨hnn.out, rfl⟩
  have h1 : Hid (1 < s.size → byt s 0 ≠ 48) := fun h e => hlead ⟨h, e⟩
  by_cases h1s : 1 < s.size
  · have hi : (1 : Int) < (s.size : Int) := by omega
    have h48 : (byt s 0 == 48) = false := by
      rw [beq_eq_false_iff_ne]
      exact h1.out h1s
    clear hlead
    obtain ⟨t0, ht0⟩ : ∃ t0, byt s 0 = t0 := ⟨_, rfl⟩
    rw [ht0] at hi0 hz0 h48
    replace ht0 := hid ht0
    go_enter Tryd.func83, Tryd.ntmps83
    go_wp2
    go_loopw [4, 26] (fun q i wr => ∃ j : Nat, j ≤ s.size ∧ i = .int .i64 j ∧ q = .int .i64 (valS s j) ∧ digS s j ∧ wr = w) (fun _ i _ => s.size - (intOf i).toNat)
    case atStart => exact ⟨0, by omega, rfl, rfl, fun i hi => by omega, rfl⟩
    case round =>
      obtain ⟨j, hj, rfl, rfl, hdg, rfl⟩ := hrel
      by_cases hlt : j < s.size
      · have hid1 := run_idx s (j : Int) j rfl hlt
        have hzb := byt_bd s j
        have hb17 := valS_17 hdg (by omega)
        by_cases hz : 48 ≤ byt s j ∧ byt s j ≤ 57
        · have hdg2 := hid (digS_snoc hdg hz)
          have hv : Hid (10 * valS s j + (byt s j - 48) = valS s (j + 1)) := rfl
          have hin : inB (byt s j) 48 57 = true := in_yes hz.1 hz.2
          clear hdg
          generalize byt s j = z at *
          generalize valS s j = V at *
          go_wp2_with (go_at_call 91; refine (dig_impl _ _).mono ?_; rintro e w' ⟨rfl, rfl⟩; rw [hin])
          go_roundw
          case rel => exact ⟨j + 1, by omega, by go_num, by rw [hv.out], hdg2.out, trivial⟩
          case measure => simp [intOf]; omega
        · have hE := hid (not_digS hlt hz)
          have hin : inB (byt s j) 48 57 = false := in_no hz
          clear hdg hb17 hz
          generalize byt s j = z at *
          generalize valS s j = V at *
          go_wp2_with (go_at_call 91; refine (dig_impl _ _).mono ?_; rintro e w' ⟨rfl, rfl⟩; rw [hin])
          go_ret2
          exact ⟨hno.out (fun h => hE.out h.2.2.2), rfl⟩
      · obtain rfl : j = s.size := by omega
        have hyes : Hid (isNum s) := ⟨by omega, by omega, h1.out, hdg⟩
        clear hdg
        generalize hV : valS s s.size = V at *
        replace hV := hid hV
        go_wp2
        go_ret2
        exact ⟨NumP.yes hyes.out hV.out, rfl⟩
  · have hi : decide ((1 : Int) < (s.size : Int)) = false := by simp; omega
    clear hlead
    obtain ⟨t0, ht0⟩ : ∃ t0, byt s 0 = t0 := ⟨_, rfl⟩
    rw [ht0] at hi0 hz0
    replace ht0 := hid ht0
    go_enter Tryd.func83, Tryd.ntmps83
    go_wp2
    go_loopw [4, 26] (fun q i wr => ∃ j : Nat, j ≤ s.size ∧ i = .int .i64 j ∧ q = .int .i64 (valS s j) ∧ digS s j ∧ wr = w) (fun _ i _ => s.size - (intOf i).toNat)
    case atStart => exact ⟨0, by omega, rfl, rfl, fun i hi => by omega, rfl⟩
    case round =>
      obtain ⟨j, hj, rfl, rfl, hdg, rfl⟩ := hrel
      by_cases hlt : j < s.size
      · have hid1 := run_idx s (j : Int) j rfl hlt
        have hzb := byt_bd s j
        have hb17 := valS_17 hdg (by omega)
        by_cases hz : 48 ≤ byt s j ∧ byt s j ≤ 57
        · have hdg2 := hid (digS_snoc hdg hz)
          have hv : Hid (10 * valS s j + (byt s j - 48) = valS s (j + 1)) := rfl
          have hin : inB (byt s j) 48 57 = true := in_yes hz.1 hz.2
          clear hdg
          generalize byt s j = z at *
          generalize valS s j = V at *
          go_wp2_with (go_at_call 91; refine (dig_impl _ _).mono ?_; rintro e w' ⟨rfl, rfl⟩; rw [hin])
          go_roundw
          case rel => exact ⟨j + 1, by omega, by go_num, by rw [hv.out], hdg2.out, trivial⟩
          case measure => simp [intOf]; omega
        · have hE := hid (not_digS hlt hz)
          have hin : inB (byt s j) 48 57 = false := in_no hz
          clear hdg hb17 hz
          generalize byt s j = z at *
          generalize valS s j = V at *
          go_wp2_with (go_at_call 91; refine (dig_impl _ _).mono ?_; rintro e w' ⟨rfl, rfl⟩; rw [hin])
          go_ret2
          exact ⟨hno.out (fun h => hE.out h.2.2.2), rfl⟩
      · obtain rfl : j = s.size := by omega
        have hyes : Hid (isNum s) := ⟨by omega, by omega, h1.out, hdg⟩
        clear hdg
        generalize hV : valS s s.size = V at *
        replace hV := hid hV
        go_wp2
        go_ret2
        exact ⟨NumP.yes hyes.out hV.out, rfl⟩
end Go.Proofs.YtneagomkohoceaaDoor
