/- Numbers, as the specification reads them. -/
import Derived.Test.YtneagomkohoceaaDoorNuc
import Derived.Test.YtneagomkohoceaaDoorIgc
namespace Go.Proofs.YtneagomkohoceaaDoor
open Go.ChangeShapes Go.WideShapes Go.ChangeAt Go.RowKit
set_option linter.unusedVariables false
set_option linter.unusedSimpArgs false

theorem valS_17 {s : ByteArray} {k : Nat} (h : digS s k) (hk : k ≤ 17) : 0 ≤ valS s k ∧ valS s k ≤ 100000000000000000 := by
  have h1 := valS_bd k h
  have : (10 : Nat) ^ k ≤ 10 ^ 17 := Nat.pow_le_pow_right (by decide) hk
  have e : (10 : Nat) ^ 17 = 100000000000000000 := by decide
  rw [e] at this
  have h2 : ((10 ^ k : Nat) : Int) ≤ ((100000000000000000 : Nat) : Int) := Int.ofNat_le.2 this
  rw [Int.natCast_pow] at h2
  have h3 : (((10 : Nat) : Int)) ^ k = (10 : Int) ^ k := rfl
  rw [h3] at h2
  omega
/-- what reading a number may give: it is one just if the text is that number's digits, or there is a sign -/
def Num0 (s : ByteArray) (e : Ending) : Prop := ∃ n ok, e = .returned (.tuple #[.int .i64 n, .bool ok]) ∧ (ok = true → 0 ≤ n → isNum s ∧ n = valS s s.size) ∧ (isNum s → ok = true ∧ n = valS s s.size)
def NumP (s : ByteArray) (e : Ending) : Prop := ∃ n, e = .returned (.tuple #[.int .i64 n, .bool (decide (isNum s))]) ∧ (isNum s → n = valS s s.size)
theorem Num0.no {s : ByteArray} (h : ¬ isNum s) : Num0 s (.returned (.tuple #[.int .i64 0, .bool false])) := ⟨0, false, rfl, fun h => (by cases h), fun h2 => absurd h2 h⟩
theorem Num0.neg {s : ByteArray} {n : Int} (h : ¬ isNum s) (hn : ¬ 0 ≤ n) : Num0 s (.returned (.tuple #[.int .i64 n, .bool true])) := ⟨n, true, rfl, fun _ h2 => absurd h2 hn, fun h2 => absurd h2 h⟩
theorem Num0.yes {s : ByteArray} {n : Int} (h : isNum s) (hn : valS s s.size = n) : Num0 s (.returned (.tuple #[.int .i64 n, .bool true])) := ⟨n, true, rfl, fun _ _ => ⟨h, hn.symm⟩, fun _ => ⟨rfl, hn.symm⟩⟩
set_option maxRecDepth 100000 in
set_option maxHeartbeats 1000000 in
theorem num0_spec (s : ByteArray) (w : World) (hs : s.size ≤ 1000000) :
    Calls Tryd.prog 86 #[.string s] w fun e w' => Num0 s e ∧ w' = w := by
  have hno : Hid (¬ isNum s → Num0 s (.returned (.tuple #[.int .i64 0, .bool false]))) := Num0.no
  by_cases h0 : s.size = 0
  · have hnn := hid (hno.out (fun h => by have := h.1; omega))
    go_enter Tryd.func86, Tryd.ntmps86
    go_wp2
    go_ret2
    exact ⟨hnn.out, rfl⟩
  have hs0 : 0 < s.size := by omega
  have hi0 := run_idx s 0 0 rfl hs0
  have hz0 := byt_bd s 0
  by_cases h45 : byt s 0 = 45
  · have hnn := hid (hno.out (fun h => by have := h.2.2.2 0 (by omega); omega))
    rw [h45] at hi0
    obtain ⟨T, hT⟩ : ∃ T, s.extract 1 s.size = T := ⟨_, rfl⟩
    have hTs : T.size = s.size - 1 := by rw [← hT]; simp [ByteArray.size_extract]
    have hnn2 : Hid (¬ isNum s) := fun h => by have := h.2.2.2 0 (by omega); omega
    clear hno h45
    by_cases ht0 : T.size = 0
    · go_enter Tryd.func86, Tryd.ntmps86
      go_wp2
      go_ret2
      exact ⟨hnn.out, rfl⟩
    by_cases ht18 : 18 < T.size
    · have hts : s.size ≤ 1000000 := hs
      replace hTs := hid hTs
      go_enter Tryd.func86, Tryd.ntmps86
      go_wp2
      go_ret2
      exact ⟨hnn.out, rfl⟩
    have hti := run_idx T 0 0 rfl (by omega)
    by_cases ht48 : byt T 0 = 48
    · rw [ht48] at hti
      replace hTs := hid hTs
      by_cases h1T : 1 < T.size
      all_goals
        go_enter Tryd.func86, Tryd.ntmps86
        go_wp2
        go_ret2
        exact ⟨hnn.out, rfl⟩
    have ht48' : (byt T 0 == 48) = false := by simpa using ht48
    have hpos := hid (fun h => valS_pos (s := T) ht48 T.size (by omega) h)
    have ht19 : T.size ≤ 18 := by omega
    replace hTs := hid hTs
    have hB0 : ((T.size : Int) == 0) = false := by rw [beq_eq_false_iff_ne]; omega
    have hB18 : decide ((18 : Int) < (T.size : Int)) = false := by simp; omega
    clear ht18 ht48
    generalize byt T 0 = t0 at *
    go_enter Tryd.func86, Tryd.ntmps86
    go_wp2
    go_loopw [5, 6] (fun q i wr => ∃ j : Nat, j ≤ T.size ∧ i = .int .i64 j ∧ q = .int .i64 (valS T j) ∧ digS T j ∧ wr = w) (fun _ i _ => T.size - (intOf i).toNat)
    case atStart => exact ⟨0, by omega, rfl, rfl, fun i hi => by omega, rfl⟩
    case round =>
      obtain ⟨j, hj, rfl, rfl, hdg, rfl⟩ := hrel
      by_cases hlt : j < T.size
      · have hid1 := run_idx T (j : Int) j rfl hlt
        have hzb := byt_bd T j
        have hb17 := valS_17 hdg (by omega)
        by_cases hz : 48 ≤ byt T j ∧ byt T j ≤ 57
        · have hdg2 := hid (digS_snoc hdg hz)
          have hv : Hid (valS T j * 10 + byt T j - 48 = valS T (j + 1)) := by show valS T j * 10 + byt T j - 48 = 10 * valS T j + (byt T j - 48); omega
          have hz1 : ¬ byt T j < 48 := by omega
          have hz2 : ¬ 57 < byt T j := by omega
          clear hdg
          generalize byt T j = z at *
          generalize valS T j = V at *
          go_wp2
          go_roundw
          case rel => exact ⟨j + 1, by omega, by go_num, by rw [hv.out], hdg2.out, trivial⟩
          case measure => simp [intOf]; omega
        · have hE := hid (not_digS hlt hz)
          clear hdg hb17
          generalize byt T j = z at *
          generalize valS T j = V at *
          by_cases hz1 : z < 48
          · go_wp2
            go_ret2
            exact ⟨hnn.out, rfl⟩
          · have hz2 : 57 < z := by omega
            go_wp2
            go_ret2
            exact ⟨hnn.out, rfl⟩
      · obtain rfl : j = T.size := by omega
        have hvb := valS_lt hdg (by omega)
        have hp := hpos.out hdg
        have hq : ¬ (0 : Int) ≤ -1 * valS T T.size := by omega
        clear hdg
        generalize valS T T.size = V at *
        go_wp2
        go_ret2
        exact ⟨Num0.neg hnn2.out (by omega), rfl⟩
  have h45' : (byt s 0 == 45) = false := by simpa using h45
  by_cases h18 : 18 < s.size
  · have hnn := hid (hno.out (fun h => by have := h.2.1; omega))
    generalize byt s 0 = t0 at *
    go_enter Tryd.func86, Tryd.ntmps86
    go_wp2
    go_ret2
    exact ⟨hnn.out, rfl⟩
  by_cases h48 : byt s 0 = 48
  · by_cases h1s : 1 < s.size
    · have hnn := hid (hno.out (fun h => h.2.2.1 h1s h48))
      rw [h48] at hi0
      go_enter Tryd.func86, Tryd.ntmps86
      go_wp2
      go_ret2
      exact ⟨hnn.out, rfl⟩
    have h1 : Hid (1 < s.size → byt s 0 ≠ 48) := fun h => absurd h h1s
    rw [h48] at hi0
    have hB0 : ((s.size : Int) == 0) = false := by rw [beq_eq_false_iff_ne]; omega
    have hB18 : decide ((18 : Int) < (s.size : Int)) = false := by simp; omega
    have hB1 : decide ((1 : Int) < (s.size : Int)) = false := by simp; omega
    clear h48 h45 h45'
    go_enter Tryd.func86, Tryd.ntmps86
    go_wp2
    go_loopw [5, 6] (fun q i wr => ∃ j : Nat, j ≤ s.size ∧ i = .int .i64 j ∧ q = .int .i64 (valS s j) ∧ digS s j ∧ wr = w) (fun _ i _ => s.size - (intOf i).toNat)
    case atStart => exact ⟨0, by omega, rfl, rfl, fun i hi => by omega, rfl⟩
    case round =>
      obtain ⟨j, hj, rfl, rfl, hdg, rfl⟩ := hrel
      by_cases hlt : j < s.size
      · have hid1 := run_idx s (j : Int) j rfl hlt
        have hzb := byt_bd s j
        have hb17 := valS_17 hdg (by omega)
        by_cases hz : 48 ≤ byt s j ∧ byt s j ≤ 57
        · have hdg2 := hid (digS_snoc hdg hz)
          have hv : Hid (valS s j * 10 + byt s j - 48 = valS s (j + 1)) := by show valS s j * 10 + byt s j - 48 = 10 * valS s j + (byt s j - 48); omega
          have hz1 : ¬ byt s j < 48 := by omega
          have hz2 : ¬ 57 < byt s j := by omega
          clear hdg
          generalize byt s j = z at *
          generalize valS s j = V at *
          go_wp2
          go_roundw
          case rel => exact ⟨j + 1, by omega, by go_num, by rw [hv.out], hdg2.out, trivial⟩
          case measure => simp [intOf]; omega
        · have hE := hid (not_digS hlt hz)
          clear hdg hb17
          generalize byt s j = z at *
          generalize valS s j = V at *
          by_cases hz1 : z < 48
          · go_wp2
            go_ret2
            exact ⟨hno.out (fun h => hE.out h.2.2.2), rfl⟩
          · have hz2 : 57 < z := by omega
            go_wp2
            go_ret2
            exact ⟨hno.out (fun h => hE.out h.2.2.2), rfl⟩
      · obtain rfl : j = s.size := by omega
        have hvb := valS_lt hdg (by omega)
        have hyes : Hid (isNum s) := ⟨by omega, by omega, h1.out, hdg⟩
        clear hdg
        generalize hV : valS s s.size = V at *
        replace hV := hid hV
        go_wp2
        go_ret2
        exact ⟨Num0.yes hyes.out hV.out, rfl⟩
  have h1 : Hid (1 < s.size → byt s 0 ≠ 48) := fun _ => h48
  have h48' : (byt s 0 == 48) = false := by simpa using h48
  have hB0 : ((s.size : Int) == 0) = false := by rw [beq_eq_false_iff_ne]; omega
  have hB18 : decide ((18 : Int) < (s.size : Int)) = false := by simp; omega
  clear h48 h45
  obtain ⟨t0, ht0⟩ : ∃ t0, byt s 0 = t0 := ⟨_, rfl⟩
  rw [ht0] at hi0 hz0 h45' h48'
  replace ht0 := hid ht0
  go_enter Tryd.func86, Tryd.ntmps86
  go_wp2
  go_loopw [5, 6] (fun q i wr => ∃ j : Nat, j ≤ s.size ∧ i = .int .i64 j ∧ q = .int .i64 (valS s j) ∧ digS s j ∧ wr = w) (fun _ i _ => s.size - (intOf i).toNat)
  case atStart => exact ⟨0, by omega, rfl, rfl, fun i hi => by omega, rfl⟩
  case round =>
    obtain ⟨j, hj, rfl, rfl, hdg, rfl⟩ := hrel
    by_cases hlt : j < s.size
    · have hid1 := run_idx s (j : Int) j rfl hlt
      have hzb := byt_bd s j
      have hb17 := valS_17 hdg (by omega)
      by_cases hz : 48 ≤ byt s j ∧ byt s j ≤ 57
      · have hdg2 := hid (digS_snoc hdg hz)
        have hv : Hid (valS s j * 10 + byt s j - 48 = valS s (j + 1)) := by show valS s j * 10 + byt s j - 48 = 10 * valS s j + (byt s j - 48); omega
        have hz1 : ¬ byt s j < 48 := by omega
        have hz2 : ¬ 57 < byt s j := by omega
        clear hdg
        generalize byt s j = z at *
        generalize valS s j = V at *
        go_wp2
        go_roundw
        case rel => exact ⟨j + 1, by omega, by go_num, by rw [hv.out], hdg2.out, trivial⟩
        case measure => simp [intOf]; omega
      · have hE := hid (not_digS hlt hz)
        clear hdg hb17
        generalize byt s j = z at *
        generalize valS s j = V at *
        by_cases hz1 : z < 48
        · go_wp2
          go_ret2
          exact ⟨hno.out (fun h => hE.out h.2.2.2), rfl⟩
        · have hz2 : 57 < z := by omega
          go_wp2
          go_ret2
          exact ⟨hno.out (fun h => hE.out h.2.2.2), rfl⟩
    · obtain rfl : j = s.size := by omega
      have hvb := valS_lt hdg (by omega)
      have hyes : Hid (isNum s) := ⟨by omega, by omega, h1.out, hdg⟩
      clear hdg
      generalize hV : valS s s.size = V at *
      replace hV := hid hV
      go_wp2
      go_ret2
      exact ⟨Num0.yes hyes.out hV.out, rfl⟩
set_option maxRecDepth 100000 in
theorem num_spec (s : ByteArray) (w : World) (hs : s.size ≤ 1000000) :
    Calls Tryd.prog 74 #[.string s] w fun e w' => NumP s e ∧ Below w.heap.size w w' := by
  go_enter Tryd.func74, Tryd.ntmps74
  go_wp2_with fail
  refine (num0_spec s _ hs).mono ?_
  rintro e w1 ⟨⟨n, ok, rfl, hA, hB⟩, hww⟩
  obtain rfl := hww.symm
  cases ok
  · have hn : ¬ isNum s := fun h => by have := (hB h).1; cases this
    have e : decide (isNum s) = false := decide_eq_false hn
    have hE : Hid (NumP s (.returned (.tuple #[.int .i64 n, .bool false]))) := ⟨n, by rw [e], fun h => absurd h hn⟩
    clear hA hB e hn
    go_wp2
    go_ret2
    exact ⟨hE.out, Below.refl _ _⟩
  by_cases h0 : 0 ≤ n
  · obtain ⟨hy, rfl⟩ := hA rfl h0
    have e : decide (isNum s) = true := decide_eq_true hy
    have hb := valS_lt hy.2.2.2 hy.2.1
    have hbk := num_back hy
    obtain ⟨V, hV⟩ : ∃ V : Nat, valS s s.size = (V : Int) := ⟨(valS s s.size).toNat, by omega⟩
    have hD : digB V = s := by
      have e2 : (valS s s.size).toNat = V := by omega
      rw [e2] at hbk
      exact hbk
    have hE : Hid (NumP s (.returned (.tuple #[.int .i64 (V : Int), .bool true]))) := ⟨V, by rw [e], fun _ => hV.symm⟩
    have hV18 : V < 1000000000000000000 := by omega
    rw [hV] at h0 ⊢
    replace hD := hid hD
    clear hA hB e hy hb hbk hV
    go_wp2_with fail
    refine (digits_spec V _ hV18).mono ?_
    rintro e w2 ⟨rfl, hb2⟩
    rw [hD.out]
    replace hb2 := hid hb2
    go_wp2
    go_ret2
    exact ⟨hE.out, hb2.out⟩
  · have hn : ¬ isNum s := fun h => by
      have h1 := (hB h).2
      have h2 := valS_lt h.2.2.2 h.2.1
      omega
    have e : decide (isNum s) = false := decide_eq_false hn
    have hE : Hid (NumP s (.returned (.tuple #[.int .i64 n, .bool false]))) := ⟨n, by rw [e], fun h => absurd h hn⟩
    clear hA hB e hn
    go_wp2
    go_ret2
    exact ⟨hE.out, Below.refl _ _⟩
end Go.Proofs.YtneagomkohoceaaDoor
