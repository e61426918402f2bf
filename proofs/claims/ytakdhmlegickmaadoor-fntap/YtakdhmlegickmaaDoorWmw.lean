/- Plain facts on a word that is put behind a text and taken again. -/
import Derived.Test.YtakdhmlegickmaaDoorPww
import Derived.Test.YtakdhmlegickmaaDoorW06
namespace Go.Proofs.YtakdhmlegickmaaDoor
open Go.ChangeShapes Go.WideShapes Go.ChangeAt Go.RowKit
set_option linter.unusedVariables false

theorem byt_cat (s t : ByteArray) (j : Nat) : byt (s ++ t) j = if j < s.size then byt s j else byt t (j - s.size) := by
  unfold byt
  have e : (s ++ t).data.toList = s.data.toList ++ t.data.toList := by simp [ByteArray.data_append]
  rw [e]
  have hz : s.data.toList.length = s.size := by simp
  by_cases h : j < s.size
  · rw [if_pos h]
    simp only [List.getD_eq_getElem?_getD]
    rw [List.getElem?_append_left (by omega)]
  · rw [if_neg h]
    simp only [List.getD_eq_getElem?_getD]
    rw [List.getElem?_append_right (by omega), hz]
theorem byt_cut (s : ByteArray) (i j k : Nat) (hj : j ≤ s.size) (hk : i + k < j) : byt (s.extract i j) k = byt s (i + k) := by
  unfold byt
  have e : (s.extract i j).data.toList = (s.data.toList.drop i).take (j - i) := by simp [ByteArray.data_extract]
  rw [e]
  simp only [List.getD_eq_getElem?_getD]
  rw [List.getElem?_take, if_pos (by omega), List.getElem?_drop]
theorem byt_two (x y : Int) (hx : 0 ≤ x ∧ x ≤ 255) (hy : 0 ≤ y ∧ y ≤ 255) : byt (strOfNums [x, y]) 0 = x ∧ byt (strOfNums [x, y]) 1 = y := by
  unfold byt
  rw [strOfNums_data]
  simp [UInt8.toNat_ofNat']
  omega
theorem cut_head (s t : ByteArray) : (s ++ t).extract 0 s.size = s := by
  apply ByteArray.ext
  simp [ByteArray.data_extract, ByteArray.data_append]

theorem words_facts (s : ByteArray) (v : Int) (m : Nat) (hm : s.size = m) (hm6 : m ≤ 6) (h0 : 0 ≤ v) (h1 : v < 65536) :
    ∃ t : ByteArray, t.size = m + 2 ∧ putV s v = .tuple #[.string t, .int .i64 0] ∧
      takeT (takeV t 0 m) = .tuple #[cur t m, .string s, .int .i64 0] ∧
      twV (takeV t m 2) = .tuple #[cur t (m + 2), .int .i64 v, .int .i64 0] ∧
      tbV (takeV t (m + 2) 1) = .tuple #[cur t (m + 2), .int .i64 0, .int .i64 9] ∧
      tbV (takeV t m 1) = .tuple #[cur t (m + 1), .int .i64 (v % 256), .int .i64 0] ∧
      tbV (takeV t (m + 1) 1) = .tuple #[cur t (m + 2), .int .i64 (v / 256), .int .i64 0] ∧
      twV (takeV t (m + 1) 2) = .tuple #[cur t (m + 1), .int .i64 0, .int .i64 9] := by
  have hz2 : (strOfNums [v % 256, v / 256]).size = 2 := strOfNums_size _
  have hz : (s ++ strOfNums [v % 256, v / 256]).size = m + 2 := by rw [ByteArray.size_append, hz2, hm]
  have hb := byt_two (v % 256) (v / 256) (by omega) (by omega)
  have b0 : byt (s ++ strOfNums [v % 256, v / 256]) m = v % 256 := by rw [byt_cat, if_neg (by omega), hm, Nat.sub_self]; exact hb.1
  have b1 : byt (s ++ strOfNums [v % 256, v / 256]) (m + 1) = v / 256 := by rw [byt_cat, if_neg (by omega), hm, Nat.add_sub_cancel_left]; exact hb.2
  have hh := cut_head s (strOfNums [v % 256, v / 256])
  rw [hm] at hh
  have hP : putV s v = .tuple #[.string (s ++ strOfNums [v % 256, v / 256]), .int .i64 0] := by unfold putV; rw [if_neg (by omega), if_neg (by omega), if_neg (by omega)]
  refine ⟨s ++ strOfNums [v % 256, v / 256], hz, hP, ?_⟩
  generalize s ++ strOfNums [v % 256, v / 256] = t at hz b0 b1 hh
  have st : ∀ a : Nat, a ≤ m + 2 → stB t a = true := fun a ha => by unfold stB; exact decide_eq_true (by omega)
  have take_yes : ∀ a n : Nat, a + n ≤ m + 2 → takeV t a n = ((t, (a : Int) + n), t.extract a (a + n), 0) := fun a n h => by
    unfold takeV
    rw [if_neg (by rw [st a (by omega)]; simp), if_neg (by omega), if_neg (by omega)]
    congr 2
  have take_no : ∀ a n : Nat, a ≤ m + 2 → n ≤ 65536 → m + 2 < a + n → takeV t a n = ((t, (a : Int)), ByteArray.empty, 9) := fun a n h0 h1 h => by
    unfold takeV
    rw [if_neg (by rw [st a h0]; simp), if_neg (by omega), if_pos (by omega)]
  have e1 := take_yes 0 m (by omega)
  have e2 := take_yes m 2 (by omega)
  have e3 := take_no (m + 2) 1 (by omega) (by omega) (by omega)
  have e4 := take_yes m 1 (by omega)
  have e5 := take_yes (m + 1) 1 (by omega)
  have e6 := take_no (m + 1) 2 (by omega) (by omega) (by omega)
  simp only [Int.natCast_add, Int.cast_ofNat_Int, Nat.zero_add, Int.zero_add] at e1 e2 e3 e4 e5 e6
  refine ⟨?_, ?_, ?_, ?_, ?_, ?_⟩
  · show takeT (takeV t (0 : Int) m) = _
    rw [show takeV t (0 : Int) m = ((t, (m : Int)), t.extract 0 m, 0) from e1, hh]
    rfl
  · rw [e2]
    simp only [twV, if_true]
    rw [byt_cut t m (m + 2) 0 (by omega) (by omega), byt_cut t m (m + 2) 1 (by omega) (by omega), Nat.add_zero, b0, b1, show v % 256 + 256 * (v / 256) = v by omega]
  · rw [e3]
    rfl
  · rw [e4]
    simp only [tbV, if_true]
    rw [byt_cut t m (m + 1) 0 (by omega) (by omega), Nat.add_zero, b0]
  · rw [e5]
    simp only [tbV, if_true]
    rw [byt_cut t (m + 1) (m + 1 + 1) 0 (by omega) (by omega), Nat.add_zero, b1, show (m : Int) + 1 + 1 = m + 2 by omega]
  · rw [e6]
    rfl
end Go.Proofs.YtakdhmlegickmaaDoor
