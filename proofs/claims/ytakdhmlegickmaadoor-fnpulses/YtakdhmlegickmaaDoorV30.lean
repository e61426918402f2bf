/- Plain facts on a word that is put behind a text and taken again. -/
import Derived.Test.YtakdhmlegickmaaDoorV07
import Derived.Test.YtakdhmlegickmaaDoorV11
import Derived.Test.YtakdhmlegickmaaDoorV09
namespace Go.Proofs.YtakdhmlegickmaaDoor
open Go.ChangeShapes Go.WideShapes Go.ChangeAt Go.RowKit
set_option linter.unusedVariables false

theorem byt_cat (s t : ByteArray) (j : Nat) : byt (s ++ t) j = if j < s.size then byt s j else byt t (j - s.size) := by
  unfold byt
  have e : (s ++ t).data.toList = s.data.toList ++ t.data.toList := by simp [ByteArray.data_append]
  rw [e]
  have hz : s.data.toList.length = s.size := by simp
  by_cases h : j < s.size
  · rw [if_pos h]
    simp only [List.getD_eq_getElem?_getD]
    rw [List.getElem?_append_left (by omega)]
  · rw [if_neg h]
    simp only [List.getD_eq_getElem?_getD]
    rw [List.getElem?_append_right (by omega), hz]
theorem byt_cut (s : ByteArray) (i j k : Nat) (hj : j ≤ s.size) (hk : i + k < j) : byt (s.extract i j) k = byt s (i + k) := by
  unfold byt
  have e : (s.extract i j).data.toList = (s.data.toList.drop i).take (j - i) := by simp [ByteArray.data_extract]
  rw [e]
  simp only [List.getD_eq_getElem?_getD]
  rw [List.getElem?_take, if_pos (by omega), List.getElem?_drop]
theorem byt_two (x y : Int) (hx : 0 ≤ x ∧ x ≤ 255) (hy : 0 ≤ y ∧ y ≤ 255) : byt (strOfNums [x, y]) 0 = x ∧ byt (strOfNums [x, y]) 1 = y := by
  unfold byt
  rw [strOfNums_data]
  simp [UInt8.toNat_ofNat']
  omega
theorem cut_head (s t : ByteArray) : (s ++ t).extract 0 s.size = s := by
  apply ByteArray.ext
  simp [ByteArray.data_extract, ByteArray.data_append]

theorem words_facts (s : ByteArray) (v : Int) (m : Nat) (hm : s.size = m) (hm6 : m ≤ 6) (h0 : 0 ≤ v) (h1 : v < 65536) :
    ∃ t : ByteArray, t.size = m + 2 ∧ putV s v = .tuple #[.string t, .int .i64 0] ∧
      takeT (takeV t 0 m) = .tuple #[cur t m, .string s, .int .i64 0] ∧
      twV (takeV t m 2) = .tuple #[cur t (m + 2), .int .i64 v, .int .i64 0] ∧
      tbV (takeV t (m + 2) 1) = .tuple #[cur t (m + 2), .int .i64 0, .int .i64 9] ∧
      tbV (takeV t m 1) = .tuple #[cur t (m + 1), .int .i64 (v % 256), .int .i64 0] ∧
      tbV (takeV t (m + 1) 1) = .tuple #[cur t (m + 2), .int .i64 (v / 256), .int .i64 0] ∧
      twV (takeV t (m + 1) 2) = .tuple #[cur t (m + 1), .int .i64 0, .int .i64 9] := by
  have hz2 : (strOfNums [v % 256, v / 256]).size = 2 := strOfNums_size _
  have hz : (s ++ strOfNums [v % 256, v / 256]).size = m + 2 := by rw [ByteArray.size_append, hz2, hm]
  have hb := byt_two (v % 256) (v / 256) (by omega) (by omega)
  have b0 : byt (s ++ strOfNums [v % 256, v / 256]) m = v % 256 := by rw [byt_cat, if_neg (by omega), hm, Nat.sub_self]; exact hb.1
  have b1 : byt (s ++ strOfNums [v % 256, v / 256]) (m + 1) = v / 256 := by rw [byt_cat, if_neg (by omega), hm, Nat.add_sub_cancel_left]; exact hb.2
  have hh := cut_head s (strOfNums [v % 256, v / 256])
  rw [hm] at hh
  have hP : putV s v = .tuple #[.string (s ++ strOfNums [v % 256, v / 256]), .int .i64 0] := by unfold putV; rw [if_neg (by omega), if_neg (by omega), if_neg (by omega)]
  refine ⟨s ++ strOfNums [v % 256, v / 256], hz, hP, ?_⟩
  generalize s ++ strOfNums [v % 256, v / 256] = t at hz b0 b1 hh
  have st : ∀ a : Nat, a ≤ m + 2 → stB t a = true := fun a ha => by unfold stB; exact decide_eq_true (by omega)
  have take_yes : ∀ a n : Nat, a + n ≤ m + 2 → takeV t a n = ((t, (a : Int) + n), t.extract a (a + n), 0) := fun a n h => by
    unfold takeV
    rw [if_neg (by rw [st a (by omega)]; simp), if_neg (by omega), if_neg (by omega)]
    congr 2
  have take_no : ∀ a n : Nat, a ≤ m + 2 → n ≤ 65536 → m + 2 < a + n → takeV t a n = ((t, (a : Int)), ByteArray.empty, 9) := fun a n h0 h1 h => by
    unfold takeV
    rw [if_neg (by rw [st a h0]; simp), if_neg (by omega), if_pos (by omega)]
  have e1 := take_yes 0 m (by omega)
  have e2 := take_yes m 2 (by omega)
  have e3 := take_no (m + 2) 1 (by omega) (by omega) (by omega)
  have e4 := take_yes m 1 (by omega)
  have e5 := take_yes (m + 1) 1 (by omega)
  have e6 := take_no (m + 1) 2 (by omega) (by omega) (by omega)
  simp only [Int.natCast_add, Int.cast_ofNat_Int, Nat.zero_add, Int.zero_add] at e1 e2 e3 e4 e5 e6
  refine ⟨?_, ?_, ?_, ?_, ?_, ?_⟩
  · show takeT (takeV t (0 : Int) m) = _
    rw [show takeV t (0 : Int) m = ((t, (m : Int)), t.extract 0 m, 0) from e1, hh]
    rfl
  · rw [e2]
    simp only [twV, if_true]
    rw [byt_cut t m (m + 2) 0 (by omega) (by omega), byt_cut t m (m + 2) 1 (by omega) (by omega), Nat.add_zero, b0, b1, show v % 256 + 256 * (v / 256) = v by omega]
  · rw [e3]
    rfl
  · rw [e4]
    simp only [tbV, if_true]
    rw [byt_cut t m (m + 1) 0 (by omega) (by omega), Nat.add_zero, b0]
  · rw [e5]
    simp only [tbV, if_true]
    rw [byt_cut t (m + 1) (m + 1 + 1) 0 (by omega) (by omega), Nat.add_zero, b1, show (m : Int) + 1 + 1 = m + 2 by omega]
  · rw [e6]
    rfl
end Go.Proofs.YtakdhmlegickmaaDoor

/- Plain facts: the sum of a block, read off its bytes. -/
namespace Go.Proofs.YtakdhmlegickmaaDoor
open Go.ChangeShapes Go.WideShapes Go.ChangeAt Go.RowKit
set_option linter.unusedVariables false
set_option linter.unusedSimpArgs false

/-- the exclusive or of two bytes, as numbers -/
theorem byt_nat (s : ByteArray) (k : Nat) : ∃ n : Nat, byt s k = n ∧ n < 256 := ⟨(byt s k).toNat, by have := byt_bd s k; omega, by have := byt_bd s k; omega⟩
theorem xor_two (a b : Nat) (ha : a < 256) (hb : b < 256) : bits .xor .i64 (a : Int) (b : Int) = ((Nat.xor a b : Nat) : Int) ∧ Nat.xor a b < 256 :=
  ⟨bXor a b (by omega) (by omega), Nat.xor_lt_two_pow (n := 8) (by omega) (by omega)⟩
theorem xor_zero_iff (a b : Nat) : Nat.xor a b = 0 ↔ a = b := by
  show (a ^^^ b) = 0 ↔ a = b
  constructor
  · intro h
    have h1 : a ^^^ (a ^^^ b) = a := by rw [h, Nat.xor_zero]
    rw [← Nat.xor_assoc, Nat.xor_self, Nat.zero_xor] at h1
    exact h1.symm
  · rintro rfl
    exact Nat.xor_self a
theorem xor_at {a : Int} {s : ByteArray} {k : Nat} (m : Nat) (hm : m < 256) (h : xorN s k = (m : Int)) : ∃ y : Nat, byt s k = y ∧ y < 256 ∧ xorN s (k + 1) = ((Nat.xor m y : Nat) : Int) := by
  obtain ⟨y, hy, hy2⟩ := byt_nat s k
  refine ⟨y, hy, hy2, ?_⟩
  show bits .xor .i64 (xorN s k) (byt s k) = _
  rw [h, hy]
  exact (xor_two m y hm hy2).1
theorem xor_assoc (a b c : Nat) : Nat.xor (Nat.xor a b) c = Nat.xor a (Nat.xor b c) := Nat.xor_assoc a b c
/-- the bytes behind the first one, xored onto it -/
theorem xor_tail (t u : ByteArray) (b0 : Nat) (hb : byt t 0 = b0) (hb2 : b0 < 256) : ∀ j, (∀ i, i < j → byt u i = byt t (1 + i)) → ∃ m : Nat, xorN u j = m ∧ m < 256 ∧ xorN t (1 + j) = ((Nat.xor b0 m : Nat) : Int) := by
  intro j
  induction j with
  | zero =>
    intro _
    refine ⟨0, rfl, by omega, ?_⟩
    show bits .xor .i64 0 (byt t 0) = _
    rw [hb]
    have := (xor_two 0 b0 (by omega) hb2).1
    rw [show ((0 : Nat) : Int) = 0 from rfl] at this
    rw [this, show Nat.xor 0 b0 = b0 from Nat.zero_xor b0, show Nat.xor b0 0 = b0 from Nat.xor_zero b0]
  | succ j ih =>
    intro h
    obtain ⟨m, h1, h2, h3⟩ := ih (fun i hi => h i (by omega))
    obtain ⟨y, hy, hy2⟩ := byt_nat u j
    have hk := h j (by omega)
    refine ⟨Nat.xor m y, ?_, (xor_two m y h2 hy2).2, ?_⟩
    · show bits .xor .i64 (xorN u j) (byt u j) = _
      rw [h1, hy]
      exact (xor_two m y h2 hy2).1
    · show bits .xor .i64 (xorN t (1 + j)) (byt t (1 + j)) = _
      rw [h3, ← hk, hy, (xor_two (Nat.xor b0 m) y (xor_two b0 m hb2 h2).2 hy2).1, xor_assoc]
/-- a block's bytes xored are nothing just where its sum is the last one -/
theorem xor_sum (t : ByteArray) (n : Nat) (hn : 1 ≤ n) (hs : t.size = n + 1) : xorN t t.size = 0 ↔ sumB (byt t 0) (t.extract 1 n) = byt t n := by
  obtain ⟨b0, h0, h02⟩ := byt_nat t 0
  have hsz : (t.extract 1 n).size = n - 1 := by rw [ByteArray.size_extract]; omega
  obtain ⟨m, h1, h2, h3⟩ := xor_tail t (t.extract 1 n) b0 h0 h02 (n - 1) (fun i hi => byt_cut t 1 n i (by omega) (by omega))
  obtain ⟨y, hy, hy2⟩ := byt_nat t n
  have e : 1 + (n - 1) = n := by omega
  rw [e] at h3
  have hx := xor_two b0 m h02 h2
  have hL : xorN t t.size = ((Nat.xor (Nat.xor b0 m) y : Nat) : Int) := by
    rw [hs]
    show bits .xor .i64 (xorN t n) (byt t n) = _
    rw [h3, hy]
    exact (xor_two _ y hx.2 hy2).1
  have hS : sumB (byt t 0) (t.extract 1 n) = ((Nat.xor b0 m : Nat) : Int) := by
    unfold sumB
    rw [hsz, h1, h0]
    exact hx.1
  rw [hL, hS, hy]
  constructor
  · intro h
    have := (xor_zero_iff (Nat.xor b0 m) y).1 (by omega)
    omega
  · intro h
    have := (xor_zero_iff (Nat.xor b0 m) y).2 (by omega)
    omega
end Go.Proofs.YtakdhmlegickmaaDoor
