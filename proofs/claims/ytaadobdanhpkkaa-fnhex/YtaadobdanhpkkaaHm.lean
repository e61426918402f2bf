/- Plain facts on digits and exclusive ors: bytes are read back from their digits; a text behind itself has the exclusive or 0. -/
import Derived.Test.YtaadobdanhpkkaaHx
import Derived.Test.YtaadobdanhpkkaaBy
import Derived.Test.YtaadobdanhpkkaaXo
import Derived.Test.YtaadobdanhpkkaaPa
namespace Go.Proofs.Ytaadobdanhpkkaa
open Go.ChangeShapes Go.WideShapes Go.ChangeAt Go.RowKit
set_option linter.unusedVariables false

theorem byt_strOf (xs : List Int) (h : ∀ x ∈ xs, 0 ≤ x ∧ x ≤ 255) (j : Nat) : byt (strOfNums xs) j = xs.getD j 0 := by
  unfold byt
  rw [strOfNums_data]
  rcases Nat.lt_or_ge j xs.length with hj | hj
  · have hx := h xs[j] (List.getElem_mem hj)
    simp [List.getD_eq_getElem?_getD, List.getElem?_eq_getElem hj, UInt8.toNat_ofNat']
    omega
  · simp [List.getD_eq_getElem?_getD, List.getElem?_eq_none hj]

theorem hxd_bd (d : Int) (h0 : 0 ≤ d) (h1 : d ≤ 15) : 0 ≤ hxd d ∧ hxd d ≤ 255 := by unfold hxd; split <;> omega
theorem dgv_hxd (d : Int) (h0 : 0 ≤ d) (h1 : d ≤ 15) : dgv (hxd d) = d := by
  unfold hxd dgv
  by_cases h : d < 10
  · rw [if_pos h, if_pos (by omega)]; omega
  · rw [if_neg h, if_neg (by omega), if_pos (by omega)]; omega

theorem hexN_bd (s : ByteArray) (k : Nat) : ∀ x ∈ hexN s k, 0 ≤ x ∧ x ≤ 255 := by
  induction k with
  | zero => simp [hexN]
  | succ k ih =>
    intro x hx
    have hb := byt_bd s k
    rcases List.mem_append.1 hx with hx | hx
    · exact ih x hx
    · simp at hx
      rcases hx with rfl | rfl
      · exact hxd_bd _ (by omega) (by omega)
      · exact hxd_bd _ (by omega) (by omega)
theorem hexN_at (s : ByteArray) (k j : Nat) (h : j < k) : (hexN s k).getD (2 * j) 0 = hxd (byt s j / 16) ∧ (hexN s k).getD (2 * j + 1) 0 = hxd (byt s j % 16) := by
  induction k with
  | zero => omega
  | succ k ih =>
    have hl := hexN_length s k
    by_cases e : j = k
    · subst e
      simp [hexN, List.getD_eq_getElem?_getD, hl]
    · have := ih (by omega)
      simp only [hexN, List.getD_eq_getElem?_getD] at this ⊢
      rw [List.getElem?_append_left (by omega), List.getElem?_append_left (by omega)]
      exact this

theorem strOf_bytN (xs : List Int) (hx : ∀ x ∈ xs, 0 ≤ x ∧ x ≤ 255) (H : ByteArray) (hH : ∀ j, j < xs.length → dgv (byt H (2 * j)) = xs.getD j 0 / 16 ∧ dgv (byt H (2 * j + 1)) = xs.getD j 0 % 16) :
    ∀ k, k ≤ xs.length → bytN H k = xs.take k := by
  intro k
  induction k with
  | zero => intro _; rfl
  | succ k ih =>
    intro hk
    have h := hH k (by omega)
    have e : xs.getD k 0 = xs[k] := by simp [List.getD_eq_getElem?_getD, List.getElem?_eq_getElem (show k < xs.length by omega)]
    rw [bytN, ih (by omega), h.1, h.2, List.take_succ_eq_append_getElem (by omega), e]
    congr 2
    omega

/-- bytes are read back from their digits -/
theorem bytes_back (xs : List Int) (hx : ∀ x ∈ xs, 0 ≤ x ∧ x ≤ 255) (hl : xs.length ≤ 32768) :
    bytesV (hexV (strOfNums xs)) = .tuple #[.string (strOfNums xs), .int .i64 0] ∧ (hexV (strOfNums xs)).size = 2 * (strOfNums xs).size := by
  have hs : (strOfNums xs).size = xs.length := strOfNums_size xs
  have e : hexV (strOfNums xs) = strOfNums (hexN (strOfNums xs) xs.length) := by unfold hexV; rw [if_neg (by omega), hs]
  have hz : (hexV (strOfNums xs)).size = 2 * xs.length := by rw [e, strOfNums_size, hexN_length]
  have hH : ∀ j, j < xs.length → dgv (byt (hexV (strOfNums xs)) (2 * j)) = xs.getD j 0 / 16 ∧ dgv (byt (hexV (strOfNums xs)) (2 * j + 1)) = xs.getD j 0 % 16 := by
    intro j hj
    have hb := byt_bd (strOfNums xs) j
    have h1 := hexN_at (strOfNums xs) xs.length j hj
    rw [e, byt_strOf _ (hexN_bd _ _), byt_strOf _ (hexN_bd _ _), h1.1, h1.2, dgv_hxd _ (by omega) (by omega), dgv_hxd _ (by omega) (by omega), byt_strOf xs hx]
    exact ⟨rfl, rfl⟩
  refine ⟨?_, by rw [hz, hs]⟩
  have hok : okP (hexV (strOfNums xs)) xs.length := by
    intro j hj
    have h := hH j hj
    have hb := byt_bd (strOfNums xs) j
    rw [byt_strOf xs hx] at hb
    rw [h.1, h.2]
    omega
  rw [← bytesV_at (by omega) hz hok, strOf_bytN xs hx _ hH xs.length (Nat.le_refl _), List.take_length]

theorem i64_xor (a b : Nat) (ha : a < 256) (hb : b < 256) : bits .xor .i64 (a : Int) (b : Int) = ((a ^^^ b : Nat) : Int) := by
  have hx : a ^^^ b < 2 ^ 8 := Nat.xor_lt_two_pow (by omega) (by omega)
  show IntKind.i64.wrap ((BitVec.ofInt 64 (a : Int) ^^^ BitVec.ofInt 64 (b : Int)).toNat : Int) = _
  rw [BitVec.toNat_xor, BitVec.toNat_ofInt, BitVec.toNat_ofInt, IntKind.wrap_i64]
  have e1 : ((a : Int) % ((2 ^ 64 : Nat) : Int)).toNat = a := by omega
  have e2 : ((b : Int) % ((2 ^ 64 : Nat) : Int)).toNat = b := by omega
  rw [e1, e2]
  omega

def xorF (f : Nat → Nat) : Nat → Nat
  | 0 => 0
  | k + 1 => xorF f k ^^^ f k
theorem xorF_lt (f : Nat → Nat) (hf : ∀ j, f j < 256) (k : Nat) : xorF f k < 256 := by
  induction k with
  | zero => simp [xorF]
  | succ k ih => exact Nat.xor_lt_two_pow (n := 8) ih (hf k)
theorem xorN_eq (s : ByteArray) (k : Nat) : xorN s k = (xorF (fun j => (byt s j).toNat) k : Nat) := by
  have hf : ∀ j, (fun j => (byt s j).toNat) j < 256 := by intro j; have := byt_bd s j; simp only; omega
  induction k with
  | zero => rfl
  | succ k ih =>
    have hb := byt_bd s k
    have e : byt s k = (((byt s k).toNat : Nat) : Int) := by omega
    rw [xorN, ih, e, i64_xor _ _ (xorF_lt _ hf k) (by omega)]
    simp [xorF]
theorem xorF_twice (f g : Nat → Nat) (m : Nat) (h1 : ∀ j, j < m → g j = f j) (h2 : ∀ j, j < m → g (m + j) = f j) : xorF g (m + m) = 0 := by
  have a : ∀ k, k ≤ m → xorF g k = xorF f k := by
    intro k
    induction k with
    | zero => intro _; rfl
    | succ k ih => intro hk; simp [xorF, ih (by omega), h1 k (by omega)]
  have b : ∀ k, k ≤ m → xorF g (m + k) = xorF f m ^^^ xorF f k := by
    intro k
    induction k with
    | zero => intro _; simp [xorF, a m (Nat.le_refl _)]
    | succ k ih => intro hk; rw [← Nat.add_assoc, xorF, ih (by omega), h2 k (by omega), xorF, Nat.xor_assoc]
  rw [b m (Nat.le_refl _), Nat.xor_self]
theorem byt_append (s t : ByteArray) (j : Nat) : byt (s ++ t) j = if j < s.size then byt s j else byt t (j - s.size) := by
  unfold byt
  have e : (s ++ t).data.toList = s.data.toList ++ t.data.toList := by simp [ByteArray.data_append]
  rw [e]
  have hz : s.data.toList.length = s.size := by simp
  by_cases h : j < s.size
  · rw [if_pos h]
    simp only [List.getD_eq_getElem?_getD]
    rw [List.getElem?_append_left (by omega)]
  · rw [if_neg h]
    simp only [List.getD_eq_getElem?_getD]
    rw [List.getElem?_append_right (by omega), hz]

/-- what is xored twice is nothing -/
theorem xor_twice (s : ByteArray) (h : s.size ≤ 32768) : xorV (s ++ s) = 0 := by
  have hz : (s ++ s).size = s.size + s.size := ByteArray.size_append
  unfold xorV
  rw [if_neg (by omega), hz, xorN_eq, xorF_twice (fun j => (byt s j).toNat) _ s.size]
  · rfl
  · intro j hj; rw [byt_append, if_pos hj]
  · intro j hj; rw [byt_append, if_neg (by omega)]; congr 2; omega

def bsum (v : Nat) : Nat → Nat
  | 0 => 0
  | j + 1 => bsum v j + v / 2 ^ j % 2
theorem bsum_succ (v j q : Nat) (h : q = bsum v j) : q + v / 2 ^ j % 2 = bsum v (j + 1) := by rw [h]; rfl
theorem par_bsum : ∀ v : Fin 256, parB (v.val : Int) = (((bsum v.val 8 : Nat) : Int) % 2 == 0) := by decide +kernel
end Go.Proofs.Ytaadobdanhpkkaa
