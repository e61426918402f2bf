/- Bits of a text, the pulses of blocks, and blocks heard off pulses: plain lists of numbers. -/
import Derived.Test.YtneagomkohoceabDoorL42
import Derived.Test.YtneagomkohoceabDoorUgl
namespace Go.Proofs.YtneagomkohoceabDoor
open Go.ChangeShapes Go.WideShapes Go.ChangeAt Go.RowKit
set_option linter.unusedVariables false
set_option linter.unusedSimpArgs false

def bitN (t : ByteArray) (j : Nat) : Nat := (byt t (j / 8)).toNat / 2 ^ (7 - j % 8) % 2
def bitL (t : ByteArray) (n : Nat) : List Int := (List.range n).map fun j => (bitN t j : Int)
theorem bitN_lt (t : ByteArray) (j : Nat) : bitN t j < 2 := Nat.mod_lt _ (by omega)
theorem bitL_snoc (t : ByteArray) (n : Nat) : bitL t (n + 1) = bitL t n ++ [(bitN t n : Int)] := by simp [bitL, List.range_succ]
theorem bitL_len (t : ByteArray) (n : Nat) : (bitL t n).length = n := by simp [bitL]
theorem bitL_at (t : ByteArray) (n j : Nat) (h : j < n) : (bitL t n).getD j 0 = (bitN t j : Int) := by
  simp [bitL, List.getD_eq_getElem?_getD, h]
theorem bit_walk (t : ByteArray) (i k : Nat) (hk : k < 8) : bits .and .i64 (byt t i / 2 ^ k) 1 = ((bitN t (8 * i + (7 - k)) : Nat) : Int) := by
  have hb := byt_bd t i
  unfold bitN
  have e1 : (8 * i + (7 - k)) / 8 = i := by omega
  have e2 : 7 - (8 * i + (7 - k)) % 8 = k := by omega
  rw [e1, e2]
  obtain ⟨n, hn⟩ : ∃ n : Nat, byt t i = n := ⟨(byt t i).toNat, by omega⟩
  rw [hn]
  have hs : ((n : Int) / 2 ^ k) = ((n / 2 ^ k : Nat) : Int) := by simp
  rw [hs]
  have hl : n / 2 ^ k < 65536 := Nat.lt_of_le_of_lt (Nat.div_le_self _ _) (by omega)
  have h3 : bits .and .i64 ((n / 2 ^ k : Nat) : Int) 1 = _ := bAnd (n / 2 ^ k) 1 hl (by omega)
  rw [h3, show Nat.land (n / 2 ^ k) 1 = n / 2 ^ k % 2 from Nat.and_one_is_mod _]
  rfl
def pulB (b : Int) : Int := 20 + 20 * b
def dbl (l : List Int) : List Int := l.flatMap fun b => [pulB b, pulB b]
theorem dbl_snoc (l : List Int) (b : Int) : dbl (l ++ [b]) = dbl l ++ [pulB b, pulB b] := by simp [dbl]
theorem dbl_len (l : List Int) : (dbl l).length = 2 * l.length := by
  induction l with
  | nil => rfl
  | cons a l ih =>
    show ([pulB a, pulB a] ++ dbl l).length = _
    rw [List.length_append, ih]
    simp
    omega
def pilN (F : Int) : Nat := if F < 128 then 16 else 8
def headL (F : Int) : List Int := List.replicate (pilN F) 48 ++ [12, 14]
theorem headL_len (F : Int) : (headL F).length = pilN F + 2 := by simp [headL]
theorem pilN_le (F : Int) : pilN F ≤ 16 := by unfold pilN; split <;> omega
def plsB (F : Int) (D : ByteArray) : List Int := headL F ++ dbl (bitL (bytB F D) (8 * (bytB F D).size))
theorem plsB_len (F : Int) (D : ByteArray) : (plsB F D).length = pilN F + 2 + 16 * (D.size + 2) := by
  unfold plsB
  rw [List.length_append, headL_len, dbl_len, bitL_len, bytB_size]
  omega
def pls2 (F : Int) (D : ByteArray) : List Int × Int := if okB F D = true then (plsB F D, 0) else ([], 1)
def tpN (l : List (Int × ByteArray)) : Nat → List Int
  | 0 => []
  | k + 1 => tpN l k ++ plsB (l.getD k bkz).1 (l.getD k bkz).2 ++ [200]
theorem tpN_len {l : List (Int × ByteArray)} (h : allL l = true) : ∀ k, k ≤ l.length → (tpN l k).length ≤ 691 * k := by
  intro k
  induction k with
  | zero => intro _; exact Nat.le_refl _
  | succ k ih =>
    intro hk
    have h1 := ih (by omega)
    have h2 := ((okB_iff _ _).1 (allL_at h (show k < l.length by omega))).2
    have h3 := pilN_le (l.getD k bkz).1
    show (tpN l k ++ plsB (l.getD k bkz).1 (l.getD k bkz).2 ++ [200]).length ≤ _
    rw [List.length_append, List.length_append, plsB_len]
    simp only [List.length_cons, List.length_nil]
    omega
def tp2 (l : List (Int × ByteArray)) : List Int × Int := if 4096 < l.length then ([], 2) else if allL l = true then (tpN l l.length, 0) else ([], 1)
def bits2 (t : ByteArray) : List Int × Int := if 65536 < t.size then ([], 2) else if 400 < t.size then ([], 8) else (bitL t (8 * t.size), 0)
/-- the number of the first k bits -/
def binN (P : List Int) : Nat → Int
  | 0 => 0
  | k + 1 => 2 * binN P k + P.getD k 0
def all01 (P : List Int) : Bool := P.all fun x => inB x 0 1
def byte2 (P : List Int) : Int × Int := if 4096 < P.length then (0, 2) else if P.length ≠ 8 then (0, 8) else if all01 P = true then (binN P 8, 0) else (0, 4)
def allP (P : List Int) : Bool := P.all fun x => inB x 1 1000
def sumN (P : List Int) : Nat → Int
  | 0 => 0
  | k + 1 => sumN P k + P.getD k 0
def len2 (P : List Int) : Int × Int := if 4096 < P.length then (0, 2) else if allP P = true then (sumN P P.length, 0) else (0, 4)
theorem getD_memI {P : List Int} {k : Nat} (h : k < P.length) : P.getD k 0 ∈ P := by
  rw [List.getD_eq_getElem?_getD, List.getElem?_eq_getElem h]
  exact List.getElem_mem h
theorem all_no {P : List Int} {a b : Int} {k : Nat} (hk : k < P.length) (h : inB (P.getD k 0) a b = false) : (P.all fun x => inB x a b) = false := by
  rw [List.all_eq_false]
  exact ⟨_, getD_memI hk, by show ¬ inB (P.getD k 0) a b = true; rw [h]; decide⟩
theorem all_yes {P : List Int} {a b : Int} (h : ∀ k, k < P.length → inB (P.getD k 0) a b = true) : (P.all fun x => inB x a b) = true := by
  rw [List.all_eq_true]
  intro x hx
  obtain ⟨k, hk, rfl⟩ := List.getElem_of_mem hx
  have := h k hk
  rw [List.getD_eq_getElem?_getD, List.getElem?_eq_getElem hk] at this
  exact this
theorem all_at {P : List Int} {a b : Int} (h : (P.all fun x => inB x a b) = true) {k : Nat} (hk : k < P.length) : a ≤ P.getD k 0 ∧ P.getD k 0 ≤ b := by
  have := (List.all_eq_true.1 h) _ (getD_memI hk)
  simpa [inB] using this
theorem binN_bd {P : List Int} (h : all01 P = true) : ∀ k, k ≤ P.length → 0 ≤ binN P k ∧ binN P k < 2 ^ k := by
  intro k
  induction k with
  | zero => intro _; exact ⟨Int.le_refl _, by show (0 : Int) < 2 ^ 0; decide⟩
  | succ k ih =>
    intro hk
    have h1 := ih (by omega)
    have h2 := all_at h (show k < P.length by omega)
    have e : binN P (k + 1) = 2 * binN P k + P.getD k 0 := rfl
    rw [e, Int.pow_succ]
    omega
theorem sumN_bd {P : List Int} (h : allP P = true) : ∀ k, k ≤ P.length → 0 ≤ sumN P k ∧ sumN P k ≤ 1000 * k := by
  intro k
  induction k with
  | zero => intro _; exact ⟨Int.le_refl _, by show (0 : Int) ≤ 1000 * 0; decide⟩
  | succ k ih =>
    intro hk
    have h1 := ih (by omega)
    have h2 := all_at h (show k < P.length by omega)
    have e : sumN P (k + 1) = sumN P k + P.getD k 0 := rfl
    rw [e]
    omega
/-- how many pulses of a pilot the list begins with -/
def pilC : List Int → Nat
  | [] => 0
  | x :: r => if 42 < x ∧ x < 200 then pilC r + 1 else 0
def hbit (a b : Int) : Nat := if 60 < a + b then 1 else 0
/-- bytes out of pairs: the bytes, the bits of a byte that is not whole, what is left -/
def hear : List Int → Nat → Nat → List Int → List Int × Nat × List Int
  | a :: b :: r, n, v, acc => if a < 200 then (if n = 7 then hear r 0 0 (acc ++ [((2 * v + hbit a b : Nat) : Int)]) else hear r (n + 1) (2 * v + hbit a b) acc) else (acc, n, a :: b :: r)
  | [], n, v, acc => (acc, n, [])
  | [a], n, v, acc => (acc, n, [a])
theorem hear_pair (a b : Int) (r : List Int) (n v : Nat) (acc : List Int) : hear (a :: b :: r) n v acc = if a < 200 then (if n = 7 then hear r 0 0 (acc ++ [((2 * v + hbit a b : Nat) : Int)]) else hear r (n + 1) (2 * v + hbit a b) acc) else (acc, n, a :: b :: r) := by rw [hear]
theorem hear_end (l : List Int) (n v : Nat) (acc : List Int) (h : l.length < 2 ∨ 200 ≤ l.getD 0 0) : hear l n v acc = (acc, n, l) := by
  match l, h with
  | [], _ => rw [hear]
  | [a], _ => rw [hear]
  | a :: b :: r, h =>
    have h2 : ¬ a < 200 := by
      rcases h with h | h
      · simp only [List.length_cons] at h
        omega
      · simpa using h
    rw [hear_pair, if_neg h2]
theorem drop_cons {P : List Int} {a : Nat} (h : a < P.length) : P.drop a = P.getD a 0 :: P.drop (a + 1) := by
  rw [List.getD_eq_getElem?_getD, List.getElem?_eq_getElem h]
  exact List.drop_eq_getElem_cons h
theorem pilC_le (P : List Int) : pilC P ≤ P.length := by
  induction P with
  | nil => exact Nat.le_refl _
  | cons x r ih =>
    unfold pilC
    split
    · exact Nat.succ_le_succ ih
    · exact Nat.zero_le _
theorem hear_len : ∀ (m : Nat) (l : List Int), l.length ≤ m → ∀ (n v : Nat) (acc : List Int), (hear l n v acc).2.2.length ≤ l.length ∧ (hear l n v acc).1.length ≤ acc.length + l.length := by
  intro m
  induction m with
  | zero =>
    intro l hl n v acc
    rw [hear_end l n v acc (.inl (by omega))]
    exact ⟨Nat.le_refl _, by simp⟩
  | succ m ih =>
    intro l hl n v acc
    match l, hl with
    | [], _ => rw [hear_end _ _ _ _ (.inl (by simp))]; exact ⟨Nat.le_refl _, by simp⟩
    | [a], _ => rw [hear_end _ _ _ _ (.inl (by simp))]; exact ⟨Nat.le_refl _, by simp⟩
    | a :: b :: r, hl =>
      rw [hear_pair]
      simp only [List.length_cons] at hl
      split
      · split
        · have := ih r (by omega) 0 0 (acc ++ [((2 * v + hbit a b : Nat) : Int)])
          simp only [List.length_cons, List.length_append, List.length_nil] at this ⊢
          omega
        · have := ih r (by omega) (n + 1) (2 * v + hbit a b) acc
          simp only [List.length_cons] at this ⊢
          omega
      · exact ⟨Nat.le_refl _, by simp⟩
/-- the block that pulses begin with, what is left, a code -/
def hbB (P : List Int) : ((Int × ByteArray) × List Int) × Int :=
  if pilC P < 8 then ((bkz, []), 15)
  else if P.length < pilC P + 2 ∨ 18 ≤ P.getD (pilC P) 0 ∨ 18 ≤ P.getD (pilC P + 1) 0 then ((bkz, []), 16)
  else if (hear (P.drop (pilC P + 2)) 0 0 []).2.1 ≠ 0 then ((bkz, []), 17)
  else (((ofB (strOfNums (hear (P.drop (pilC P + 2)) 0 0 []).1)).1, (hear (P.drop (pilC P + 2)) 0 0 []).2.2), (ofB (strOfNums (hear (P.drop (pilC P + 2)) 0 0 []).1)).2)
def decLV : Nat → List Int → List (Int × ByteArray) → List (Int × ByteArray) × Int
  | 0, _, acc => (acc, 0)
  | f + 1, P, acc => if 0 < P.length then (if (hbB P).2 ≠ 0 then ([], (hbB P).2) else if acc.length = 6 then ([], 6) else decLV f ((hbB P).1.2.drop 1) (acc ++ [(hbB P).1.1])) else (acc, 0)
def dec2V (P : List Int) : List (Int × ByteArray) × Int := if 4096 < P.length then ([], 2) else if allP P = true then decLV (P.length + 1) P [] else ([], 4)
theorem hbB_len {P : List Int} (h : (hbB P).2 = 0) : (hbB P).1.2.length + 10 ≤ P.length := by
  unfold hbB at h ⊢
  split at h
  · cases h
  · rename_i h0
    rw [if_neg h0]
    split at h
    · cases h
    · rename_i h1
      rw [if_neg h1]
      split at h
      · cases h
      · rename_i h2
        rw [if_neg h2]
        have := (hear_len _ (P.drop (pilC P + 2)) (Nat.le_refl _) 0 0 []).1
        rw [List.length_drop] at this
        show (hear (P.drop (pilC P + 2)) 0 0 []).2.2.length + 10 ≤ _
        omega
end Go.Proofs.YtneagomkohoceabDoor
