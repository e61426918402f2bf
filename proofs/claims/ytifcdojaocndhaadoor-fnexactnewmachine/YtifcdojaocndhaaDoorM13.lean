/- Bits of a text, the pulses of blocks, and blocks heard off pulses: plain lists of numbers. -/
import Derived.Test.YtifcdojaocndhaaDoorM12
namespace Go.Proofs.YtifcdojaocndhaaDoor
open Go.ChangeShapes Go.WideShapes Go.ChangeAt Go.RowKit
set_option linter.unusedVariables false
set_option linter.unusedSimpArgs false

def bitN (t : ByteArray) (j : Nat) : Nat := (byt t (j / 8)).toNat / 2 ^ (7 - j % 8) % 2
def bitL (t : ByteArray) (n : Nat) : List Int := (List.range n).map fun j => (bitN t j : Int)
theorem bitN_lt (t : ByteArray) (j : Nat) : bitN t j < 2 := Nat.mod_lt _ (by omega)
theorem bitL_snoc (t : ByteArray) (n : Nat) : bitL t (n + 1) = bitL t n ++ [(bitN t n : Int)] := by simp [bitL, List.range_succ]
theorem bitL_len (t : ByteArray) (n : Nat) : (bitL t n).length = n := by simp [bitL]
theorem bitL_at (t : ByteArray) (n j : Nat) (h : j < n) : (bitL t n).getD j 0 = (bitN t j : Int) := by
  simp [bitL, List.getD_eq_getElem?_getD, h]
theorem bit_walk (t : ByteArray) (i k : Nat) (hk : k < 8) : bits .and .i64 (byt t i / 2 ^ k) 1 = ((bitN t (8 * i + (7 - k)) : Nat) : Int) := by
  have hb := byt_bd t i
  unfold bitN
  have e1 : (8 * i + (7 - k)) / 8 = i := by omega
  have e2 : 7 - (8 * i + (7 - k)) % 8 = k := by omega
  rw [e1, e2]
  obtain ⟨n, hn⟩ : ∃ n : Nat, byt t i = n := ⟨(byt t i).toNat, by omega⟩
  rw [hn]
  have hs : ((n : Int) / 2 ^ k) = ((n / 2 ^ k : Nat) : Int) := by simp
  rw [hs]
  have hl : n / 2 ^ k < 65536 := Nat.lt_of_le_of_lt (Nat.div_le_self _ _) (by omega)
  have h3 : bits .and .i64 ((n / 2 ^ k : Nat) : Int) 1 = _ := bAnd (n / 2 ^ k) 1 hl (by omega)
  rw [h3, show Nat.land (n / 2 ^ k) 1 = n / 2 ^ k % 2 from Nat.and_one_is_mod _]
  rfl
def pulB (b : Int) : Int := 20 + 20 * b
def dbl (l : List Int) : List Int := l.flatMap fun b => [pulB b, pulB b]
theorem dbl_snoc (l : List Int) (b : Int) : dbl (l ++ [b]) = dbl l ++ [pulB b, pulB b] := by simp [dbl]
theorem dbl_len (l : List Int) : (dbl l).length = 2 * l.length := by
  induction l with
  | nil => rfl
  | cons a l ih =>
    show ([pulB a, pulB a] ++ dbl l).length = _
    rw [List.length_append, ih]
    simp
    omega
def pilN (F : Int) : Nat := if F < 128 then 16 else 8
def headL (F : Int) : List Int := List.replicate (pilN F) 48 ++ [12, 14]
theorem headL_len (F : Int) : (headL F).length = pilN F + 2 := by simp [headL]
theorem pilN_le (F : Int) : pilN F ≤ 16 := by unfold pilN; split <;> omega
def plsB (F : Int) (D : ByteArray) : List Int := headL F ++ dbl (bitL (bytB F D) (8 * (bytB F D).size))
theorem plsB_len (F : Int) (D : ByteArray) : (plsB F D).length = pilN F + 2 + 16 * (D.size + 2) := by
  unfold plsB
  rw [List.length_append, headL_len, dbl_len, bitL_len, bytB_size]
  omega
def pls2 (F : Int) (D : ByteArray) : List Int × Int := if okB F D = true then (plsB F D, 0) else ([], 1)
def tpN (l : List (Int × ByteArray)) : Nat → List Int
  | 0 => []
  | k + 1 => tpN l k ++ plsB (l.getD k bkz).1 (l.getD k bkz).2 ++ [200]
theorem tpN_len {l : List (Int × ByteArray)} (h : allL l = true) : ∀ k, k ≤ l.length → (tpN l k).length ≤ 691 * k := by
  intro k
  induction k with
  | zero => intro _; exact Nat.le_refl _
  | succ k ih =>
    intro hk
    have h1 := ih (by omega)
    have h2 := ((okB_iff _ _).1 (allL_at h (show k < l.length by omega))).2
    have h3 := pilN_le (l.getD k bkz).1
    show (tpN l k ++ plsB (l.getD k bkz).1 (l.getD k bkz).2 ++ [200]).length ≤ _
    rw [List.length_append, List.length_append, plsB_len]
    simp only [List.length_cons, List.length_nil]
    omega
def tp2 (l : List (Int × ByteArray)) : List Int × Int := if 4096 < l.length then ([], 2) else if allL l = true then (tpN l l.length, 0) else ([], 1)
def bits2 (t : ByteArray) : List Int × Int := if 65536 < t.size then ([], 2) else if 400 < t.size then ([], 8) else (bitL t (8 * t.size), 0)
/-- the number of the first k bits -/
def binN (P : List Int) : Nat → Int
  | 0 => 0
  | k + 1 => 2 * binN P k + P.getD k 0
def all01 (P : List Int) : Bool := P.all fun x => inB x 0 1
def byte2 (P : List Int) : Int × Int := if 4096 < P.length then (0, 2) else if P.length ≠ 8 then (0, 8) else if all01 P = true then (binN P 8, 0) else (0, 4)
def allP (P : List Int) : Bool := P.all fun x => inB x 1 1000
def sumN (P : List Int) : Nat → Int
  | 0 => 0
  | k + 1 => sumN P k + P.getD k 0
def len2 (P : List Int) : Int × Int := if 4096 < P.length then (0, 2) else if allP P = true then (sumN P P.length, 0) else (0, 4)
theorem getD_memI {P : List Int} {k : Nat} (h : k < P.length) : P.getD k 0 ∈ P := by
  rw [List.getD_eq_getElem?_getD, List.getElem?_eq_getElem h]
  exact List.getElem_mem h
theorem all_no {P : List Int} {a b : Int} {k : Nat} (hk : k < P.length) (h : inB (P.getD k 0) a b = false) : (P.all fun x => inB x a b) = false := by
  rw [List.all_eq_false]
  exact ⟨_, getD_memI hk, by show ¬ inB (P.getD k 0) a b = true; rw [h]; decide⟩
theorem all_yes {P : List Int} {a b : Int} (h : ∀ k, k < P.length → inB (P.getD k 0) a b = true) : (P.all fun x => inB x a b) = true := by
  rw [List.all_eq_true]
  intro x hx
  obtain ⟨k, hk, rfl⟩ := List.getElem_of_mem hx
  have := h k hk
  rw [List.getD_eq_getElem?_getD, List.getElem?_eq_getElem hk] at this
  exact this
theorem all_at {P : List Int} {a b : Int} (h : (P.all fun x => inB x a b) = true) {k : Nat} (hk : k < P.length) : a ≤ P.getD k 0 ∧ P.getD k 0 ≤ b := by
  have := (List.all_eq_true.1 h) _ (getD_memI hk)
  simpa [inB] using this
theorem binN_bd {P : List Int} (h : all01 P = true) : ∀ k, k ≤ P.length → 0 ≤ binN P k ∧ binN P k < 2 ^ k := by
  intro k
  induction k with
  | zero => intro _; exact ⟨Int.le_refl _, by show (0 : Int) < 2 ^ 0; decide⟩
  | succ k ih =>
    intro hk
    have h1 := ih (by omega)
    have h2 := all_at h (show k < P.length by omega)
    have e : binN P (k + 1) = 2 * binN P k + P.getD k 0 := rfl
    rw [e, Int.pow_succ]
    omega
theorem sumN_bd {P : List Int} (h : allP P = true) : ∀ k, k ≤ P.length → 0 ≤ sumN P k ∧ sumN P k ≤ 1000 * k := by
  intro k
  induction k with
  | zero => intro _; exact ⟨Int.le_refl _, by show (0 : Int) ≤ 1000 * 0; decide⟩
  | succ k ih =>
    intro hk
    have h1 := ih (by omega)
    have h2 := all_at h (show k < P.length by omega)
    have e : sumN P (k + 1) = sumN P k + P.getD k 0 := rfl
    rw [e]
    omega
/-- how many pulses of a pilot the list begins with -/
def pilC : List Int → Nat
  | [] => 0
  | x :: r => if 42 < x ∧ x < 200 then pilC r + 1 else 0
def hbit (a b : Int) : Nat := if 60 < a + b then 1 else 0
/-- bytes out of pairs: the bytes, the bits of a byte that is not whole, what is left -/
def hear : List Int → Nat → Nat → List Int → List Int × Nat × List Int
  | a :: b :: r, n, v, acc => if a < 200 then (if n = 7 then hear r 0 0 (acc ++ [((2 * v + hbit a b : Nat) : Int)]) else hear r (n + 1) (2 * v + hbit a b) acc) else (acc, n, a :: b :: r)
  | [], n, v, acc => (acc, n, [])
  | [a], n, v, acc => (acc, n, [a])
theorem hear_pair (a b : Int) (r : List Int) (n v : Nat) (acc : List Int) : hear (a :: b :: r) n v acc = if a < 200 then (if n = 7 then hear r 0 0 (acc ++ [((2 * v + hbit a b : Nat) : Int)]) else hear r (n + 1) (2 * v + hbit a b) acc) else (acc, n, a :: b :: r) := by rw [hear]
theorem hear_end (l : List Int) (n v : Nat) (acc : List Int) (h : l.length < 2 ∨ 200 ≤ l.getD 0 0) : hear l n v acc = (acc, n, l) := by
  match l, h with
  | [], _ => rw [hear]
  | [a], _ => rw [hear]
  | a :: b :: r, h =>
    have h2 : ¬ a < 200 := by
      rcases h with h | h
      · simp only [List.length_cons] at h
        omega
      · simpa using h
    rw [hear_pair, if_neg h2]
theorem drop_cons {P : List Int} {a : Nat} (h : a < P.length) : P.drop a = P.getD a 0 :: P.drop (a + 1) := by
  rw [List.getD_eq_getElem?_getD, List.getElem?_eq_getElem h]
  exact List.drop_eq_getElem_cons h
theorem pilC_le (P : List Int) : pilC P ≤ P.length := by
  induction P with
  | nil => exact Nat.le_refl _
  | cons x r ih =>
    unfold pilC
    split
    · exact Nat.succ_le_succ ih
    · exact Nat.zero_le _
theorem hear_len : ∀ (m : Nat) (l : List Int), l.length ≤ m → ∀ (n v : Nat) (acc : List Int), (hear l n v acc).2.2.length ≤ l.length ∧ (hear l n v acc).1.length ≤ acc.length + l.length := by
  intro m
  induction m with
  | zero =>
    intro l hl n v acc
    rw [hear_end l n v acc (.inl (by omega))]
    exact ⟨Nat.le_refl _, by simp⟩
  | succ m ih =>
    intro l hl n v acc
    match l, hl with
    | [], _ => rw [hear_end _ _ _ _ (.inl (by simp))]; exact ⟨Nat.le_refl _, by simp⟩
    | [a], _ => rw [hear_end _ _ _ _ (.inl (by simp))]; exact ⟨Nat.le_refl _, by simp⟩
    | a :: b :: r, hl =>
      rw [hear_pair]
      simp only [List.length_cons] at hl
      split
      · split
        · have := ih r (by omega) 0 0 (acc ++ [((2 * v + hbit a b : Nat) : Int)])
          simp only [List.length_cons, List.length_append, List.length_nil] at this ⊢
          omega
        · have := ih r (by omega) (n + 1) (2 * v + hbit a b) acc
          simp only [List.length_cons] at this ⊢
          omega
      · exact ⟨Nat.le_refl _, by simp⟩
/-- the block that pulses begin with, what is left, a code -/
def hbB (P : List Int) : ((Int × ByteArray) × List Int) × Int :=
  if pilC P < 8 then ((bkz, []), 15)
  else if P.length < pilC P + 2 ∨ 18 ≤ P.getD (pilC P) 0 ∨ 18 ≤ P.getD (pilC P + 1) 0 then ((bkz, []), 16)
  else if (hear (P.drop (pilC P + 2)) 0 0 []).2.1 ≠ 0 then ((bkz, []), 17)
  else (((ofB (strOfNums (hear (P.drop (pilC P + 2)) 0 0 []).1)).1, (hear (P.drop (pilC P + 2)) 0 0 []).2.2), (ofB (strOfNums (hear (P.drop (pilC P + 2)) 0 0 []).1)).2)
def decLV : Nat → List Int → List (Int × ByteArray) → List (Int × ByteArray) × Int
  | 0, _, acc => (acc, 0)
  | f + 1, P, acc => if 0 < P.length then (if (hbB P).2 ≠ 0 then ([], (hbB P).2) else if acc.length = 6 then ([], 6) else decLV f ((hbB P).1.2.drop 1) (acc ++ [(hbB P).1.1])) else (acc, 0)
def dec2V (P : List Int) : List (Int × ByteArray) × Int := if 4096 < P.length then ([], 2) else if allP P = true then decLV (P.length + 1) P [] else ([], 4)
theorem hbB_len {P : List Int} (h : (hbB P).2 = 0) : (hbB P).1.2.length + 10 ≤ P.length := by
  unfold hbB at h ⊢
  split at h
  · cases h
  · rename_i h0
    rw [if_neg h0]
    split at h
    · cases h
    · rename_i h1
      rw [if_neg h1]
      split at h
      · cases h
      · rename_i h2
        rw [if_neg h2]
        have := (hear_len _ (P.drop (pilC P + 2)) (Nat.le_refl _) 0 0 []).1
        rw [List.length_drop] at this
        show (hear (P.drop (pilC P + 2)) 0 0 []).2.2.length + 10 ≤ _
        omega
end Go.Proofs.YtifcdojaocndhaaDoor

/- Decks as plain numbers: right ones, and how they run. -/
namespace Go.Proofs.YtifcdojaocndhaaDoor
open Go.ChangeShapes Go.WideShapes Go.ChangeAt Go.RowKit
set_option linter.unusedVariables false
set_option linter.unusedSimpArgs false

structure Dk where
  pulses : List Int
  index : Int
  left : Int
  level : Bool
  plays : Bool
def dk0 : Dk := ⟨[], 0, 0, false, false⟩
def Dk.len (d : Dk) : Int := (d.pulses.length : Int)
def Dk.pulse (d : Dk) (i : Int) : Int := d.pulses.getD i.toNat 0
/-- at a pulse's beginning, or at the end -/
def Dk.goto (d : Dk) (i : Int) : Dk := ⟨d.pulses, i, if i < d.len then d.pulse i else 0, d.level, d.plays⟩
def okPl (P : List Int) : Bool := allP P && decide (P.length ≤ 5000)
def Dk.ok (d : Dk) : Bool := okPl d.pulses && inB d.index 0 d.len && (if d.index = d.len then decide (d.left = 0) && !d.plays else inB d.left 1 (d.pulse d.index))
/-- behind a pulse -/
def Dk.edge (d : Dk) : Dk := ⟨d.pulses, d.index + 1, (d.goto (d.index + 1)).left, !d.level, decide (d.index + 1 < d.len)⟩
def runD : Nat → Dk → Int → Int → Dk × Int
  | 0, d, _, e => (d, e)
  | f + 1, d, t, e => if d.plays = true ∧ 0 < t then (if t < d.left then (⟨d.pulses, d.index, d.left - t, d.level, d.plays⟩, e) else runD f d.edge (t - d.left) (e + 1)) else (d, e)
def run2 (d : Dk) (t : Int) : Dk × Int := runD (d.pulses.length + 1) d t 0
def new2 (l : List (Int × ByteArray)) : Dk × Int := if (tp2 l).2 = 0 then (Dk.goto ⟨(tp2 l).1, 0, 0, false, false⟩ 0, 0) else (dk0, (tp2 l).2)
def play2 (d : Dk) : Dk × Int := if d.ok = true then (if d.index = d.len then (d, 9) else (⟨d.pulses, d.index, d.left, d.level, true⟩, 0)) else (dk0, 1)
def stop2 (d : Dk) : Dk × Int := if d.ok = true then (if d.plays = true then (⟨d.pulses, d.index, d.left, d.level, false⟩, 0) else (d, 13)) else (dk0, 1)
def rew2 (d : Dk) : Dk × Int := if d.ok = true then (Dk.goto ⟨d.pulses, 0, 0, false, false⟩ 0, 0) else (dk0, 1)
def runV (d : Dk) (t : Int) : (Dk × Int) × Int := if d.ok = true then (if inB t 0 100000 = true then (run2 d t, 0) else ((dk0, 0), 4)) else ((dk0, 0), 1)
def Dk.same (a b : Dk) : Bool := a.ok && b.ok && decide (a.pulses = b.pulses) && decide (a.index = b.index) && decide (a.left = b.left) && (a.level == b.level) && (a.plays == b.plays)
theorem okPl_iff (P : List Int) : okPl P = true ↔ (∀ k, k < P.length → 1 ≤ P.getD k 0 ∧ P.getD k 0 ≤ 1000) ∧ P.length ≤ 5000 := by
  unfold okPl
  rw [Bool.and_eq_true, decide_eq_true_eq]
  constructor
  · rintro ⟨h, hl⟩
    exact ⟨fun k hk => all_at h hk, hl⟩
  · rintro ⟨h, hl⟩
    exact ⟨all_yes (fun k hk => in_yes (h k hk).1 (h k hk).2), hl⟩
theorem Dk.ok_iff (d : Dk) : d.ok = true ↔ okPl d.pulses = true ∧ (0 ≤ d.index ∧ d.index ≤ d.len) ∧ ((d.index = d.len ∧ d.left = 0 ∧ d.plays = false) ∨ (d.index ≠ d.len ∧ 1 ≤ d.left ∧ d.left ≤ d.pulse d.index)) := by
  unfold Dk.ok inB
  rw [Bool.and_eq_true, Bool.and_eq_true, decide_eq_true_eq]
  by_cases h : d.index = d.len
  · rw [if_pos h, Bool.and_eq_true, decide_eq_true_eq, Bool.not_eq_true']
    constructor
    · rintro ⟨⟨h1, h2⟩, h3, h4⟩
      exact ⟨h1, h2, .inl ⟨h, h3, h4⟩⟩
    · rintro ⟨h1, h2, ⟨_, h3, h4⟩ | ⟨h3, _⟩⟩
      · exact ⟨⟨h1, h2⟩, h3, h4⟩
      · exact absurd h h3
  · rw [if_neg h, decide_eq_true_eq]
    constructor
    · rintro ⟨⟨h1, h2⟩, h3⟩
      exact ⟨h1, h2, .inr ⟨h, h3⟩⟩
    · rintro ⟨h1, h2, ⟨h3, _⟩ | ⟨_, h3⟩⟩
      · exact absurd h3 h
      · exact ⟨⟨h1, h2⟩, h3⟩
theorem Dk.pulse_bd {d : Dk} (h : okPl d.pulses = true) {i : Int} (h0 : 0 ≤ i) (h1 : i < d.len) : 1 ≤ d.pulse i ∧ d.pulse i ≤ 1000 := by
  unfold Dk.len at h1
  exact ((okPl_iff _).1 h).1 i.toNat (by omega)
theorem Dk.edge_ok {d : Dk} (h : d.ok = true) (hp : d.plays = true) : d.edge.ok = true ∧ d.edge.pulses = d.pulses ∧ d.edge.index = d.index + 1 ∧ d.index < d.len ∧ 1 ≤ d.left := by
  obtain ⟨h1, h2, h3⟩ := (Dk.ok_iff d).1 h
  rcases h3 with ⟨_, _, h3⟩ | ⟨hne, hl, hr⟩
  · rw [hp] at h3
    cases h3
  · have hlt : d.index < d.len := by omega
    refine ⟨(Dk.ok_iff _).2 ⟨h1, ⟨by show 0 ≤ d.index + 1; omega, by show d.index + 1 ≤ d.len; omega⟩, ?_⟩, rfl, rfl, hlt, hl⟩
    by_cases he : d.index + 1 = d.len
    · refine .inl ⟨he, ?_, ?_⟩
      · show (if d.index + 1 < d.len then d.pulse (d.index + 1) else 0) = 0
        rw [if_neg (by omega)]
      · show decide (d.index + 1 < d.len) = false
        exact decide_eq_false (by omega)
    · have hlt2 : d.index + 1 < d.len := by omega
      have hb := Dk.pulse_bd h1 (show 0 ≤ d.index + 1 by omega) hlt2
      refine .inr ⟨he, ?_, ?_⟩
      · show 1 ≤ (if d.index + 1 < d.len then d.pulse (d.index + 1) else 0)
        rw [if_pos hlt2]
        exact hb.1
      · show (if d.index + 1 < d.len then d.pulse (d.index + 1) else 0) ≤ d.pulse (d.index + 1)
        rw [if_pos hlt2]
        exact Int.le_refl _
/-- enough rounds are enough -/
theorem runD_more : ∀ (f g : Nat) (d : Dk) (t e : Int), d.ok = true → d.len - d.index < f → d.len - d.index < g → runD f d t e = runD g d t e := by
  intro f
  induction f with
  | zero =>
    intro g d t e h hf hg
    have := ((Dk.ok_iff d).1 h).2.1
    omega
  | succ f ih =>
    intro g d t e h hf hg
    obtain ⟨g, rfl⟩ : ∃ g', g = g' + 1 := ⟨g - 1, by have := ((Dk.ok_iff d).1 h).2.1; omega⟩
    unfold runD
    by_cases hp : d.plays = true ∧ 0 < t
    · rw [if_pos hp, if_pos hp]
      by_cases hl : t < d.left
      · rw [if_pos hl, if_pos hl]
      · rw [if_neg hl, if_neg hl]
        obtain ⟨k1, k2, k3, k4, _⟩ := Dk.edge_ok h hp.1
        have e1 : d.edge.len = d.len := by unfold Dk.len; rw [k2]
        exact ih g d.edge _ _ k1 (by rw [e1, k3]; omega) (by rw [e1, k3]; omega)
    · rw [if_neg hp, if_neg hp]
/-- what is counted goes along -/
theorem runD_count : ∀ (f : Nat) (d : Dk) (t e : Int), runD f d t e = ((runD f d t 0).1, (runD f d t 0).2 + e) := by
  intro f
  induction f with
  | zero => intro d t e; show (d, e) = (d, 0 + e); rw [Int.zero_add]
  | succ f ih =>
    intro d t e
    unfold runD
    by_cases hp : d.plays = true ∧ 0 < t
    · rw [if_pos hp, if_pos hp]
      by_cases hl : t < d.left
      · rw [if_pos hl, if_pos hl, Int.zero_add]
      · rw [if_neg hl, if_neg hl, ih _ _ (e + 1), ih _ _ (0 + 1)]
        show (_, _) = (_, _)
        congr 1
        show (runD f d.edge (t - d.left) 0).2 + (e + 1) = (runD f d.edge (t - d.left) 0).2 + (0 + 1) + e
        omega
    · rw [if_neg hp, if_neg hp, Int.zero_add]
/-- a run keeps what is right -/
theorem runD_ok : ∀ (f : Nat) (d : Dk) (t e : Int), d.ok = true → (runD f d t e).1.ok = true ∧ (runD f d t e).1.pulses = d.pulses ∧ d.index ≤ (runD f d t e).1.index := by
  intro f
  induction f with
  | zero => intro d t e h; exact ⟨h, rfl, Int.le_refl _⟩
  | succ f ih =>
    intro d t e h
    unfold runD
    by_cases hp : d.plays = true ∧ 0 < t
    · rw [if_pos hp]
      obtain ⟨k1, k2, k3, k4, k5⟩ := Dk.edge_ok h hp.1
      by_cases hl : t < d.left
      · rw [if_pos hl]
        refine ⟨?_, rfl, Int.le_refl _⟩
        obtain ⟨h1, h2, h3⟩ := (Dk.ok_iff d).1 h
        rcases h3 with ⟨h4, _, _⟩ | ⟨hne, hl1, hr⟩
        · omega
        · exact (Dk.ok_iff _).2 ⟨h1, h2, .inr ⟨hne, by show 1 ≤ d.left - t; omega, by show d.left - t ≤ d.pulse d.index; omega⟩⟩
      · rw [if_neg hl]
        obtain ⟨j1, j2, j3⟩ := ih d.edge (t - d.left) (e + 1) k1
        exact ⟨j1, j2.trans k2, by rw [k3] at j3; omega⟩
    · rw [if_neg hp]
      exact ⟨h, rfl, Int.le_refl _⟩
/-- a tape that is run in two parts is as one that is run at once -/
theorem runD_two : ∀ (f : Nat) (d : Dk) (n k : Int), d.ok = true → d.len - d.index < f → 0 ≤ n → 0 ≤ k → runD f d (n + k) 0 = ((runD f (runD f d n 0).1 k 0).1, (runD f d n 0).2 + (runD f (runD f d n 0).1 k 0).2) := by
  intro f
  induction f with
  | zero =>
    intro d n k h hf _ _
    have := ((Dk.ok_iff d).1 h).2.1
    omega
  | succ f ih =>
    intro d n k h hf hn hk
    have hix := ((Dk.ok_iff d).1 h).2.1
    have e1 : ∀ t, runD (f + 1) d t 0 = if d.plays = true ∧ 0 < t then (if t < d.left then (⟨d.pulses, d.index, d.left - t, d.level, d.plays⟩, 0) else runD f d.edge (t - d.left) (0 + 1)) else (d, 0) := fun _ => rfl
    by_cases hp : d.plays = true
    · obtain ⟨k1, k2, k3, k4, k5⟩ := Dk.edge_ok h hp
      have el : d.edge.len = d.len := by unfold Dk.len; rw [k2]
      by_cases hn0 : 0 < n
      · by_cases hl : n < d.left
        · have ea : runD (f + 1) d n 0 = (⟨d.pulses, d.index, d.left - n, d.level, d.plays⟩, 0) := by rw [e1, if_pos ⟨hp, hn0⟩, if_pos hl]
          have e2 : runD (f + 1) ⟨d.pulses, d.index, d.left - n, d.level, d.plays⟩ k 0 = if d.plays = true ∧ 0 < k then (if k < d.left - n then (⟨d.pulses, d.index, d.left - n - k, d.level, d.plays⟩, 0) else runD f d.edge (k - (d.left - n)) (0 + 1)) else (⟨d.pulses, d.index, d.left - n, d.level, d.plays⟩, 0) := rfl
          have key : runD (f + 1) d (n + k) 0 = runD (f + 1) ⟨d.pulses, d.index, d.left - n, d.level, d.plays⟩ k 0 := by
            by_cases hk0 : 0 < k
            · by_cases hk1 : k < d.left - n
              · have l1 : runD (f + 1) d (n + k) 0 = (⟨d.pulses, d.index, d.left - (n + k), d.level, d.plays⟩, 0) := by rw [e1, if_pos ⟨hp, by omega⟩, if_pos (by omega)]
                have l2 : runD (f + 1) ⟨d.pulses, d.index, d.left - n, d.level, d.plays⟩ k 0 = (⟨d.pulses, d.index, d.left - n - k, d.level, d.plays⟩, 0) := by rw [e2, if_pos ⟨hp, hk0⟩, if_pos hk1]
                have : d.left - (n + k) = d.left - n - k := by omega
                rw [l1, l2, this]
              · have l1 : runD (f + 1) d (n + k) 0 = runD f d.edge (n + k - d.left) (0 + 1) := by rw [e1, if_pos ⟨hp, by omega⟩, if_neg (by omega)]
                have l2 : runD (f + 1) ⟨d.pulses, d.index, d.left - n, d.level, d.plays⟩ k 0 = runD f d.edge (k - (d.left - n)) (0 + 1) := by rw [e2, if_pos ⟨hp, hk0⟩, if_neg hk1]
                have : n + k - d.left = k - (d.left - n) := by omega
                rw [l1, l2, this]
            · have hk2 : k = 0 := by omega
              subst hk2
              have l2 : runD (f + 1) ⟨d.pulses, d.index, d.left - n, d.level, d.plays⟩ 0 0 = (⟨d.pulses, d.index, d.left - n, d.level, d.plays⟩, 0) := by rw [e2, if_neg (by omega)]
              rw [Int.add_zero, ea, l2]
          rw [key, ea]
          show _ = ((runD (f + 1) ⟨d.pulses, d.index, d.left - n, d.level, d.plays⟩ k 0).1, 0 + (runD (f + 1) ⟨d.pulses, d.index, d.left - n, d.level, d.plays⟩ k 0).2)
          rw [Int.zero_add]
        · have ea : runD (f + 1) d n 0 = runD f d.edge (n - d.left) (0 + 1) := by rw [e1, if_pos ⟨hp, hn0⟩, if_neg hl]
          have eb : runD (f + 1) d (n + k) 0 = runD f d.edge ((n - d.left) + k) (0 + 1) := by
            rw [e1, if_pos ⟨hp, by omega⟩, if_neg (by omega)]
            have : n + k - d.left = n - d.left + k := by omega
            rw [this]
          rw [ea, eb, runD_count f d.edge (n - d.left) (0 + 1), runD_count f d.edge (n - d.left + k) (0 + 1)]
          have hi := ih d.edge (n - d.left) k k1 (by rw [el, k3]; omega) (by omega) hk
          obtain ⟨r1, r2, r3⟩ := runD_ok f d.edge (n - d.left) 0 k1
          have el2 : (runD f d.edge (n - d.left) 0).1.len = d.len := by unfold Dk.len; rw [r2, k2]
          have hm := runD_more (f + 1) f (runD f d.edge (n - d.left) 0).1 k 0 r1 (by rw [el2]; rw [k3] at r3; omega) (by rw [el2]; rw [k3] at r3; omega)
          rw [hi]
          show (_, _) = ((runD (f + 1) (runD f d.edge (n - d.left) 0).1 k 0).1, (runD f d.edge (n - d.left) 0).2 + (0 + 1) + (runD (f + 1) (runD f d.edge (n - d.left) 0).1 k 0).2)
          rw [hm]
          congr 1
          show (runD f d.edge (n - d.left) 0).2 + (runD f (runD f d.edge (n - d.left) 0).1 k 0).2 + (0 + 1) = _
          omega
      · have hn2 : n = 0 := by omega
        subst hn2
        have ea : runD (f + 1) d 0 0 = (d, 0) := by rw [e1, if_neg (by omega)]
        rw [ea]
        show _ = ((runD (f + 1) d k 0).1, 0 + (runD (f + 1) d k 0).2)
        rw [Int.zero_add, Int.zero_add]
    · have ea : ∀ t, runD (f + 1) d t 0 = (d, 0) := fun t => by rw [e1, if_neg (fun h => hp h.1)]
      rw [ea, ea]
      show _ = ((runD (f + 1) d k 0).1, 0 + (runD (f + 1) d k 0).2)
      rw [ea, Int.zero_add]
end Go.Proofs.YtifcdojaocndhaaDoor
