/- What the specification's write into a memory answers. -/
import Derived.Test.YtacghkidpbflkabDoorMiq
import Derived.Test.YtacghkidpbflkabDoorBaseq
import Derived.Laws.BitsAllLaws
namespace Go.Proofs.YtacghkidpbflkabDoor
open Go.ChangeShapes Go.WideShapes Go.ChangeAt Go.RowKit
set_option linter.unusedVariables false

/-- a memory behind a write -/
def pokeM (M : Mem) (a v : Int) : Mem := if a < 64 then M else { M with ram := M.ram.set (bankI M.page a).toNat ((M.ram.getD (bankI M.page a).toNat []).set (a % 64).toNat v) }
theorem bytes_set {zs : List Int} {n k : Nat} {v : Int} (h : bytesB zs n = true) (hv : inB v 0 255 = true) : bytesB (zs.set k v) n = true := by
  have hl := bytes_len h
  rw [bytes_all (fun i hi => ?_), List.length_set, hl]
  · simp
  · rw [List.length_set] at hi
    by_cases e : k = i
    · subst e
      rw [List.getD_eq_getElem?_getD, List.getElem?_set_self hi]
      exact hv
    · rw [List.getD_eq_getElem?_getD, List.getElem?_set_ne e, ← List.getD_eq_getElem?_getD]
      exact bytes_at h hi
theorem poke_ok {M : Mem} {a v : Int} (h : okM M = true) (hv : inB v 0 255 = true) : okM (pokeM M a v) = true := by
  obtain ⟨h1, h2, h3, h4, h5⟩ := ok_parts h
  unfold pokeM
  split
  · exact h
  · refine ok_all h1 (by rw [List.length_set]; exact h2) (in_yes h3.1 h3.2) h4 (fun i hi => ?_)
    by_cases e : (bankI M.page a).toNat = i
    · subst e
      rw [List.getD_eq_getElem?_getD, List.getElem?_set_self (by omega)]
      exact bytes_set (h5 _ (by omega)) hv
    · rw [List.getD_eq_getElem?_getD, List.getElem?_set_ne e, ← List.getD_eq_getElem?_getD]
      exact h5 i (by omega)
theorem rows_set {W : World} {g c j n2 : Nat} {x : Option Addr} {c2 : Nat} {V : Nat → Value} {zss : List (List Int)} {zs' : List Int} (hsp : ∀ i, i < zss.length → W.cell? ⟨g, i, none⟩ = some (if i = j then .slice x n2 c2 else V i))
    (hV : ∀ i, i < zss.length → i ≠ j → RowR W (V i) (zss.getD i [])) (hj : j < zss.length) (hr : RowR W (.slice x n2 c2) zs') : RowsR W (.slice (some ⟨g, 0, none⟩) zss.length c) (zss.set j zs') := by
  refine ⟨_, c, by rw [List.length_set], .inr ⟨g, 0, rfl, fun i hi => ?_⟩⟩
  rw [List.length_set] at hi
  refine ⟨_, by rw [Nat.zero_add]; exact hsp i hi, ?_⟩
  by_cases e : i = j
  · subst e
    rw [if_pos rfl, List.getD_eq_getElem?_getD, List.getElem?_set_self hi]
    exact hr
  · rw [if_neg e, List.getD_eq_getElem?_getD, List.getElem?_set_ne (fun h => e h.symm), ← List.getD_eq_getElem?_getD]
    exact hV i hi e
theorem news_of_rows {w : World} {b off : Nat} {V : Nat → Value} {n : Nat} (h : ∀ i, i < n → w.cell? ⟨b, off + i, none⟩ = some (V i)) :
    ∀ j u, ((List.range n).map V)[j]? = some u → w.cell? ((⟨b, off, none⟩ : Addr).add j) = some u := by
  intro j u hu
  have hj : j < n := by
    have := (List.getElem?_eq_some_iff.1 hu).1
    simpa using this
  rw [add_plain, h j hj, ← hu, List.getElem?_map, List.getElem?_range hj]
  rfl
theorem rows_fun {w : World} {a : Option Addr} {n cap : Nat} {zss : List (List Int)} (h : RowsR w (.slice a n cap) zss) (h0 : 0 < zss.length) :
    ∃ b off, ∃ (A : Nat → Option Addr) (C : Nat → Nat), a = some ⟨b, off, none⟩ ∧ b < w.heap.size ∧ ∀ i, i < zss.length → w.cell? ⟨b, off + i, none⟩ = some (.slice (A i) (zss.getD i []).length (C i)) ∧ RowR w (.slice (A i) (zss.getD i []).length (C i)) (zss.getD i []) := by
  rcases h.disj with h | ⟨b, off, h1, h2⟩
  · rw [h] at h0
    simp at h0
  · have h3 : ∀ i, i < zss.length → ∃ y : Option Addr × Nat, w.cell? ⟨b, off + i, none⟩ = some (.slice y.1 (zss.getD i []).length y.2) ∧ RowR w (.slice y.1 (zss.getD i []).length y.2) (zss.getD i []) := by
      intro i hi
      obtain ⟨u, k1, k2⟩ := h2 i hi
      obtain ⟨a', cap', rfl, _⟩ := id k2
      exact ⟨(a', cap'), k1, k2⟩
    obtain ⟨f, hf⟩ := Go.Deep.choose_lt h3
    exact ⟨b, off, fun i => (f i).1, fun i => (f i).2, h1, World.block_lt_of_cell? w _ (hf 0 h0).1, hf⟩
/-- what a write answers: the code, and the memory -/
def pokeC (M : Mem) (a v : Int) : Int := if askM M a = 0 then (if inB v 0 255 = true then 0 else 4) else askM M a
def pokeR (M : Mem) (a v : Int) : Mem := if pokeC M a v = 0 then pokeM M a v else mem0
end Go.Proofs.YtacghkidpbflkabDoor

/- Bits of small numbers at int: and, or, exclusive or of numbers below 65536 are those of natural numbers; a loop over all numbers below a bound, for the kernel. -/
namespace Go.Proofs.YtacghkidpbflkabDoor
open Go.ChangeShapes Go.WideShapes Go.ChangeAt Go.RowKit
set_option linter.unusedVariables false

theorem bOf (a : Nat) (ha : a < 65536) : ((a : Int) % ((2 ^ 64 : Nat) : Int)).toNat = a := by omega
theorem bAnd (a b : Nat) (ha : a < 65536) (hb : b < 65536) : bits .and .i64 (a : Int) (b : Int) = ((Nat.land a b : Nat) : Int) := by
  have hx : Nat.land a b < 2 ^ 16 := Nat.and_lt_two_pow _ (by omega)
  show IntKind.i64.wrap ((BitVec.ofInt 64 (a : Int) &&& BitVec.ofInt 64 (b : Int)).toNat : Int) = _
  rw [BitVec.toNat_and, BitVec.toNat_ofInt, BitVec.toNat_ofInt, IntKind.wrap_i64, bOf a ha, bOf b hb]
  show (((Nat.land a b : Nat) : Int) + _) % _ - _ = _
  omega
theorem bOr (a b : Nat) (ha : a < 65536) (hb : b < 65536) : bits .or .i64 (a : Int) (b : Int) = ((Nat.lor a b : Nat) : Int) := by
  have hx : Nat.lor a b < 2 ^ 16 := Nat.or_lt_two_pow (by omega) (by omega)
  show IntKind.i64.wrap ((BitVec.ofInt 64 (a : Int) ||| BitVec.ofInt 64 (b : Int)).toNat : Int) = _
  rw [BitVec.toNat_or, BitVec.toNat_ofInt, BitVec.toNat_ofInt, IntKind.wrap_i64, bOf a ha, bOf b hb]
  show (((Nat.lor a b : Nat) : Int) + _) % _ - _ = _
  omega
theorem bXor (a b : Nat) (ha : a < 65536) (hb : b < 65536) : bits .xor .i64 (a : Int) (b : Int) = ((Nat.xor a b : Nat) : Int) := by
  have hx : Nat.xor a b < 2 ^ 16 := Nat.xor_lt_two_pow (by omega) (by omega)
  show IntKind.i64.wrap ((BitVec.ofInt 64 (a : Int) ^^^ BitVec.ofInt 64 (b : Int)).toNat : Int) = _
  rw [BitVec.toNat_xor, BitVec.toNat_ofInt, BitVec.toNat_ofInt, IntKind.wrap_i64, bOf a ha, bOf b hb]
  show (((Nat.xor a b : Nat) : Int) + _) % _ - _ = _
  omega

/-- a test over all numbers below n, in the kernel's own steps -/
def allB (n : Nat) (p : Nat → Bool) : Bool := Nat.rec true (fun k r => and (p k) r) n
theorem allB_at {n : Nat} {p : Nat → Bool} (h : allB n p = true) (k : Nat) (hk : k < n) : p k = true := by
  induction n with
  | zero => omega
  | succ n ih =>
    have h' : (and (p n) (allB n p)) = true := h
    rw [Bool.and_eq_true] at h'
    by_cases e : k = n
    · rw [e]; exact h'.1
    · exact ih h'.2 (by omega)
/-- 1 of true -/
def btN (b : Bool) : Nat := cond b 1 0
end Go.Proofs.YtacghkidpbflkabDoor
