/- What the specification's write into a memory answers. -/
import Derived.Test.YtghcagibdcblnaaMik
namespace Go.Proofs.Ytghcagibdcblnaa
open Go.ChangeShapes Go.WideShapes Go.ChangeAt Go.RowKit
set_option linter.unusedVariables false

/-- a memory behind a write -/
def pokeM (M : Mem) (a v : Int) : Mem := if a < 64 then M else { M with ram := M.ram.set (bankI M.page a).toNat ((M.ram.getD (bankI M.page a).toNat []).set (a % 64).toNat v) }
theorem bytes_set {zs : List Int} {n k : Nat} {v : Int} (h : bytesB zs n = true) (hv : inB v 0 255 = true) : bytesB (zs.set k v) n = true := by
  have hl := bytes_len h
  rw [bytes_all (fun i hi => ?_), List.length_set, hl]
  · simp
  · rw [List.length_set] at hi
    by_cases e : k = i
    · subst e
      rw [List.getD_eq_getElem?_getD, List.getElem?_set_self hi]
      exact hv
    · rw [List.getD_eq_getElem?_getD, List.getElem?_set_ne e, ← List.getD_eq_getElem?_getD]
      exact bytes_at h hi
theorem poke_ok {M : Mem} {a v : Int} (h : okM M = true) (hv : inB v 0 255 = true) : okM (pokeM M a v) = true := by
  obtain ⟨h1, h2, h3, h4, h5⟩ := ok_parts h
  unfold pokeM
  split
  · exact h
  · refine ok_all h1 (by rw [List.length_set]; exact h2) (in_yes h3.1 h3.2) h4 (fun i hi => ?_)
    by_cases e : (bankI M.page a).toNat = i
    · subst e
      rw [List.getD_eq_getElem?_getD, List.getElem?_set_self (by omega)]
      exact bytes_set (h5 _ (by omega)) hv
    · rw [List.getD_eq_getElem?_getD, List.getElem?_set_ne e, ← List.getD_eq_getElem?_getD]
      exact h5 i (by omega)
theorem rows_set {W : World} {g c j n2 : Nat} {x : Option Addr} {c2 : Nat} {V : Nat → Value} {zss : List (List Int)} {zs' : List Int} (hsp : ∀ i, i < zss.length → W.cell? ⟨g, i, none⟩ = some (if i = j then .slice x n2 c2 else V i))
    (hV : ∀ i, i < zss.length → i ≠ j → RowR W (V i) (zss.getD i [])) (hj : j < zss.length) (hr : RowR W (.slice x n2 c2) zs') : RowsR W (.slice (some ⟨g, 0, none⟩) zss.length c) (zss.set j zs') := by
  refine ⟨_, c, by rw [List.length_set], .inr ⟨g, 0, rfl, fun i hi => ?_⟩⟩
  rw [List.length_set] at hi
  refine ⟨_, by rw [Nat.zero_add]; exact hsp i hi, ?_⟩
  by_cases e : i = j
  · subst e
    rw [if_pos rfl, List.getD_eq_getElem?_getD, List.getElem?_set_self hi]
    exact hr
  · rw [if_neg e, List.getD_eq_getElem?_getD, List.getElem?_set_ne (fun h => e h.symm), ← List.getD_eq_getElem?_getD]
    exact hV i hi e
theorem news_of_rows {w : World} {b off : Nat} {V : Nat → Value} {n : Nat} (h : ∀ i, i < n → w.cell? ⟨b, off + i, none⟩ = some (V i)) :
    ∀ j u, ((List.range n).map V)[j]? = some u → w.cell? ((⟨b, off, none⟩ : Addr).add j) = some u := by
  intro j u hu
  have hj : j < n := by
    have := (List.getElem?_eq_some_iff.1 hu).1
    simpa using this
  rw [add_plain, h j hj, ← hu, List.getElem?_map, List.getElem?_range hj]
  rfl
theorem rows_fun {w : World} {a : Option Addr} {n cap : Nat} {zss : List (List Int)} (h : RowsR w (.slice a n cap) zss) (h0 : 0 < zss.length) :
    ∃ b off, ∃ (A : Nat → Option Addr) (C : Nat → Nat), a = some ⟨b, off, none⟩ ∧ b < w.heap.size ∧ ∀ i, i < zss.length → w.cell? ⟨b, off + i, none⟩ = some (.slice (A i) (zss.getD i []).length (C i)) ∧ RowR w (.slice (A i) (zss.getD i []).length (C i)) (zss.getD i []) := by
  rcases h.disj with h | ⟨b, off, h1, h2⟩
  · rw [h] at h0
    simp at h0
  · have h3 : ∀ i, i < zss.length → ∃ y : Option Addr × Nat, w.cell? ⟨b, off + i, none⟩ = some (.slice y.1 (zss.getD i []).length y.2) ∧ RowR w (.slice y.1 (zss.getD i []).length y.2) (zss.getD i []) := by
      intro i hi
      obtain ⟨u, k1, k2⟩ := h2 i hi
      obtain ⟨a', cap', rfl, _⟩ := id k2
      exact ⟨(a', cap'), k1, k2⟩
    obtain ⟨f, hf⟩ := Go.Deep.choose_lt h3
    exact ⟨b, off, fun i => (f i).1, fun i => (f i).2, h1, World.block_lt_of_cell? w _ (hf 0 h0).1, hf⟩
/-- what a write answers: the code, and the memory -/
def pokeC (M : Mem) (a v : Int) : Int := if askM M a = 0 then (if inB v 0 255 = true then 0 else 4) else askM M a
def pokeR (M : Mem) (a v : Int) : Mem := if pokeC M a v = 0 then pokeM M a v else mem0
end Go.Proofs.Ytghcagibdcblnaa
