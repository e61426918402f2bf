/- What the exact laws' helpers over rows of ints answer: equal rows are told equal, marks are held, a copy owns its block, a size is taken off. -/
import Derived.Test.YtneagomkohoceaaDoorMa
import Derived.Deep.DrawnRows
import Derived.Deep.QuietTactic
namespace Go.Proofs.YtneagomkohoceaaDoor
open Go.ChangeShapes Go.WideShapes Go.ChangeAt Go.RowKit
set_option linter.unusedVariables false

theorem RowR.drewN {w : World} {v : Value} {zs : List Int} (h : RowR w v zs) (n : Nat) : RowR (w.drewN n) v zs := h
theorem Below.drewN (w : World) (n B : Nat) : Below B w (w.drewN n) := ⟨rfl, rfl, rfl, Nat.le_refl _, fun _ _ => rfl⟩
/-- n numbers from m on -/
def markL (m : Int) (n : Nat) : List Int := (List.range n).map fun (i : Nat) => m + (i : Int)
theorem markL_len (m : Int) (n : Nat) : (markL m n).length = n := by simp [markL]
theorem markL_at (m : Int) (n i : Nat) (h : i < n) : (markL m n).getD i 0 = m + (i : Int) := by
  simp [markL, List.getD_eq_getElem?_getD, List.getElem?_range h]

theorem row_some {w : World} {a : Option Addr} {zs : List Int} (h : zs = [] ∨ ∃ b off, a = some ⟨b, off, none⟩ ∧ ∀ i, i < zs.length → w.cell? ⟨b, off + i, none⟩ = some (.int .i64 (zs.getD i 0))) {k : Nat} (hk : k < zs.length) :
    ∃ b off, a = some ⟨b, off, none⟩ ∧ w.cell? ⟨b, off + k, none⟩ = some (.int .i64 (zs.getD k 0)) := by
  rcases h with h | ⟨b, off, h1, h2⟩
  · rw [h] at hk
    simp at hk
  · exact ⟨b, off, h1, h2 k hk⟩
theorem grown_set1 {w w' : World} {p off : Nat} {u : Value} (h : w.grownBy w' (some p)) : w.grownBy (w'.setCell ⟨p, off, none⟩ u) (some p) :=
  ⟨h.os, h.tape, h.output, by have := h.size; simpa [World.setCell] using this, fun k hk hne => by
    rw [Below.heap_setCell _ _ _ _ (fun e => hne (by rw [e]))]
    exact h.block k hk hne⟩
/-- the first k of the numbers are marked -/
def mkL (zs : List Int) (m : Int) (k : Nat) : List Int := (List.range zs.length).map fun (i : Nat) => if i < k then m + (i : Int) else zs.getD i 0
theorem mkL_len (zs : List Int) (m : Int) (k : Nat) : (mkL zs m k).length = zs.length := by simp [mkL]
theorem mkL_at (zs : List Int) (m : Int) (k i : Nat) (h : i < zs.length) : (mkL zs m k).getD i 0 = if i < k then m + (i : Int) else zs.getD i 0 := by
  simp [mkL, List.getD_eq_getElem?_getD, List.getElem?_range h]
theorem getD_ext {a b : List Int} (hl : a.length = b.length) (h : ∀ i, i < a.length → a.getD i 0 = b.getD i 0) : a = b := by
  apply List.ext_getElem hl
  intro i h1 h2
  have := h i h1
  simpa [List.getD_eq_getElem?_getD, List.getElem?_eq_getElem h1, List.getElem?_eq_getElem h2] using this
theorem mkL_zero (zs : List Int) (m : Int) : mkL zs m 0 = zs := getD_ext (mkL_len _ _ _) (fun i hi => by rw [mkL_len] at hi; rw [mkL_at _ _ _ _ hi, if_neg (by omega)])
theorem mkL_all (zs : List Int) (m : Int) : mkL zs m zs.length = markL m zs.length :=
  getD_ext (by rw [mkL_len, markL_len]) (fun i hi => by rw [mkL_len] at hi; rw [mkL_at _ _ _ _ hi, if_pos hi, markL_at _ _ _ hi])
theorem mkL_succ (zs : List Int) (m : Int) (k : Nat) (hk : k < zs.length) : (mkL zs m k).set k (m + (k : Int)) = mkL zs m (k + 1) := by
  refine getD_ext (by rw [List.length_set, mkL_len, mkL_len]) (fun i hi => ?_)
  rw [List.length_set, mkL_len] at hi
  rw [mkL_at _ _ _ _ hi, List.getD_eq_getElem?_getD]
  by_cases e : k = i
  · subst e
    rw [List.getElem?_set_self (by rw [mkL_len]; exact hi), if_pos (by omega)]
    rfl
  · rw [List.getElem?_set_ne e, ← List.getD_eq_getElem?_getD, mkL_at _ _ _ _ hi]
    by_cases h : i < k
    · rw [if_pos h, if_pos (by omega)]
    · rw [if_neg h, if_neg (by omega)]
theorem infoM : (Tryd.prog.info? 3).map (fun i => (i.zero, i.size, i.bytes)) = some (some (.int .i64 0), 1, 8) := by kernel_rfl
/-- the first k of the numbers are copied, the others are 0 -/
def cpL (zs : List Int) (k : Nat) : List Int := (List.range zs.length).map fun (i : Nat) => if i < k then zs.getD i 0 else 0
theorem cpL_len (zs : List Int) (k : Nat) : (cpL zs k).length = zs.length := by simp [cpL]
theorem cpL_at (zs : List Int) (k i : Nat) (h : i < zs.length) : (cpL zs k).getD i 0 = if i < k then zs.getD i 0 else 0 := by
  simp [cpL, List.getD_eq_getElem?_getD, List.getElem?_range h]
theorem cpL_all (zs : List Int) : cpL zs zs.length = zs := getD_ext (cpL_len _ _) (fun i hi => by rw [cpL_len] at hi; rw [cpL_at _ _ _ hi, if_pos hi])
theorem cpL_succ (zs : List Int) (k : Nat) (hk : k < zs.length) : (cpL zs k).set k (zs.getD k 0) = cpL zs (k + 1) := by
  refine getD_ext (by rw [List.length_set, cpL_len, cpL_len]) (fun i hi => ?_)
  rw [List.length_set, cpL_len] at hi
  rw [cpL_at _ _ _ hi, List.getD_eq_getElem?_getD]
  by_cases e : k = i
  · subst e
    rw [List.getElem?_set_self (by rw [cpL_len]; exact hi), if_pos (by omega)]
    rfl
  · rw [List.getElem?_set_ne e, ← List.getD_eq_getElem?_getD, cpL_at _ _ _ hi]
    by_cases h : i < k
    · rw [if_pos h, if_pos (by omega)]
    · rw [if_neg h, if_neg (by omega)]
theorem cpL_made (w : World) (zs : List Int) (t : TypeId) : RowO (w.alloc (.cells (madeCells #[.int .i64 0] zs.length) t)) w.heap.size (.slice (some ⟨w.heap.size, 0, none⟩) zs.length zs.length) (cpL zs 0) := by
  refine ⟨zs.length, madeCells #[.int .i64 0] zs.length, t, by rw [cpL_len], heap_alloc_new w _, fun i hi => ?_⟩
  rw [cpL_len] at hi
  rw [cpL_at _ _ _ hi, if_neg (by omega), ← Array.getElem?_toList, toList_madeCells_one, List.getElem?_replicate, if_pos hi]
end Go.Proofs.YtneagomkohoceaaDoor
