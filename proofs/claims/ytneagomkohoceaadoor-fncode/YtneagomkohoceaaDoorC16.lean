/- What the exact laws' helpers over rows of ints answer: equal rows are told equal, marks are held, a copy owns its block, a size is taken off. -/
import Derived.Test.YtneagomkohoceaaDoorMac
import Derived.Deep.DrawnRows
import Derived.Deep.QuietTactic
namespace Go.Proofs.YtneagomkohoceaaDoor
open Go.ChangeShapes Go.WideShapes Go.ChangeAt Go.RowKit
set_option linter.unusedVariables false

theorem RowR.drewN {w : World} {v : Value} {zs : List Int} (h : RowR w v zs) (n : Nat) : RowR (w.drewN n) v zs := h
theorem Below.drewN (w : World) (n B : Nat) : Below B w (w.drewN n) := ⟨rfl, rfl, rfl, Nat.le_refl _, fun _ _ => rfl⟩
/-- n numbers from m on -/
def markL (m : Int) (n : Nat) : List Int := (List.range n).map fun (i : Nat) => m + (i : Int)
theorem markL_len (m : Int) (n : Nat) : (markL m n).length = n := by simp [markL]
theorem markL_at (m : Int) (n i : Nat) (h : i < n) : (markL m n).getD i 0 = m + (i : Int) := by
  simp [markL, List.getD_eq_getElem?_getD, List.getElem?_range h]

theorem row_some {w : World} {a : Option Addr} {zs : List Int} (h : zs = [] ∨ ∃ b off, a = some ⟨b, off, none⟩ ∧ ∀ i, i < zs.length → w.cell? ⟨b, off + i, none⟩ = some (.int .i64 (zs.getD i 0))) {k : Nat} (hk : k < zs.length) :
    ∃ b off, a = some ⟨b, off, none⟩ ∧ w.cell? ⟨b, off + k, none⟩ = some (.int .i64 (zs.getD k 0)) := by
  rcases h with h | ⟨b, off, h1, h2⟩
  · rw [h] at hk
    simp at hk
  · exact ⟨b, off, h1, h2 k hk⟩
theorem grown_set1 {w w' : World} {p off : Nat} {u : Value} (h : w.grownBy w' (some p)) : w.grownBy (w'.setCell ⟨p, off, none⟩ u) (some p) :=
  ⟨h.os, h.tape, h.output, by have := h.size; simpa [World.setCell] using this, fun k hk hne => by
    rw [Below.heap_setCell _ _ _ _ (fun e => hne (by rw [e]))]
    exact h.block k hk hne⟩
/-- the first k of the numbers are marked -/
def mkL (zs : List Int) (m : Int) (k : Nat) : List Int := (List.range zs.length).map fun (i : Nat) => if i < k then m + (i : Int) else zs.getD i 0
theorem mkL_len (zs : List Int) (m : Int) (k : Nat) : (mkL zs m k).length = zs.length := by simp [mkL]
theorem mkL_at (zs : List Int) (m : Int) (k i : Nat) (h : i < zs.length) : (mkL zs m k).getD i 0 = if i < k then m + (i : Int) else zs.getD i 0 := by
  simp [mkL, List.getD_eq_getElem?_getD, List.getElem?_range h]
theorem getD_ext {a b : List Int} (hl : a.length = b.length) (h : ∀ i, i < a.length → a.getD i 0 = b.getD i 0) : a = b := by
  apply List.ext_getElem hl
  intro i h1 h2
  have := h i h1
  simpa [List.getD_eq_getElem?_getD, List.getElem?_eq_getElem h1, List.getElem?_eq_getElem h2] using this
theorem mkL_zero (zs : List Int) (m : Int) : mkL zs m 0 = zs := getD_ext (mkL_len _ _ _) (fun i hi => by rw [mkL_len] at hi; rw [mkL_at _ _ _ _ hi, if_neg (by omega)])
theorem mkL_all (zs : List Int) (m : Int) : mkL zs m zs.length = markL m zs.length :=
  getD_ext (by rw [mkL_len, markL_len]) (fun i hi => by rw [mkL_len] at hi; rw [mkL_at _ _ _ _ hi, if_pos hi, markL_at _ _ _ hi])
theorem mkL_succ (zs : List Int) (m : Int) (k : Nat) (hk : k < zs.length) : (mkL zs m k).set k (m + (k : Int)) = mkL zs m (k + 1) := by
  refine getD_ext (by rw [List.length_set, mkL_len, mkL_len]) (fun i hi => ?_)
  rw [List.length_set, mkL_len] at hi
  rw [mkL_at _ _ _ _ hi, List.getD_eq_getElem?_getD]
  by_cases e : k = i
  · subst e
    rw [List.getElem?_set_self (by rw [mkL_len]; exact hi), if_pos (by omega)]
    rfl
  · rw [List.getElem?_set_ne e, ← List.getD_eq_getElem?_getD, mkL_at _ _ _ _ hi]
    by_cases h : i < k
    · rw [if_pos h, if_pos (by omega)]
    · rw [if_neg h, if_neg (by omega)]
theorem infoM : (Tryd.prog.info? 3).map (fun i => (i.zero, i.size, i.bytes)) = some (some (.int .i64 0), 1, 8) := by kernel_rfl
/-- the first k of the numbers are copied, the others are 0 -/
def cpL (zs : List Int) (k : Nat) : List Int := (List.range zs.length).map fun (i : Nat) => if i < k then zs.getD i 0 else 0
theorem cpL_len (zs : List Int) (k : Nat) : (cpL zs k).length = zs.length := by simp [cpL]
theorem cpL_at (zs : List Int) (k i : Nat) (h : i < zs.length) : (cpL zs k).getD i 0 = if i < k then zs.getD i 0 else 0 := by
  simp [cpL, List.getD_eq_getElem?_getD, List.getElem?_range h]
theorem cpL_all (zs : List Int) : cpL zs zs.length = zs := getD_ext (cpL_len _ _) (fun i hi => by rw [cpL_len] at hi; rw [cpL_at _ _ _ hi, if_pos hi])
theorem cpL_succ (zs : List Int) (k : Nat) (hk : k < zs.length) : (cpL zs k).set k (zs.getD k 0) = cpL zs (k + 1) := by
  refine getD_ext (by rw [List.length_set, cpL_len, cpL_len]) (fun i hi => ?_)
  rw [List.length_set, cpL_len] at hi
  rw [cpL_at _ _ _ hi, List.getD_eq_getElem?_getD]
  by_cases e : k = i
  · subst e
    rw [List.getElem?_set_self (by rw [cpL_len]; exact hi), if_pos (by omega)]
    rfl
  · rw [List.getElem?_set_ne e, ← List.getD_eq_getElem?_getD, cpL_at _ _ _ hi]
    by_cases h : i < k
    · rw [if_pos h, if_pos (by omega)]
    · rw [if_neg h, if_neg (by omega)]
theorem cpL_made (w : World) (zs : List Int) (t : TypeId) : RowO (w.alloc (.cells (madeCells #[.int .i64 0] zs.length) t)) w.heap.size (.slice (some ⟨w.heap.size, 0, none⟩) zs.length zs.length) (cpL zs 0) := by
  refine ⟨zs.length, madeCells #[.int .i64 0] zs.length, t, by rw [cpL_len], heap_alloc_new w _, fun i hi => ?_⟩
  rw [cpL_len] at hi
  rw [cpL_at _ _ _ hi, if_neg (by omega), ← Array.getElem?_toList, toList_madeCells_one, List.getElem?_replicate, if_pos hi]
end Go.Proofs.YtneagomkohoceaaDoor

/- What the exact laws' helpers over rows of rows and over memories answer. -/
namespace Go.Proofs.YtneagomkohoceaaDoor
open Go.ChangeShapes Go.WideShapes Go.ChangeAt Go.RowKit
set_option linter.unusedVariables false

theorem RowsR.drewN {w : World} {v : Value} {zss : List (List Int)} (h : RowsR w v zss) (n : Nat) : RowsR (w.drewN n) v zss := h
/-- how many numbers the first i rows have -/
def pre (zss : List (List Int)) (i : Nat) : Nat := ((zss.take i).map List.length).sum
theorem pre_succ (zss : List (List Int)) (i : Nat) (h : i < zss.length) : pre zss (i + 1) = pre zss i + (zss.getD i []).length := by
  have e : zss.take (i + 1) = zss.take i ++ [zss[i]] := List.take_succ_eq_append_getElem h
  unfold pre
  rw [e, List.map_append, List.sum_append, List.getD_eq_getElem?_getD, List.getElem?_eq_getElem h]
  simp
theorem pre_zero (zss : List (List Int)) : pre zss 0 = 0 := rfl
theorem pre_mono (zss : List (List Int)) (i j : Nat) (h : i ≤ j) (hj : j ≤ zss.length) : pre zss i ≤ pre zss j := by
  induction j with
  | zero =>
    obtain rfl : i = 0 := by omega
    exact Nat.le_refl _
  | succ j ih =>
    by_cases e : i = j + 1
    · rw [e]
      exact Nat.le_refl _
    · rw [pre_succ zss j (by omega)]
      have := ih (by omega) (by omega)
      omega
theorem row_le_pre (zss : List (List Int)) (i : Nat) (h : i < zss.length) : (zss.getD i []).length ≤ pre zss zss.length := by
  have h1 := pre_succ zss i h
  have h2 := pre_mono zss (i + 1) zss.length h (Nat.le_refl _)
  omega
theorem rows_some {w : World} {a : Option Addr} {zss : List (List Int)} (h : zss = [] ∨ ∃ b off, a = some ⟨b, off, none⟩ ∧ ∀ i, i < zss.length → ∃ u, w.cell? ⟨b, off + i, none⟩ = some u ∧ RowR w u (zss.getD i [])) {k : Nat} (hk : k < zss.length) :
    ∃ b off a' cap', a = some ⟨b, off, none⟩ ∧ w.cell? ⟨b, off + k, none⟩ = some (.slice a' (zss.getD k []).length cap') ∧ RowR w (.slice a' (zss.getD k []).length cap') (zss.getD k []) := by
  rcases h with h | ⟨b, off, h1, h2⟩
  · rw [h] at hk
    simp at hk
  · obtain ⟨u, h3, h4⟩ := h2 k hk
    have h5 := h4
    obtain ⟨a', cap', rfl, _⟩ := h5
    exact ⟨b, off, a', cap', h1, h3, h4⟩
theorem RowsR.disj {w : World} {a : Option Addr} {n cap : Nat} {zss : List (List Int)} (h : RowsR w (.slice a n cap) zss) : zss = [] ∨ ∃ b off, a = some ⟨b, off, none⟩ ∧ ∀ i, i < zss.length → ∃ u, w.cell? ⟨b, off + i, none⟩ = some u ∧ RowR w u (zss.getD i []) := by
  obtain ⟨a', cap', e, h⟩ := h
  injection e with e _ _
  subst e
  exact h
theorem RowR.disj {w : World} {a : Option Addr} {n cap : Nat} {zs : List Int} (h : RowR w (.slice a n cap) zs) : zs = [] ∨ ∃ b off, a = some ⟨b, off, none⟩ ∧ ∀ i, i < zs.length → w.cell? ⟨b, off + i, none⟩ = some (.int .i64 (zs.getD i 0)) := by
  obtain ⟨a', cap', e, h⟩ := h
  injection e with e _ _
  subst e
  exact h
/-- the first k rows are marked from m on -/
def mrL (zss : List (List Int)) (m : Int) (k : Nat) : List (List Int) := (List.range zss.length).map fun (i : Nat) => if i < k then markL (m + (pre zss i : Nat)) (zss.getD i []).length else zss.getD i []
theorem mrL_len (zss : List (List Int)) (m : Int) (k : Nat) : (mrL zss m k).length = zss.length := by simp [mrL]
theorem mrL_at (zss : List (List Int)) (m : Int) (k i : Nat) (h : i < zss.length) : (mrL zss m k).getD i [] = if i < k then markL (m + (pre zss i : Nat)) (zss.getD i []).length else zss.getD i [] := by
  simp [mrL, List.getD_eq_getElem?_getD, List.getElem?_range h]
theorem getD_ext2 {a b : List (List Int)} (hl : a.length = b.length) (h : ∀ i, i < a.length → a.getD i [] = b.getD i []) : a = b := by
  apply List.ext_getElem hl
  intro i h1 h2
  have := h i h1
  simpa [List.getD_eq_getElem?_getD, List.getElem?_eq_getElem h1, List.getElem?_eq_getElem h2] using this
theorem mrL_zero (zss : List (List Int)) (m : Int) : mrL zss m 0 = zss := getD_ext2 (mrL_len _ _ _) (fun i hi => by rw [mrL_len] at hi; rw [mrL_at _ _ _ _ hi, if_neg (by omega)])
theorem mrL_succ (zss : List (List Int)) (m : Int) (k : Nat) (hk : k < zss.length) : (mrL zss m k).set k (markL (m + (pre zss k : Nat)) (zss.getD k []).length) = mrL zss m (k + 1) := by
  refine getD_ext2 (by rw [List.length_set, mrL_len, mrL_len]) (fun i hi => ?_)
  rw [List.length_set, mrL_len] at hi
  rw [mrL_at _ _ _ _ hi, List.getD_eq_getElem?_getD]
  by_cases e : k = i
  · subst e
    rw [List.getElem?_set_self (by rw [mrL_len]; exact hi), if_pos (by omega)]
    rfl
  · rw [List.getElem?_set_ne e, ← List.getD_eq_getElem?_getD, mrL_at _ _ _ _ hi]
    by_cases h : i < k
    · rw [if_pos h, if_pos (by omega)]
    · rw [if_neg h, if_neg (by omega)]
/-- one row of a slice of rows, and what another content of it makes of the whole -/
theorem RowsO.at {w : World} {s : Nat} {G : Nat → Nat} {v : Value} {zss : List (List Int)} (h : RowsO w s G v zss) {k : Nat} (hk : k < zss.length) :
    ∃ cap u, v = .slice (some ⟨s, 0, none⟩) zss.length cap ∧ w.cell? ⟨s, k, none⟩ = some u ∧ RowO w (G k) u (zss.getD k []) ∧
      ∀ w' zs', RowO w' (G k) u zs' → w.grownBy w' (some (G k)) → (∀ i, i < zss.length → G i ≠ s) → (∀ i j, i < zss.length → j < zss.length → G i = G j → i = j) → RowsO w' s G v (zss.set k zs') := by
  obtain ⟨cap, c, t, V, hv, h1, h2, h3⟩ := h
  refine ⟨cap, V k, hv, by simp [World.cell?, h1, h2 k hk], h3 k hk, fun w' zs' hr hg hs hd => ?_⟩
  have hslt : s < w.heap.size := (Array.getElem?_eq_some_iff.1 h1).1
  refine ⟨cap, c, t, V, by rw [List.length_set]; exact hv, (hg.block s hslt (by simp; exact fun e => hs k hk e.symm)).trans h1, fun i hi => h2 i (by rw [List.length_set] at hi; exact hi), fun i hi => ?_⟩
  rw [List.length_set] at hi
  by_cases e : k = i
  · subst e
    rw [List.getD_eq_getElem?_getD, List.getElem?_set_self hk]
    exact hr
  · rw [List.getD_eq_getElem?_getD, List.getElem?_set_ne e, ← List.getD_eq_getElem?_getD]
    exact (h3 i hi).kept (hg.block _ (h3 i hi).lt (by simp; exact fun e2 => e (hd i k hi hk e2).symm))

end Go.Proofs.YtneagomkohoceaaDoor
