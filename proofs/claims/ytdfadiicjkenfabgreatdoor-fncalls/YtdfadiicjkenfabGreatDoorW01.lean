/- What the exact laws' helpers over rows of ints answer: equal rows are told equal, marks are held, a copy owns its block, a size is taken off. -/
import Derived.Test.YtdfadiicjkenfabGreatDoorW00
import Derived.Deep.DrawnRows
import Derived.Deep.QuietTactic
namespace Go.Proofs.YtdfadiicjkenfabGreatDoor
open Go.ChangeShapes Go.WideShapes Go.ChangeAt Go.RowKit
set_option linter.unusedVariables false

theorem RowR.drewN {w : World} {v : Value} {zs : List Int} (h : RowR w v zs) (n : Nat) : RowR (w.drewN n) v zs := h
theorem Below.drewN (w : World) (n B : Nat) : Below B w (w.drewN n) := ⟨rfl, rfl, rfl, Nat.le_refl _, fun _ _ => rfl⟩
/-- n numbers from m on -/
def markL (m : Int) (n : Nat) : List Int := (List.range n).map fun (i : Nat) => m + (i : Int)
theorem markL_len (m : Int) (n : Nat) : (markL m n).length = n := by simp [markL]
theorem markL_at (m : Int) (n i : Nat) (h : i < n) : (markL m n).getD i 0 = m + (i : Int) := by
  simp [markL, List.getD_eq_getElem?_getD, List.getElem?_range h]

theorem row_some {w : World} {a : Option Addr} {zs : List Int} (h : zs = [] ∨ ∃ b off, a = some ⟨b, off, none⟩ ∧ ∀ i, i < zs.length → w.cell? ⟨b, off + i, none⟩ = some (.int .i64 (zs.getD i 0))) {k : Nat} (hk : k < zs.length) :
    ∃ b off, a = some ⟨b, off, none⟩ ∧ w.cell? ⟨b, off + k, none⟩ = some (.int .i64 (zs.getD k 0)) := by
  rcases h with h | ⟨b, off, h1, h2⟩
  · rw [h] at hk
    simp at hk
  · exact ⟨b, off, h1, h2 k hk⟩
theorem grown_set1 {w w' : World} {p off : Nat} {u : Value} (h : w.grownBy w' (some p)) : w.grownBy (w'.setCell ⟨p, off, none⟩ u) (some p) :=
  ⟨h.os, h.tape, h.output, by have := h.size; simpa [World.setCell] using this, fun k hk hne => by
    rw [Below.heap_setCell _ _ _ _ (fun e => hne (by rw [e]))]
    exact h.block k hk hne⟩
/-- the first k of the numbers are marked -/
def mkL (zs : List Int) (m : Int) (k : Nat) : List Int := (List.range zs.length).map fun (i : Nat) => if i < k then m + (i : Int) else zs.getD i 0
theorem mkL_len (zs : List Int) (m : Int) (k : Nat) : (mkL zs m k).length = zs.length := by simp [mkL]
theorem mkL_at (zs : List Int) (m : Int) (k i : Nat) (h : i < zs.length) : (mkL zs m k).getD i 0 = if i < k then m + (i : Int) else zs.getD i 0 := by
  simp [mkL, List.getD_eq_getElem?_getD, List.getElem?_range h]
theorem getD_ext {a b : List Int} (hl : a.length = b.length) (h : ∀ i, i < a.length → a.getD i 0 = b.getD i 0) : a = b := by
  apply List.ext_getElem hl
  intro i h1 h2
  have := h i h1
  simpa [List.getD_eq_getElem?_getD, List.getElem?_eq_getElem h1, List.getElem?_eq_getElem h2] using this
theorem mkL_zero (zs : List Int) (m : Int) : mkL zs m 0 = zs := getD_ext (mkL_len _ _ _) (fun i hi => by rw [mkL_len] at hi; rw [mkL_at _ _ _ _ hi, if_neg (by omega)])
theorem mkL_all (zs : List Int) (m : Int) : mkL zs m zs.length = markL m zs.length :=
  getD_ext (by rw [mkL_len, markL_len]) (fun i hi => by rw [mkL_len] at hi; rw [mkL_at _ _ _ _ hi, if_pos hi, markL_at _ _ _ hi])
theorem mkL_succ (zs : List Int) (m : Int) (k : Nat) (hk : k < zs.length) : (mkL zs m k).set k (m + (k : Int)) = mkL zs m (k + 1) := by
  refine getD_ext (by rw [List.length_set, mkL_len, mkL_len]) (fun i hi => ?_)
  rw [List.length_set, mkL_len] at hi
  rw [mkL_at _ _ _ _ hi, List.getD_eq_getElem?_getD]
  by_cases e : k = i
  · subst e
    rw [List.getElem?_set_self (by rw [mkL_len]; exact hi), if_pos (by omega)]
    rfl
  · rw [List.getElem?_set_ne e, ← List.getD_eq_getElem?_getD, mkL_at _ _ _ _ hi]
    by_cases h : i < k
    · rw [if_pos h, if_pos (by omega)]
    · rw [if_neg h, if_neg (by omega)]
theorem infoM : (Tryz.prog.info? 3).map (fun i => (i.zero, i.size, i.bytes)) = some (some (.int .i64 0), 1, 8) := by kernel_rfl
/-- the first k of the numbers are copied, the others are 0 -/
def cpL (zs : List Int) (k : Nat) : List Int := (List.range zs.length).map fun (i : Nat) => if i < k then zs.getD i 0 else 0
theorem cpL_len (zs : List Int) (k : Nat) : (cpL zs k).length = zs.length := by simp [cpL]
theorem cpL_at (zs : List Int) (k i : Nat) (h : i < zs.length) : (cpL zs k).getD i 0 = if i < k then zs.getD i 0 else 0 := by
  simp [cpL, List.getD_eq_getElem?_getD, List.getElem?_range h]
theorem cpL_all (zs : List Int) : cpL zs zs.length = zs := getD_ext (cpL_len _ _) (fun i hi => by rw [cpL_len] at hi; rw [cpL_at _ _ _ hi, if_pos hi])
theorem cpL_succ (zs : List Int) (k : Nat) (hk : k < zs.length) : (cpL zs k).set k (zs.getD k 0) = cpL zs (k + 1) := by
  refine getD_ext (by rw [List.length_set, cpL_len, cpL_len]) (fun i hi => ?_)
  rw [List.length_set, cpL_len] at hi
  rw [cpL_at _ _ _ hi, List.getD_eq_getElem?_getD]
  by_cases e : k = i
  · subst e
    rw [List.getElem?_set_self (by rw [cpL_len]; exact hi), if_pos (by omega)]
    rfl
  · rw [List.getElem?_set_ne e, ← List.getD_eq_getElem?_getD, cpL_at _ _ _ hi]
    by_cases h : i < k
    · rw [if_pos h, if_pos (by omega)]
    · rw [if_neg h, if_neg (by omega)]
theorem cpL_made (w : World) (zs : List Int) (t : TypeId) : RowO (w.alloc (.cells (madeCells #[.int .i64 0] zs.length) t)) w.heap.size (.slice (some ⟨w.heap.size, 0, none⟩) zs.length zs.length) (cpL zs 0) := by
  refine ⟨zs.length, madeCells #[.int .i64 0] zs.length, t, by rw [cpL_len], heap_alloc_new w _, fun i hi => ?_⟩
  rw [cpL_len] at hi
  rw [cpL_at _ _ _ hi, if_neg (by omega), ← Array.getElem?_toList, toList_madeCells_one, List.getElem?_replicate, if_pos hi]
end Go.Proofs.YtdfadiicjkenfabGreatDoor

/- What the exact laws' helpers over rows of rows and over memories answer. -/
namespace Go.Proofs.YtdfadiicjkenfabGreatDoor
open Go.ChangeShapes Go.WideShapes Go.ChangeAt Go.RowKit
set_option linter.unusedVariables false

theorem RowsR.drewN {w : World} {v : Value} {zss : List (List Int)} (h : RowsR w v zss) (n : Nat) : RowsR (w.drewN n) v zss := h
/-- how many numbers the first i rows have -/
def pre (zss : List (List Int)) (i : Nat) : Nat := ((zss.take i).map List.length).sum
theorem pre_succ (zss : List (List Int)) (i : Nat) (h : i < zss.length) : pre zss (i + 1) = pre zss i + (zss.getD i []).length := by
  have e : zss.take (i + 1) = zss.take i ++ [zss[i]] := List.take_succ_eq_append_getElem h
  unfold pre
  rw [e, List.map_append, List.sum_append, List.getD_eq_getElem?_getD, List.getElem?_eq_getElem h]
  simp
theorem pre_zero (zss : List (List Int)) : pre zss 0 = 0 := rfl
theorem pre_mono (zss : List (List Int)) (i j : Nat) (h : i ≤ j) (hj : j ≤ zss.length) : pre zss i ≤ pre zss j := by
  induction j with
  | zero =>
    obtain rfl : i = 0 := by omega
    exact Nat.le_refl _
  | succ j ih =>
    by_cases e : i = j + 1
    · rw [e]
      exact Nat.le_refl _
    · rw [pre_succ zss j (by omega)]
      have := ih (by omega) (by omega)
      omega
theorem row_le_pre (zss : List (List Int)) (i : Nat) (h : i < zss.length) : (zss.getD i []).length ≤ pre zss zss.length := by
  have h1 := pre_succ zss i h
  have h2 := pre_mono zss (i + 1) zss.length h (Nat.le_refl _)
  omega
theorem rows_some {w : World} {a : Option Addr} {zss : List (List Int)} (h : zss = [] ∨ ∃ b off, a = some ⟨b, off, none⟩ ∧ ∀ i, i < zss.length → ∃ u, w.cell? ⟨b, off + i, none⟩ = some u ∧ RowR w u (zss.getD i [])) {k : Nat} (hk : k < zss.length) :
    ∃ b off a' cap', a = some ⟨b, off, none⟩ ∧ w.cell? ⟨b, off + k, none⟩ = some (.slice a' (zss.getD k []).length cap') ∧ RowR w (.slice a' (zss.getD k []).length cap') (zss.getD k []) := by
  rcases h with h | ⟨b, off, h1, h2⟩
  · rw [h] at hk
    simp at hk
  · obtain ⟨u, h3, h4⟩ := h2 k hk
    have h5 := h4
    obtain ⟨a', cap', rfl, _⟩ := h5
    exact ⟨b, off, a', cap', h1, h3, h4⟩
theorem RowsR.disj {w : World} {a : Option Addr} {n cap : Nat} {zss : List (List Int)} (h : RowsR w (.slice a n cap) zss) : zss = [] ∨ ∃ b off, a = some ⟨b, off, none⟩ ∧ ∀ i, i < zss.length → ∃ u, w.cell? ⟨b, off + i, none⟩ = some u ∧ RowR w u (zss.getD i []) := by
  obtain ⟨a', cap', e, h⟩ := h
  injection e with e _ _
  subst e
  exact h
theorem RowR.disj {w : World} {a : Option Addr} {n cap : Nat} {zs : List Int} (h : RowR w (.slice a n cap) zs) : zs = [] ∨ ∃ b off, a = some ⟨b, off, none⟩ ∧ ∀ i, i < zs.length → w.cell? ⟨b, off + i, none⟩ = some (.int .i64 (zs.getD i 0)) := by
  obtain ⟨a', cap', e, h⟩ := h
  injection e with e _ _
  subst e
  exact h
/-- the first k rows are marked from m on -/
def mrL (zss : List (List Int)) (m : Int) (k : Nat) : List (List Int) := (List.range zss.length).map fun (i : Nat) => if i < k then markL (m + (pre zss i : Nat)) (zss.getD i []).length else zss.getD i []
theorem mrL_len (zss : List (List Int)) (m : Int) (k : Nat) : (mrL zss m k).length = zss.length := by simp [mrL]
theorem mrL_at (zss : List (List Int)) (m : Int) (k i : Nat) (h : i < zss.length) : (mrL zss m k).getD i [] = if i < k then markL (m + (pre zss i : Nat)) (zss.getD i []).length else zss.getD i [] := by
  simp [mrL, List.getD_eq_getElem?_getD, List.getElem?_range h]
theorem getD_ext2 {a b : List (List Int)} (hl : a.length = b.length) (h : ∀ i, i < a.length → a.getD i [] = b.getD i []) : a = b := by
  apply List.ext_getElem hl
  intro i h1 h2
  have := h i h1
  simpa [List.getD_eq_getElem?_getD, List.getElem?_eq_getElem h1, List.getElem?_eq_getElem h2] using this
theorem mrL_zero (zss : List (List Int)) (m : Int) : mrL zss m 0 = zss := getD_ext2 (mrL_len _ _ _) (fun i hi => by rw [mrL_len] at hi; rw [mrL_at _ _ _ _ hi, if_neg (by omega)])
theorem mrL_succ (zss : List (List Int)) (m : Int) (k : Nat) (hk : k < zss.length) : (mrL zss m k).set k (markL (m + (pre zss k : Nat)) (zss.getD k []).length) = mrL zss m (k + 1) := by
  refine getD_ext2 (by rw [List.length_set, mrL_len, mrL_len]) (fun i hi => ?_)
  rw [List.length_set, mrL_len] at hi
  rw [mrL_at _ _ _ _ hi, List.getD_eq_getElem?_getD]
  by_cases e : k = i
  · subst e
    rw [List.getElem?_set_self (by rw [mrL_len]; exact hi), if_pos (by omega)]
    rfl
  · rw [List.getElem?_set_ne e, ← List.getD_eq_getElem?_getD, mrL_at _ _ _ _ hi]
    by_cases h : i < k
    · rw [if_pos h, if_pos (by omega)]
    · rw [if_neg h, if_neg (by omega)]
/-- one row of a slice of rows, and what another content of it makes of the whole -/
theorem RowsO.at {w : World} {s : Nat} {G : Nat → Nat} {v : Value} {zss : List (List Int)} (h : RowsO w s G v zss) {k : Nat} (hk : k < zss.length) :
    ∃ cap u, v = .slice (some ⟨s, 0, none⟩) zss.length cap ∧ w.cell? ⟨s, k, none⟩ = some u ∧ RowO w (G k) u (zss.getD k []) ∧
      ∀ w' zs', RowO w' (G k) u zs' → w.grownBy w' (some (G k)) → (∀ i, i < zss.length → G i ≠ s) → (∀ i j, i < zss.length → j < zss.length → G i = G j → i = j) → RowsO w' s G v (zss.set k zs') := by
  obtain ⟨cap, c, t, V, hv, h1, h2, h3⟩ := h
  refine ⟨cap, V k, hv, by simp [World.cell?, h1, h2 k hk], h3 k hk, fun w' zs' hr hg hs hd => ?_⟩
  have hslt : s < w.heap.size := (Array.getElem?_eq_some_iff.1 h1).1
  refine ⟨cap, c, t, V, by rw [List.length_set]; exact hv, (hg.block s hslt (by simp; exact fun e => hs k hk e.symm)).trans h1, fun i hi => h2 i (by rw [List.length_set] at hi; exact hi), fun i hi => ?_⟩
  rw [List.length_set] at hi
  by_cases e : k = i
  · subst e
    rw [List.getD_eq_getElem?_getD, List.getElem?_set_self hk]
    exact hr
  · rw [List.getD_eq_getElem?_getD, List.getElem?_set_ne e, ← List.getD_eq_getElem?_getD]
    exact (h3 i hi).kept (hg.block _ (h3 i hi).lt (by simp; exact fun e2 => e (hd i k hi hk e2).symm))

end Go.Proofs.YtdfadiicjkenfabGreatDoor

/- What spec.l01In answers: whether a number lies between two others; the world stays as it was. -/
namespace Go.Proofs.YtdfadiicjkenfabGreatDoor
open Go.ChangeShapes Go.WideShapes Go.ChangeAt Go.RowKit
set_option linter.unusedVariables false

theorem in_spec (n a b : Int) (w : World) : Calls Tryz.prog 52 #[.int .i64 n, .int .i64 a, .int .i64 b] w fun e w' => e = .returned (.bool (inB n a b)) ∧ w' = w := by
  go_enter Tryz.func52, Tryz.ntmps52
  go_wp2
  all_goals go_ret
  all_goals exact ⟨ret_bool (by rw [Bool.eq_iff_iff]; simp [inB]; try omega), rfl⟩
end Go.Proofs.YtdfadiicjkenfabGreatDoor

/- A block that holds just these values. -/
namespace Go.Proofs.YtdfadiicjkenfabGreatDoor
open Go.ChangeShapes Go.WideShapes Go.ChangeAt Go.RowKit
set_option linter.unusedVariables false

/-- block b holds just these values, and is not frozen -/
def Blk (w : World) (b : Nat) (cs : Array Value) : Prop := ∃ t, w.heap[b]? = some (.cells cs t (0, 0))
theorem Blk.cell {w : World} {b : Nat} {cs : Array Value} (h : Blk w b cs) (i : Nat) : w.cell? ⟨b, i, none⟩ = cs[i]? := by
  obtain ⟨t, h⟩ := h
  simp [World.cell?, h]
theorem Blk.frozen {w : World} {b : Nat} {cs : Array Value} (h : Blk w b cs) (i : Nat) : w.frozen? ⟨b, i, none⟩ = false := by
  obtain ⟨t, h⟩ := h
  simp [World.frozen?, h]
theorem Blk.below {w w' : World} {b n : Nat} {cs : Array Value} (h : Blk w b cs) (hb : Below n w w') (hn : b < n) : Blk w' b cs := by
  obtain ⟨t, h⟩ := h
  exact ⟨t, (hb.block b hn).trans h⟩
theorem Blk.new (w : World) (cs : Array Value) (t : TypeId) : Blk (w.alloc (.cells cs t)) w.heap.size cs := ⟨t, heap_alloc_new w _⟩
theorem Blk.alloc {w : World} {b : Nat} {cs : Array Value} (h : Blk w b cs) (o : Obj) : Blk (w.alloc o) b cs := by
  obtain ⟨t, h⟩ := h
  exact ⟨t, (Below.heap_alloc w o b (Array.getElem?_eq_some_iff.1 h).1).trans h⟩
theorem Blk.set {w : World} {b : Nat} {cs : Array Value} (h : Blk w b cs) (i : Nat) (u : Value) : Blk (w.setCell ⟨b, i, none⟩ u) b (cs.setIfInBounds i u) := by
  obtain ⟨t, h⟩ := h
  exact ⟨t, heap_setCell_same' _ _ _ _ _ _ h⟩
theorem Blk.other {w : World} {b : Nat} {cs : Array Value} (h : Blk w b cs) {p : Addr} (hp : b ≠ p.block) (u : Value) : Blk (w.setCell p u) b cs := by
  obtain ⟨t, h⟩ := h
  exact ⟨t, (Below.heap_setCell _ _ _ _ hp).trans h⟩
theorem sizeSet (w : World) (p : Addr) (u : Value) : (w.setCell p u).heap.size = w.heap.size := by simp [World.setCell]
theorem Blk.grown {w w' : World} {b : Nat} {cs : Array Value} {row : Option Nat} (h : Blk w b cs) (hg : w.grownBy w' row) (hne : some b ≠ row) : Blk w' b cs := by
  obtain ⟨t, h⟩ := h
  exact ⟨t, (hg.block b (Array.getElem?_eq_some_iff.1 h).1 hne).trans h⟩
theorem Blk.lt {w : World} {b : Nat} {cs : Array Value} (h : Blk w b cs) : b < w.heap.size := by
  obtain ⟨t, h⟩ := h
  exact (Array.getElem?_eq_some_iff.1 h).1
end Go.Proofs.YtdfadiicjkenfabGreatDoor

/- What the specification says of a memory that is right, and of what is asked of one. -/
namespace Go.Proofs.YtdfadiicjkenfabGreatDoor
open Go.ChangeShapes Go.WideShapes Go.ChangeAt Go.RowKit
set_option linter.unusedVariables false

/-- so many bytes -/
def bytesB (zs : List Int) (n : Nat) : Bool := zs.all (fun z => inB z 0 255) && decide (zs.length = n)
/-- a memory that is right -/
def okM (M : Mem) : Bool := bytesB M.rom 64 && decide (M.ram.length = 4) && inB M.page 0 3 && (decide (M.screen = 1) || decide (M.screen = 3)) && M.ram.all (fun r => bytesB r 64)
theorem bytes_no {zs : List Int} {k n : Nat} (hk : k < zs.length) (h : inB (zs.getD k 0) 0 255 = false) : bytesB zs n = false := by
  unfold bytesB
  rw [Bool.and_eq_false_iff]
  left
  rw [List.all_eq_false]
  refine ⟨zs[k], List.getElem_mem hk, ?_⟩
  rw [List.getD_eq_getElem?_getD, List.getElem?_eq_getElem hk] at h
  simpa using h
theorem bytes_all {zs : List Int} {n : Nat} (h : ∀ i, i < zs.length → inB (zs.getD i 0) 0 255 = true) : bytesB zs n = decide (zs.length = n) := by
  unfold bytesB
  have : zs.all (fun z => inB z 0 255) = true := by
    rw [List.all_eq_true]
    intro z hz
    obtain ⟨i, hi, rfl⟩ := List.mem_iff_getElem.1 hz
    have := h i hi
    simpa [List.getD_eq_getElem?_getD, List.getElem?_eq_getElem hi] using this
  rw [this, Bool.true_and]
theorem bytes_len {zs : List Int} {n : Nat} (h : bytesB zs n = true) : zs.length = n := by
  unfold bytesB at h
  simp at h
  exact h.2
theorem bytes_at {zs : List Int} {n i : Nat} (h : bytesB zs n = true) (hi : i < zs.length) : inB (zs.getD i 0) 0 255 = true := by
  cases e : inB (zs.getD i 0) 0 255
  · rw [bytes_no hi e] at h
    cases h
  · rfl
theorem bytes_bd {zs : List Int} {n i : Nat} (h : bytesB zs n = true) (hi : i < zs.length) : 0 ≤ zs.getD i 0 ∧ zs.getD i 0 ≤ 255 := by
  have := bytes_at h hi
  simpa [inB] using this
theorem ok_parts {M : Mem} (h : okM M = true) : bytesB M.rom 64 = true ∧ M.ram.length = 4 ∧ (0 ≤ M.page ∧ M.page ≤ 3) ∧ (M.screen = 1 ∨ M.screen = 3) ∧ ∀ i, i < M.ram.length → bytesB (M.ram.getD i []) 64 = true := by
  unfold okM at h
  simp only [Bool.and_eq_true, Bool.or_eq_true, decide_eq_true_eq] at h
  obtain ⟨⟨⟨⟨h1, h2⟩, h3⟩, h4⟩, h5⟩ := h
  refine ⟨h1, h2, by simpa [inB] using h3, h4, fun i hi => ?_⟩
  rw [List.all_eq_true] at h5
  have := h5 _ (List.getElem_mem hi)
  simpa [List.getD_eq_getElem?_getD, List.getElem?_eq_getElem hi] using this
theorem ram_no {M : Mem} {k : Nat} (hk : k < M.ram.length) (h : bytesB (M.ram.getD k []) 64 = false) : okM M = false := by
  cases e : okM M
  · rfl
  · have := (ok_parts e).2.2.2.2 k hk
    rw [h] at this
    cases this
theorem ok_all {M : Mem} (h1 : bytesB M.rom 64 = true) (h2 : M.ram.length = 4) (h3 : inB M.page 0 3 = true) (h4 : M.screen = 1 ∨ M.screen = 3) (h5 : ∀ i, i < 4 → bytesB (M.ram.getD i []) 64 = true) : okM M = true := by
  unfold okM
  simp only [Bool.and_eq_true, Bool.or_eq_true, decide_eq_true_eq]
  refine ⟨⟨⟨⟨h1, h2⟩, h3⟩, h4⟩, ?_⟩
  rw [List.all_eq_true]
  intro z hz
  obtain ⟨i, hi, rfl⟩ := List.mem_iff_getElem.1 hz
  have := h5 i (by omega)
  simpa [List.getD_eq_getElem?_getD, List.getElem?_eq_getElem hi] using this
theorem okM_false {M : Mem} (h : bytesB M.rom 64 = false ∨ ¬ M.ram.length = 4 ∨ inB M.page 0 3 = false ∨ ¬ (M.screen = 1 ∨ M.screen = 3)) : okM M = false := by
  cases e : okM M
  · rfl
  · obtain ⟨h1, h2, h3, h4, _⟩ := ok_parts e
    rcases h with h | h | h | h
    · rw [h1] at h; cases h
    · exact absurd h2 h
    · rw [in_yes h3.1 h3.2] at h; cases h
    · exact absurd h4 h
theorem MemR.form {w : World} {v : Value} {M : Mem} (h : MemR w v M) : ∃ a1 p1 a2 p2, v = memV (.slice a1 M.rom.length p1) (.slice a2 M.ram.length p2) M.page M.screen M.locked ∧ RowR w (.slice a1 M.rom.length p1) M.rom ∧ RowsR w (.slice a2 M.ram.length p2) M.ram := by
  obtain ⟨vr, vm, rfl, h1, h2⟩ := h
  obtain ⟨a1, p1, rfl, _⟩ := id h1
  obtain ⟨a2, p2, rfl, _⟩ := id h2
  exact ⟨a1, p1, a2, p2, rfl, h1, h2⟩

theorem byteM_spec (v : Int) (w : World) : Calls Tryz.prog 26 #[.int .i64 v] w fun e w' => e = .returned (.bool (inB v 0 255)) ∧ w' = w := by
  go_enter Tryz.func26, Tryz.ntmps26
  go_wp2_with (go_at_call 52; refine (in_spec _ _ _ _).mono ?_; rintro e w' ⟨rfl, rfl⟩)
  go_ret
  exact ⟨rfl, rfl⟩
set_option maxRecDepth 100000 in
theorem bytes_spec (v : Value) (zs : List Int) (n : Nat) (w : World) (h : RowR w v zs) (hl : zs.length ≤ 1000000000) (hn : n ≤ 1000000000) :
    Calls Tryz.prog 109 #[v, .int .i64 n] w fun e w' => e = .returned (.bool (bytesB zs n)) ∧ w' = w := by
  obtain ⟨a, cap, rfl, h⟩ := h
  replace h := hid h
  have hno : Hid (∀ k, k < zs.length → inB (zs.getD k 0) 0 255 = false → bytesB zs n = false) := fun k hk => bytes_no hk
  have hall : Hid ((∀ i, i < zs.length → inB (zs.getD i 0) 0 255 = true) → bytesB zs n = decide (zs.length = n)) := bytes_all
  go_enter Tryz.func109, Tryz.ntmps109
  go_wp2
  go_loop [5] (fun i => ∃ k : Nat, k ≤ zs.length ∧ i = .int .i64 k ∧ ∀ j, j < k → inB (zs.getD j 0) 0 255 = true) (fun i => zs.length - (intOf i).toNat)
  case atStart => exact ⟨0, by omega, rfl, fun j hj => by omega⟩
  case round =>
    obtain ⟨k, hk, rfl, hj⟩ := hrel
    by_cases hlt : k < zs.length
    · obtain ⟨b, off, rfl, c1⟩ := row_some h.out hlt
      cases hb : inB (zs.getD k 0) 0 255
      · have hE := hid (hno.out k hlt hb)
        clear h hj hno hall
        generalize zs.getD k 0 = z at *
        go_wp2_with (go_at_call 26; refine (byteM_spec _ _).mono ?_; rintro e w' ⟨rfl, rfl⟩; rw [hb])
        go_ret
        exact ⟨ret_bool hE.out.symm, rfl⟩
      · have hj2 : Hid (∀ j, j < k + 1 → inB (zs.getD j 0) 0 255 = true) := fun j hj1 => by
          by_cases e : j = k
          · rw [e]; exact hb
          · exact hj j (by omega)
        clear h hj hno hall
        generalize zs.getD k 0 = z at *
        go_wp2_with (go_at_call 26; refine (byteM_spec _ _).mono ?_; rintro e w' ⟨rfl, rfl⟩; rw [hb])
        go_round
        case rel => exact ⟨k + 1, by omega, by go_num, hj2.out⟩
        case measure => simp [intOf]; omega
    · obtain rfl : k = zs.length := by omega
      have hE := hid (hall.out hj)
      clear hj h hno hall
      go_wp2
      go_ret
      exact ⟨ret_bool (by rw [hE.out, Bool.eq_iff_iff]; simp; omega), rfl⟩
set_option maxRecDepth 100000 in
theorem ok_spec (v : Value) (M : Mem) (w : World) (h : MemR w v M) (hl : M.rom.length ≤ 1000000000) (hm : M.ram.length ≤ 1000000000) (hr : ∀ i, i < M.ram.length → (M.ram.getD i []).length ≤ 1000000000) :
    Calls Tryz.prog 51 #[v] w fun e w' => e = .returned (.bool (okM M)) ∧ Below w.heap.size w w' := by
  obtain ⟨a1, p1, a2, p2, rfl, h1, h2⟩ := h.form
  have hB : Hid (∀ o, Below w.heap.size w (w.alloc o)) := fun o => (Below.refl _ _).alloc (Nat.le_refl _) _
  have k1 : Hid (∀ o, RowR (w.alloc o) (.slice a1 M.rom.length p1) M.rom) := fun o => h1.below (hB.out o)
  have k2 : Hid (RowsR w (.slice a2 M.ram.length p2) M.ram) := h2
  replace hr := hid hr
  clear h h1 h2
  cases hb1 : bytesB M.rom 64
  · rw [okM_false (.inl hb1)]
    go_enter Tryz.func51, Tryz.ntmps51
    go_wp2_with (go_at_call 109; refine (bytes_spec _ M.rom 64 _ (k1.out _) hl (by omega)).mono ?_; rintro e w' ⟨rfl, rfl⟩; rw [hb1])
    go_ret
    exact ⟨rfl, hB.out _⟩
  · by_cases h4 : M.ram.length = 4
    · cases hp : inB M.page 0 3
      · rw [okM_false (.inr (.inr (.inl hp)))]
        have h4' : ((M.ram.length : Int) != 4) = false := by simp; omega
        clear h4
        go_enter Tryz.func51, Tryz.ntmps51
        go_wp2_with (first | (go_at_call 109; refine (bytes_spec _ M.rom 64 _ (k1.out _) hl (by omega)).mono ?_; rintro e w' ⟨rfl, rfl⟩; rw [hb1]) | (go_at_call 52; refine (in_spec _ _ _ _).mono ?_; rintro e w' ⟨rfl, rfl⟩; rw [hp]))
        go_ret
        exact ⟨rfl, hB.out _⟩
      · by_cases hs : M.screen = 1 ∨ M.screen = 3
        · have h4' : ((M.ram.length : Int) != 4) = false := by simp; omega
          have hno : Hid (∀ k, k < 4 → bytesB (M.ram.getD k []) 64 = false → okM M = false) := fun k hk => ram_no (by omega)
          have hall : Hid ((∀ i, i < 4 → bytesB (M.ram.getD i []) 64 = true) → okM M = true) := ok_all hb1 h4 hp hs
          have hs1 : ((M.screen != 1) && (M.screen != 3)) = false := by
            rcases hs with hs | hs <;> simp [hs]
          have hs2 : M.screen = 1 ∨ (M.screen != 1) = true ∧ (M.screen != 3) = false := by
            rcases hs with hs | hs
            · exact .inl hs
            · exact .inr (by simp [hs])
          have h4n := hid h4
          clear h4 hs hs1
          generalize M.screen = sc at *
          rcases hs2 with rfl | ⟨hs3, hs4⟩
          all_goals
            go_enter Tryz.func51, Tryz.ntmps51
            go_wp2_with (first | (go_at_call 109; refine (bytes_spec _ M.rom 64 _ (k1.out _) hl (by omega)).mono ?_; rintro e w' ⟨rfl, rfl⟩; rw [hb1]) | (go_at_call 52; refine (in_spec _ _ _ _).mono ?_; rintro e w' ⟨rfl, rfl⟩; rw [hp]))
            go_loop [3] (fun i => ∃ k : Nat, k ≤ 4 ∧ i = .int .i64 k ∧ ∀ j, j < k → bytesB (M.ram.getD j []) 64 = true) (fun i => 4 - (intOf i).toNat)
            case atStart => exact ⟨0, by omega, rfl, fun j hj => by omega⟩
            case round =>
              obtain ⟨k, hk, rfl, hj⟩ := hrel
              by_cases hlt : k < 4
              · have hh := k2.out.disj
                obtain ⟨b, off, a3, p3, rfl, c1, r1⟩ := rows_some hh (k := k) (by have := h4n.out; omega)
                have hbl := World.block_lt_of_cell? w _ c1
                dsimp only at hbl
                have hrl := hr.out k (by have := h4n.out; omega)
                have hlt2 : k < M.ram.length := by have := h4n.out; omega
                replace r1 := hid r1
                cases hb : bytesB (M.ram.getD k []) 64
                · have hE := hid (hno.out k hlt hb)
                  clear hj hno hall hh
                  generalize M.ram.getD k [] = z at *
                  go_wp2_with (go_at_call 109; refine (bytes_spec _ z 64 _ (r1.out.below (hB.out _)) hrl (by omega)).mono ?_; rintro e w' ⟨rfl, rfl⟩; rw [hb])
                  go_ret
                  exact ⟨ret_bool hE.out.symm, hB.out _⟩
                · have hj2 : Hid (∀ j, j < k + 1 → bytesB (M.ram.getD j []) 64 = true) := fun j hj1 => by
                    by_cases e : j = k
                    · rw [e]; exact hb
                    · exact hj j (by omega)
                  clear hj hno hall hh
                  generalize M.ram.getD k [] = z at *
                  go_wp2_with (go_at_call 109; refine (bytes_spec _ z 64 _ (r1.out.below (hB.out _)) hrl (by omega)).mono ?_; rintro e w' ⟨rfl, rfl⟩; rw [hb])
                  go_round
                  case rel => exact ⟨k + 1, by omega, by go_num, hj2.out⟩
                  case measure => simp [intOf]; omega
              · obtain rfl : k = 4 := by omega
                have hE := hid (hall.out hj)
                clear hj hno hall
                go_wp2
                go_ret
                exact ⟨ret_bool hE.out.symm, hB.out _⟩
        · rw [okM_false (.inr (.inr (.inr hs)))]
          have h4' : ((M.ram.length : Int) != 4) = false := by simp; omega
          have hs1 : (M.screen != 1) = true := by simp; exact fun e => hs (.inl e)
          have hs2 : (M.screen != 3) = true := by simp; exact fun e => hs (.inr e)
          clear h4 hs
          go_enter Tryz.func51, Tryz.ntmps51
          go_wp2_with (first | (go_at_call 109; refine (bytes_spec _ M.rom 64 _ (k1.out _) hl (by omega)).mono ?_; rintro e w' ⟨rfl, rfl⟩; rw [hb1]) | (go_at_call 52; refine (in_spec _ _ _ _).mono ?_; rintro e w' ⟨rfl, rfl⟩; rw [hp]))
          go_ret
          exact ⟨rfl, hB.out _⟩
    · rw [okM_false (.inr (.inl h4))]
      have h4' : ((M.ram.length : Int) != 4) = true := by simp; omega
      clear h4
      go_enter Tryz.func51, Tryz.ntmps51
      go_wp2_with (go_at_call 109; refine (bytes_spec _ M.rom 64 _ (k1.out _) hl (by omega)).mono ?_; rintro e w' ⟨rfl, rfl⟩; rw [hb1])
      go_ret
      exact ⟨rfl, hB.out _⟩
end Go.Proofs.YtdfadiicjkenfabGreatDoor
