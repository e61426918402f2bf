/- What the exact laws' helpers over rows of rows and over memories answer. -/
import Derived.Test.YtneagomkohoceaaDoorC11
import Derived.Deep.QuietTactic
import Derived.Test.YtneagomkohoceaaDoorC02
import Derived.Test.YtneagomkohoceaaDoorC03
namespace Go.Proofs.YtneagomkohoceaaDoor
open Go.ChangeShapes Go.WideShapes Go.ChangeAt Go.RowKit
set_option linter.unusedVariables false

theorem RowsR.drewN {w : World} {v : Value} {zss : List (List Int)} (h : RowsR w v zss) (n : Nat) : RowsR (w.drewN n) v zss := h
/-- how many numbers the first i rows have -/
def pre (zss : List (List Int)) (i : Nat) : Nat := ((zss.take i).map List.length).sum
theorem pre_succ (zss : List (List Int)) (i : Nat) (h : i < zss.length) : pre zss (i + 1) = pre zss i + (zss.getD i []).length := by
  have e : zss.take (i + 1) = zss.take i ++ [zss[i]] := List.take_succ_eq_append_getElem h
  unfold pre
  rw [e, List.map_append, List.sum_append, List.getD_eq_getElem?_getD, List.getElem?_eq_getElem h]
  simp
theorem pre_zero (zss : List (List Int)) : pre zss 0 = 0 := rfl
theorem pre_mono (zss : List (List Int)) (i j : Nat) (h : i ≤ j) (hj : j ≤ zss.length) : pre zss i ≤ pre zss j := by
  induction j with
  | zero =>
    obtain rfl : i = 0 := by omega
    exact Nat.le_refl _
  | succ j ih =>
    by_cases e : i = j + 1
    · rw [e]
      exact Nat.le_refl _
    · rw [pre_succ zss j (by omega)]
      have := ih (by omega) (by omega)
      omega
theorem row_le_pre (zss : List (List Int)) (i : Nat) (h : i < zss.length) : (zss.getD i []).length ≤ pre zss zss.length := by
  have h1 := pre_succ zss i h
  have h2 := pre_mono zss (i + 1) zss.length h (Nat.le_refl _)
  omega
theorem rows_some {w : World} {a : Option Addr} {zss : List (List Int)} (h : zss = [] ∨ ∃ b off, a = some ⟨b, off, none⟩ ∧ ∀ i, i < zss.length → ∃ u, w.cell? ⟨b, off + i, none⟩ = some u ∧ RowR w u (zss.getD i [])) {k : Nat} (hk : k < zss.length) :
    ∃ b off a' cap', a = some ⟨b, off, none⟩ ∧ w.cell? ⟨b, off + k, none⟩ = some (.slice a' (zss.getD k []).length cap') ∧ RowR w (.slice a' (zss.getD k []).length cap') (zss.getD k []) := by
  rcases h with h | ⟨b, off, h1, h2⟩
  · rw [h] at hk
    simp at hk
  · obtain ⟨u, h3, h4⟩ := h2 k hk
    have h5 := h4
    obtain ⟨a', cap', rfl, _⟩ := h5
    exact ⟨b, off, a', cap', h1, h3, h4⟩
theorem RowsR.disj {w : World} {a : Option Addr} {n cap : Nat} {zss : List (List Int)} (h : RowsR w (.slice a n cap) zss) : zss = [] ∨ ∃ b off, a = some ⟨b, off, none⟩ ∧ ∀ i, i < zss.length → ∃ u, w.cell? ⟨b, off + i, none⟩ = some u ∧ RowR w u (zss.getD i []) := by
  obtain ⟨a', cap', e, h⟩ := h
  injection e with e _ _
  subst e
  exact h
theorem RowR.disj {w : World} {a : Option Addr} {n cap : Nat} {zs : List Int} (h : RowR w (.slice a n cap) zs) : zs = [] ∨ ∃ b off, a = some ⟨b, off, none⟩ ∧ ∀ i, i < zs.length → w.cell? ⟨b, off + i, none⟩ = some (.int .i64 (zs.getD i 0)) := by
  obtain ⟨a', cap', e, h⟩ := h
  injection e with e _ _
  subst e
  exact h
/-- the first k rows are marked from m on -/
def mrL (zss : List (List Int)) (m : Int) (k : Nat) : List (List Int) := (List.range zss.length).map fun (i : Nat) => if i < k then markL (m + (pre zss i : Nat)) (zss.getD i []).length else zss.getD i []
theorem mrL_len (zss : List (List Int)) (m : Int) (k : Nat) : (mrL zss m k).length = zss.length := by simp [mrL]
theorem mrL_at (zss : List (List Int)) (m : Int) (k i : Nat) (h : i < zss.length) : (mrL zss m k).getD i [] = if i < k then markL (m + (pre zss i : Nat)) (zss.getD i []).length else zss.getD i [] := by
  simp [mrL, List.getD_eq_getElem?_getD, List.getElem?_range h]
theorem getD_ext2 {a b : List (List Int)} (hl : a.length = b.length) (h : ∀ i, i < a.length → a.getD i [] = b.getD i []) : a = b := by
  apply List.ext_getElem hl
  intro i h1 h2
  have := h i h1
  simpa [List.getD_eq_getElem?_getD, List.getElem?_eq_getElem h1, List.getElem?_eq_getElem h2] using this
theorem mrL_zero (zss : List (List Int)) (m : Int) : mrL zss m 0 = zss := getD_ext2 (mrL_len _ _ _) (fun i hi => by rw [mrL_len] at hi; rw [mrL_at _ _ _ _ hi, if_neg (by omega)])
theorem mrL_succ (zss : List (List Int)) (m : Int) (k : Nat) (hk : k < zss.length) : (mrL zss m k).set k (markL (m + (pre zss k : Nat)) (zss.getD k []).length) = mrL zss m (k + 1) := by
  refine getD_ext2 (by rw [List.length_set, mrL_len, mrL_len]) (fun i hi => ?_)
  rw [List.length_set, mrL_len] at hi
  rw [mrL_at _ _ _ _ hi, List.getD_eq_getElem?_getD]
  by_cases e : k = i
  · subst e
    rw [List.getElem?_set_self (by rw [mrL_len]; exact hi), if_pos (by omega)]
    rfl
  · rw [List.getElem?_set_ne e, ← List.getD_eq_getElem?_getD, mrL_at _ _ _ _ hi]
    by_cases h : i < k
    · rw [if_pos h, if_pos (by omega)]
    · rw [if_neg h, if_neg (by omega)]
/-- one row of a slice of rows, and what another content of it makes of the whole -/
theorem RowsO.at {w : World} {s : Nat} {G : Nat → Nat} {v : Value} {zss : List (List Int)} (h : RowsO w s G v zss) {k : Nat} (hk : k < zss.length) :
    ∃ cap u, v = .slice (some ⟨s, 0, none⟩) zss.length cap ∧ w.cell? ⟨s, k, none⟩ = some u ∧ RowO w (G k) u (zss.getD k []) ∧
      ∀ w' zs', RowO w' (G k) u zs' → w.grownBy w' (some (G k)) → (∀ i, i < zss.length → G i ≠ s) → (∀ i j, i < zss.length → j < zss.length → G i = G j → i = j) → RowsO w' s G v (zss.set k zs') := by
  obtain ⟨cap, c, t, V, hv, h1, h2, h3⟩ := h
  refine ⟨cap, V k, hv, by simp [World.cell?, h1, h2 k hk], h3 k hk, fun w' zs' hr hg hs hd => ?_⟩
  have hslt : s < w.heap.size := (Array.getElem?_eq_some_iff.1 h1).1
  refine ⟨cap, c, t, V, by rw [List.length_set]; exact hv, (hg.block s hslt (by simp; exact fun e => hs k hk e.symm)).trans h1, fun i hi => h2 i (by rw [List.length_set] at hi; exact hi), fun i hi => ?_⟩
  rw [List.length_set] at hi
  by_cases e : k = i
  · subst e
    rw [List.getD_eq_getElem?_getD, List.getElem?_set_self hk]
    exact hr
  · rw [List.getD_eq_getElem?_getD, List.getElem?_set_ne e, ← List.getD_eq_getElem?_getD]
    exact (h3 i hi).kept (hg.block _ (h3 i hi).lt (by simp; exact fun e2 => e (hd i k hi hk e2).symm))

end Go.Proofs.YtneagomkohoceaaDoor

/- What the specification says of a memory that is right, and of what is asked of one. -/
namespace Go.Proofs.YtneagomkohoceaaDoor
open Go.ChangeShapes Go.WideShapes Go.ChangeAt Go.RowKit
set_option linter.unusedVariables false

/-- so many bytes -/
def bytesB (zs : List Int) (n : Nat) : Bool := zs.all (fun z => inB z 0 255) && decide (zs.length = n)
/-- a memory that is right -/
def okM (M : Mem) : Bool := bytesB M.rom 64 && decide (M.ram.length = 4) && inB M.page 0 3 && (decide (M.screen = 1) || decide (M.screen = 3)) && M.ram.all (fun r => bytesB r 64)
theorem bytes_no {zs : List Int} {k n : Nat} (hk : k < zs.length) (h : inB (zs.getD k 0) 0 255 = false) : bytesB zs n = false := by
  unfold bytesB
  rw [Bool.and_eq_false_iff]
  left
  rw [List.all_eq_false]
  refine ⟨zs[k], List.getElem_mem hk, ?_⟩
  rw [List.getD_eq_getElem?_getD, List.getElem?_eq_getElem hk] at h
  simpa using h
theorem bytes_all {zs : List Int} {n : Nat} (h : ∀ i, i < zs.length → inB (zs.getD i 0) 0 255 = true) : bytesB zs n = decide (zs.length = n) := by
  unfold bytesB
  have : zs.all (fun z => inB z 0 255) = true := by
    rw [List.all_eq_true]
    intro z hz
    obtain ⟨i, hi, rfl⟩ := List.mem_iff_getElem.1 hz
    have := h i hi
    simpa [List.getD_eq_getElem?_getD, List.getElem?_eq_getElem hi] using this
  rw [this, Bool.true_and]
theorem bytes_len {zs : List Int} {n : Nat} (h : bytesB zs n = true) : zs.length = n := by
  unfold bytesB at h
  simp at h
  exact h.2
theorem bytes_at {zs : List Int} {n i : Nat} (h : bytesB zs n = true) (hi : i < zs.length) : inB (zs.getD i 0) 0 255 = true := by
  cases e : inB (zs.getD i 0) 0 255
  · rw [bytes_no hi e] at h
    cases h
  · rfl
theorem bytes_bd {zs : List Int} {n i : Nat} (h : bytesB zs n = true) (hi : i < zs.length) : 0 ≤ zs.getD i 0 ∧ zs.getD i 0 ≤ 255 := by
  have := bytes_at h hi
  simpa [inB] using this
theorem ok_parts {M : Mem} (h : okM M = true) : bytesB M.rom 64 = true ∧ M.ram.length = 4 ∧ (0 ≤ M.page ∧ M.page ≤ 3) ∧ (M.screen = 1 ∨ M.screen = 3) ∧ ∀ i, i < M.ram.length → bytesB (M.ram.getD i []) 64 = true := by
  unfold okM at h
  simp only [Bool.and_eq_true, Bool.or_eq_true, decide_eq_true_eq] at h
  obtain ⟨⟨⟨⟨h1, h2⟩, h3⟩, h4⟩, h5⟩ := h
  refine ⟨h1, h2, by simpa [inB] using h3, h4, fun i hi => ?_⟩
  rw [List.all_eq_true] at h5
  have := h5 _ (List.getElem_mem hi)
  simpa [List.getD_eq_getElem?_getD, List.getElem?_eq_getElem hi] using this
theorem ram_no {M : Mem} {k : Nat} (hk : k < M.ram.length) (h : bytesB (M.ram.getD k []) 64 = false) : okM M = false := by
  cases e : okM M
  · rfl
  · have := (ok_parts e).2.2.2.2 k hk
    rw [h] at this
    cases this
theorem ok_all {M : Mem} (h1 : bytesB M.rom 64 = true) (h2 : M.ram.length = 4) (h3 : inB M.page 0 3 = true) (h4 : M.screen = 1 ∨ M.screen = 3) (h5 : ∀ i, i < 4 → bytesB (M.ram.getD i []) 64 = true) : okM M = true := by
  unfold okM
  simp only [Bool.and_eq_true, Bool.or_eq_true, decide_eq_true_eq]
  refine ⟨⟨⟨⟨h1, h2⟩, h3⟩, h4⟩, ?_⟩
  rw [List.all_eq_true]
  intro z hz
  obtain ⟨i, hi, rfl⟩ := List.mem_iff_getElem.1 hz
  have := h5 i (by omega)
  simpa [List.getD_eq_getElem?_getD, List.getElem?_eq_getElem hi] using this
theorem okM_false {M : Mem} (h : bytesB M.rom 64 = false ∨ ¬ M.ram.length = 4 ∨ inB M.page 0 3 = false ∨ ¬ (M.screen = 1 ∨ M.screen = 3)) : okM M = false := by
  cases e : okM M
  · rfl
  · obtain ⟨h1, h2, h3, h4, _⟩ := ok_parts e
    rcases h with h | h | h | h
    · rw [h1] at h; cases h
    · exact absurd h2 h
    · rw [in_yes h3.1 h3.2] at h; cases h
    · exact absurd h4 h
theorem MemR.form {w : World} {v : Value} {M : Mem} (h : MemR w v M) : ∃ a1 p1 a2 p2, v = memV (.slice a1 M.rom.length p1) (.slice a2 M.ram.length p2) M.page M.screen M.locked ∧ RowR w (.slice a1 M.rom.length p1) M.rom ∧ RowsR w (.slice a2 M.ram.length p2) M.ram := by
  obtain ⟨vr, vm, rfl, h1, h2⟩ := h
  obtain ⟨a1, p1, rfl, _⟩ := id h1
  obtain ⟨a2, p2, rfl, _⟩ := id h2
  exact ⟨a1, p1, a2, p2, rfl, h1, h2⟩

theorem byteM_spec (v : Int) (w : World) : Calls Tryd.prog 76 #[.int .i64 v] w fun e w' => e = .returned (.bool (inB v 0 255)) ∧ w' = w := by
  go_enter Tryd.func76, Tryd.ntmps76
  go_wp2_with (go_at_call 58; refine (in_spec _ _ _ _).mono ?_; rintro e w' ⟨rfl, rfl⟩)
  go_ret
  exact ⟨rfl, rfl⟩
end Go.Proofs.YtneagomkohoceaaDoor
