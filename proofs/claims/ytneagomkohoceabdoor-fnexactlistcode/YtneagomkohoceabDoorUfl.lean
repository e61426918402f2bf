/- Lists of blocks, and their text: the specification. -/
import Derived.Test.YtneagomkohoceabDoorL42
namespace Go.Proofs.YtneagomkohoceabDoor
open Go.ChangeShapes Go.WideShapes Go.ChangeAt Go.RowKit
set_option linter.unusedVariables false
set_option linter.unusedSimpArgs false

abbrev bkz : Int × ByteArray := (0, ⟨#[]⟩)
/-- a list of blocks, read wherever it lies -/
def BkR (W : World) (a : Option Addr) (l : List (Int × ByteArray)) : Prop :=
  l = [] ∨ ∃ g o, a = some ⟨g, o, none⟩ ∧ ∀ k, k < l.length → W.cell? ⟨g, o + k * 2, none⟩ = some (.int .i64 (l.getD k bkz).1) ∧ W.cell? ⟨g, o + k * 2 + 1, none⟩ = some (.string (l.getD k bkz).2)
theorem cell_keptU {W W' : World} {b i : Nat} {v : Value} (hb : Below W.heap.size W W') (h : W.cell? ⟨b, i, none⟩ = some v) : W'.cell? ⟨b, i, none⟩ = some v := by
  rw [hb.cell (p := ⟨b, i, none⟩) (World.block_lt_of_cell? W _ h)]
  exact h
theorem BkR.below {W W' : World} {a : Option Addr} {l : List (Int × ByteArray)} (h : BkR W a l) (hb : Below W.heap.size W W') : BkR W' a l := by
  rcases h with h | ⟨g, o, ha, h⟩
  · exact .inl h
  · exact .inr ⟨g, o, ha, fun k hk => ⟨cell_keptU hb (h k hk).1, cell_keptU hb (h k hk).2⟩⟩
theorem BkR.at {W : World} {a : Option Addr} {l : List (Int × ByteArray)} (h : BkR W a l) {k : Nat} (hk : k < l.length) : ∃ g o, a = some ⟨g, o, none⟩ ∧ W.cell? ⟨g, o + k * 2, none⟩ = some (.int .i64 (l.getD k bkz).1) ∧ W.cell? ⟨g, o + k * 2 + 1, none⟩ = some (.string (l.getD k bkz).2) := by
  rcases h with rfl | ⟨g, o, ha, h⟩
  · exact absurd hk (by simp)
  · exact ⟨g, o, ha, h k hk⟩
def allL (l : List (Int × ByteArray)) : Bool := l.all (fun x => okB x.1 x.2) && decide (l.length ≤ 6)
def tapN (l : List (Int × ByteArray)) : Nat → ByteArray
  | 0 => ByteArray.empty
  | k + 1 => tapN l k ++ txtB (l.getD k bkz).1 (l.getD k bkz).2
def tap2 (l : List (Int × ByteArray)) : ByteArray × Int := if 4096 < l.length then (ByteArray.empty, 2) else if allL l = true then (tapN l l.length, 0) else (ByteArray.empty, 1)
theorem getD_mem {l : List (Int × ByteArray)} {k : Nat} (h : k < l.length) : l.getD k bkz ∈ l := by
  rw [List.getD_eq_getElem?_getD, List.getElem?_eq_getElem h]
  exact List.getElem_mem h
theorem allL_no {l : List (Int × ByteArray)} {k : Nat} (hk : k < l.length) (h : okB (l.getD k bkz).1 (l.getD k bkz).2 = false) : allL l = false := by
  have : l.all (fun x => okB x.1 x.2) = false := by
    rw [List.all_eq_false]
    exact ⟨_, getD_mem hk, by show ¬ okB (l.getD k bkz).1 (l.getD k bkz).2 = true; rw [h]; decide⟩
  simp [allL, this]
theorem allL_yes {l : List (Int × ByteArray)} (h : ∀ k, k < l.length → okB (l.getD k bkz).1 (l.getD k bkz).2 = true) : allL l = decide (l.length ≤ 6) := by
  have : l.all (fun x => okB x.1 x.2) = true := by
    rw [List.all_eq_true]
    intro x hx
    obtain ⟨k, hk, rfl⟩ := List.getElem_of_mem hx
    have := h k hk
    rw [List.getD_eq_getElem?_getD, List.getElem?_eq_getElem hk] at this
    exact this
  simp [allL, this]
theorem allL_at {l : List (Int × ByteArray)} (h : allL l = true) {k : Nat} (hk : k < l.length) : okB (l.getD k bkz).1 (l.getD k bkz).2 = true := by
  cases hb : okB (l.getD k bkz).1 (l.getD k bkz).2
  · rw [allL_no hk hb] at h
    cases h
  · rfl
theorem allL_len {l : List (Int × ByteArray)} (h : allL l = true) : l.length ≤ 6 := by
  rw [allL_yes (fun k hk => allL_at h hk)] at h
  simpa using h
theorem tapN_size {l : List (Int × ByteArray)} (h : allL l = true) : ∀ k, k ≤ l.length → (tapN l k).size ≤ 44 * k := by
  intro k
  induction k with
  | zero => intro _; exact Nat.le_refl _
  | succ k ih =>
    intro hk
    have h1 := ih (by omega)
    have h2 := ((okB_iff _ _).1 (allL_at h (show k < l.length by omega))).2
    show (tapN l k ++ txtB (l.getD k bkz).1 (l.getD k bkz).2).size ≤ _
    rw [ByteArray.size_append, txtB_size]
    omega
end Go.Proofs.YtneagomkohoceabDoor
