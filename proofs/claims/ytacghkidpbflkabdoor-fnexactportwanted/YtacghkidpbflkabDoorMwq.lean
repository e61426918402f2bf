/- A memory that does not lie in certain blocks: what is written elsewhere does not turn it; a byte poked keeps it so. -/
import Derived.Test.YtacghkidpbflkabDoorQ14
namespace Go.Proofs.YtacghkidpbflkabDoor
open Go.ChangeShapes Go.WideShapes Go.ChangeAt Go.RowKit
set_option linter.unusedVariables false
set_option linter.unusedSimpArgs false

/-- the world without what certain blocks hold -/
def _root_.Go.World.veil (w : World) (p : Nat → Bool) : World := { w with heap := w.heap.mapIdx fun i o => if p i = true then .cells #[] 0 (0, 0) else o }
theorem veil_heap (w : World) (p : Nat → Bool) (b : Nat) : (w.veil p).heap[b]? = (w.heap[b]?).map fun o => if p b = true then .cells #[] 0 (0, 0) else o := by
  simp [World.veil, Array.getElem?_mapIdx]
theorem veil_cell (w : World) (p : Nat → Bool) (b i : Nat) : (w.veil p).cell? ⟨b, i, none⟩ = if p b = true then none else w.cell? ⟨b, i, none⟩ := by
  unfold World.cell?
  dsimp only
  rw [veil_heap]
  cases h : w.heap[b]? with
  | none => cases p b <;> simp
  | some o =>
    cases hp : p b
    · simp
    · simp
/-- whatever cell the one world has, the other has too -/
def CLe (w w' : World) : Prop := ∀ b i u, w.cell? ⟨b, i, none⟩ = some u → w'.cell? ⟨b, i, none⟩ = some u
theorem veil_le (w : World) (p : Nat → Bool) : CLe (w.veil p) w := fun b i u h => by
  rw [veil_cell] at h
  cases hp : p b
  · rw [hp] at h; exact h
  · rw [hp] at h; cases h
theorem cell_kept' {W W' : World} {b i : Nat} {v : Value} (hb : Below W.heap.size W W') (h : W.cell? ⟨b, i, none⟩ = some v) : W'.cell? ⟨b, i, none⟩ = some v := by
  rw [hb.cell (p := ⟨b, i, none⟩) (World.block_lt_of_cell? W _ h)]
  exact h
theorem veil_below {w w' : World} (p : Nat → Bool) (hb : Below w.heap.size w w') : CLe (w.veil p) (w'.veil p) := fun b i u h => by
  rw [veil_cell] at h ⊢
  cases hp : p b
  · rw [hp] at h
    exact cell_kept' hb h
  · rw [hp] at h; cases h
theorem RowR.mono {w w' : World} {v : Value} {zs : List Int} (h : RowR w v zs) (hc : CLe w w') : RowR w' v zs := by
  obtain ⟨a, cap, rfl, h⟩ := h
  refine ⟨a, cap, rfl, ?_⟩
  rcases h with h | ⟨b, off, rfl, h⟩
  · exact .inl h
  · exact .inr ⟨b, off, rfl, fun i hi => hc _ _ _ (h i hi)⟩
theorem RowsR.mono {w w' : World} {v : Value} {zss : List (List Int)} (h : RowsR w v zss) (hc : CLe w w') : RowsR w' v zss := by
  obtain ⟨a, cap, rfl, h⟩ := h
  refine ⟨a, cap, rfl, ?_⟩
  rcases h with h | ⟨b, off, rfl, h⟩
  · exact .inl h
  · refine .inr ⟨b, off, rfl, fun i hi => ?_⟩
    obtain ⟨u, h1, h2⟩ := h i hi
    exact ⟨u, hc _ _ _ h1, h2.mono hc⟩
theorem MemR.mono {w w' : World} {v : Value} {M : Mem} (h : MemR w v M) (hc : CLe w w') : MemR w' v M := by
  obtain ⟨vr, vm, rfl, h1, h2⟩ := h
  exact ⟨vr, vm, rfl, h1.mono hc, h2.mono hc⟩
theorem RowR.unveil {w : World} {p : Nat → Bool} {v : Value} {zs : List Int} (h : RowR (w.veil p) v zs) : RowR w v zs := h.mono (veil_le w p)
theorem RowsR.unveil {w : World} {p : Nat → Bool} {v : Value} {zs : List (List Int)} (h : RowsR (w.veil p) v zs) : RowsR w v zs := h.mono (veil_le w p)
theorem MemR.unveil {w : World} {p : Nat → Bool} {v : Value} {M : Mem} (h : MemR (w.veil p) v M) : MemR w v M := h.mono (veil_le w p)
theorem RowR.veil_below {w w' : World} {p : Nat → Bool} {v : Value} {zs : List Int} (h : RowR (w.veil p) v zs) (hb : Below w.heap.size w w') : RowR (w'.veil p) v zs := h.mono (Go.Proofs.YtacghkidpbflkabDoor.veil_below p hb)
theorem MemR.veil_below {w w' : World} {p : Nat → Bool} {v : Value} {M : Mem} (h : MemR (w.veil p) v M) (hb : Below w.heap.size w w') : MemR (w'.veil p) v M := h.mono (Go.Proofs.YtacghkidpbflkabDoor.veil_below p hb)
theorem RowO.veil {w : World} {p : Nat → Bool} {g : Nat} {v : Value} {zs : List Int} (h : RowO w g v zs) (hp : p g = false) : RowO (w.veil p) g v zs := h.kept (by rw [veil_heap, hp]; cases w.heap[g]? <;> rfl)
end Go.Proofs.YtacghkidpbflkabDoor
