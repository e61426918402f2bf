/- A deck with pulses of its own: the specification. -/
import Derived.Test.YtohnddjijedfkaaDoorDdn
import Derived.OwnWalk
import Derived.Deep.AppendLies
namespace Go.Proofs.YtohnddjijedfkaaDoor
open Go.ChangeShapes Go.WideShapes Go.ChangeAt Go.RowKit
set_option linter.unusedVariables false
set_option linter.unusedSimpArgs false

/-- an answer of a deck, laid into a block -/
theorem dk_laid {w W : World} {O R : Nat} {v0 v' : Value} {P : List Int} {B : Array Value} {ix lf : Int} {lv pl : Bool} (hO : Blk W O #[v0, .int .i64 ix, .int .i64 lf, .bool lv, .bool pl]) (hR : Blk W R B) (hB5 : B.size = 5) (hne : R ≠ O) (h0 : w.heap.size ≤ O) (h1 : w.heap.size ≤ R) (hG : Grow w W v' P) (n0 : v'.ownBlock ≠ some O) (n1 : v'.ownBlock ≠ some R) :
    Blk (W.setCell ⟨O, 0, none⟩ v') O #[v', .int .i64 ix, .int .i64 lf, .bool lv, .bool pl] ∧ Blk (W.setCell ⟨O, 0, none⟩ v') R B ∧
    (∀ i, ((((((W.setCell ⟨O, 0, none⟩ v').setCell ⟨R, 0, none⟩ v').setCell ⟨R, 1, none⟩ (.int .i64 ix)).setCell ⟨R, 2, none⟩ (.int .i64 lf)).setCell ⟨R, 3, none⟩ (.bool lv)).setCell ⟨R, 4, none⟩ (.bool pl)).cell? ⟨R, i, none⟩ = (#[v', .int .i64 ix, .int .i64 lf, .bool lv, .bool pl] : Array Value)[i]?) ∧
    Grow w ((((((W.setCell ⟨O, 0, none⟩ v').setCell ⟨R, 0, none⟩ v').setCell ⟨R, 1, none⟩ (.int .i64 ix)).setCell ⟨R, 2, none⟩ (.int .i64 lf)).setCell ⟨R, 3, none⟩ (.bool lv)).setCell ⟨R, 4, none⟩ (.bool pl)) v' P := by
  have sg : ∀ (X : World) (b i : Nat) (u : Value), X.grownBy (X.setCell ⟨b, i, none⟩ u) (some b) := fun X b i u => ⟨rfl, rfl, rfl, by simp [World.setCell], fun k _ hk => Below.heap_setCell _ _ _ _ (fun e => hk (by rw [e]))⟩
  have q := hO.set 0 v'
  have r := hR.other (p := ⟨O, 0, none⟩) hne v'
  have r5 := ((((r.set 0 v').set 1 (.int .i64 ix)).set 2 (.int .i64 lf)).set 3 (.bool lv)).set 4 (.bool pl)
  obtain ⟨b0, b1, b2, b3, b4, rfl⟩ : ∃ b0 b1 b2 b3 b4, B = #[b0, b1, b2, b3, b4] := array5 hB5
  refine ⟨q, r, fun i => r5.cell i, ?_, ?_⟩
  · exact (((((hG.own.kept (sg _ O 0 _) (.inr n0)).kept (sg _ R 0 _) (.inr n1)).kept (sg _ R 1 _) (.inr n1)).kept (sg _ R 2 _) (.inr n1)).kept (sg _ R 3 _) (.inr n1)).kept (sg _ R 4 _) (.inr n1)
  · exact (((((hG.bel.setCell (p := ⟨O, 0, none⟩) h0 _).setCell (p := ⟨R, 0, none⟩) h1 _).setCell (p := ⟨R, 1, none⟩) h1 _).setCell (p := ⟨R, 2, none⟩) h1 _).setCell (p := ⟨R, 3, none⟩) h1 _).setCell (p := ⟨R, 4, none⟩) h1 _
end Go.Proofs.YtohnddjijedfkaaDoor
