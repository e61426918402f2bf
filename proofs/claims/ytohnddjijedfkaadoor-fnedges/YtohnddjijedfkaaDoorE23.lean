/- Decks: the specification. -/
import Derived.Test.YtohnddjijedfkaaDoorDae
import Derived.Test.YtohnddjijedfkaaDoorE21
import Derived.Test.YtohnddjijedfkaaDoorVbe
import Derived.Deep.Onto
import Derived.BigQuiet
import Derived.Deep.DeepCutAuto
namespace Go.Proofs.YtohnddjijedfkaaDoor
open Go.ChangeShapes Go.WideShapes Go.ChangeAt Go.RowKit
set_option linter.unusedVariables false
set_option linter.unusedSimpArgs false

abbrev dkA (v : Value) (d : Dk) : Array Value := #[v, .int .i64 d.index, .int .i64 d.left, .bool d.level, .bool d.plays]
abbrev dkV (v : Value) (d : Dk) : Value := .agg (dkA v d)
theorem row_pulse {w : World} {a : Option Addr} {cap : Nat} {d : Dk} (h : RowR w (.slice a d.pulses.length cap) d.pulses) {i : Int} (h0 : 0 ≤ i) (h1 : i < d.len) : ∃ (b off k : Nat), a = some ⟨b, off, none⟩ ∧ i = (k : Int) ∧ k < d.pulses.length ∧ w.cell? ⟨b, off + k, none⟩ = some (.int .i64 (d.pulse i)) := by
  unfold Dk.len at h1
  obtain ⟨b, off, ha, hc⟩ := h.at (k := i.toNat) (by omega)
  exact ⟨b, off, i.toNat, ha, by omega, by omega, hc⟩
end Go.Proofs.YtohnddjijedfkaaDoor

/- Decks, right or not: the specification. -/
namespace Go.Proofs.YtohnddjijedfkaaDoor
open Go.ChangeShapes Go.WideShapes Go.ChangeAt Go.RowKit
set_option linter.unusedVariables false
set_option linter.unusedSimpArgs false

end Go.Proofs.YtohnddjijedfkaaDoor
