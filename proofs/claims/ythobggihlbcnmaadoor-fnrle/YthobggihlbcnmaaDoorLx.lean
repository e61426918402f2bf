/- Rows of bytes that grow: small facts. -/
import Derived.Test.YthobggihlbcnmaaDoorBl
import Derived.Maps.AppendAt
import Derived.KernelRfl
import Derived.Maps.OwnIn
import Derived.Lib.AppendZeros
namespace Go.Proofs.YthobggihlbcnmaaDoor
open Go.ChangeShapes Go.WideShapes Go.ChangeAt Go.RowKit
set_option linter.unusedVariables false

theorem infoB : (Tryd.prog.info? 5).map (fun i => (i.zero, i.size, i.bytes)) = some (some (.int .u8 0), 1, 1) := by kernel_rfl
theorem own_belowL {W W' : World} {lo n z : Nat} {e : TypeId} {v : Value} {xs : List Value} (h : W.ownsRow lo e z v n xs) (hb : Below W.heap.size W W') : W'.ownsRow lo e z v n xs := by
  obtain ⟨hl, ⟨rfl, h0⟩ | ⟨g, cap, cur, rfl, hbb, hh, h1, h2, h3, h4⟩⟩ := h
  · exact ⟨hl, .inl ⟨rfl, h0⟩⟩
  · exact ⟨hl, .inr ⟨g, cap, cur, rfl, hbb, (hb.block g (Array.getElem?_eq_some_iff.1 hh).1).trans hh, h1, h2, h3, h4⟩⟩
theorem ownsRow_form {W : World} {lo n z : Nat} {e : TypeId} {v : Value} {xs : List Value} (h : W.ownsRow lo e z v n xs) : ∃ g c, v = .slice g n c := by
  obtain ⟨_, ⟨h1, h0⟩ | ⟨g, cap, _, h1, _⟩⟩ := h
  · exact ⟨none, 0, by rw [h1, h0]⟩
  · exact ⟨_, _, h1⟩
end Go.Proofs.YthobggihlbcnmaaDoor
