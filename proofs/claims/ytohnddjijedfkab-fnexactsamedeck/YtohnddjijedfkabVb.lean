/- The bits of a text and the pulses of a block: the specification. -/
import Derived.Test.YtohnddjijedfkabVa
import Derived.Test.YtohnddjijedfkabAu
import Derived.OwnWalk
import Derived.Deep.AppendLies
import Derived.Deep.DeepCutAuto
namespace Go.Proofs.Ytohnddjijedfkab
open Go.ChangeShapes Go.WideShapes Go.ChangeAt Go.RowKit
set_option linter.unusedVariables false
set_option linter.unusedSimpArgs false

theorem infoIV : (Try.prog.info? 3).map (fun i => (i.zero, i.size, i.bytes)) = some (some (.int .i64 0), 1, 8) := by kernel_rfl
/-- a row of numbers that grows -/
structure Grow (w W : World) (v : Value) (l : List Int) : Prop where
  own : W.ownsRow w.heap.size 3 1 v l.length (l.map (Value.int .i64))
  bel : Below w.heap.size w W
theorem Grow.below {w W W' : World} {v : Value} {l : List Int} (h : Grow w W v l) (hb : Below W.heap.size W W') : Grow w W' v l := ⟨own_belowU h.own hb, h.bel.trans (hb.mono h.bel.size)⟩
theorem Grow.form {w W : World} {v : Value} {l : List Int} (h : Grow w W v l) : ∃ oa cap, v = .slice oa l.length cap := by
  obtain ⟨_, ⟨h1, h0⟩ | ⟨g, cap, _, h1, _⟩⟩ := h.own
  · exact ⟨none, 0, by rw [h1, h0]⟩
  · exact ⟨_, _, h1⟩
theorem Grow.app {w W W' : World} {v v' : Value} {l : List Int} {o : Obj} (h : Grow w W v l) (xs : List Int) (ho : W'.ownsRow w.heap.size 3 1 v' (l.length + xs.length) (l.map (Value.int .i64) ++ xs.map (Value.int .i64))) (hg : (W.alloc o).grownBy W' v.ownBlock) : Grow w W' v' (l ++ xs) := by
  have hsz := h.bel.size
  refine ⟨by rw [List.length_append, List.map_append]; exact ho, ?_⟩
  exact (h.bel.alloc (by omega) _).grown hg (by simp; omega) (fun g hg => (h.own.lt g hg).1)
theorem Grow.nil (w : World) : Grow w (w.alloc (.cells #[] 3)) (.slice (some ⟨w.heap.size, 0, none⟩) 0 0) [] := ⟨World.ownsRow_lit w #[] 0 (Nat.le_refl _) (by decide) rfl, (Below.refl _ _).alloc (Nat.le_refl _) _⟩
end Go.Proofs.Ytohnddjijedfkab
