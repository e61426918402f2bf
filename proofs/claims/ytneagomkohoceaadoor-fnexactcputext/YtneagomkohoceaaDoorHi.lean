/- Three things in blocks of their own, the third being written. -/
import Derived.Test.YtneagomkohoceaaDoorBl
namespace Go.Proofs.YtneagomkohoceaaDoor
open Go.ChangeShapes Go.WideShapes Go.ChangeAt Go.RowKit
set_option linter.unusedVariables false
set_option linter.unusedSimpArgs false

theorem two_in {w : World} (A B : Array Value) (t t1 : TypeId) : Blk ((w.alloc (.cells A t)).alloc (.cells B t1)) w.heap.size A ∧ Blk ((w.alloc (.cells A t)).alloc (.cells B t1)) (w.heap.size + 1) B ∧ Below w.heap.size w ((w.alloc (.cells A t)).alloc (.cells B t1)) := by
  have q1 := Blk.new (w.alloc (.cells A t)) B t1
  simp only [World.size_alloc] at q1
  exact ⟨(Blk.new w A t).alloc _, q1, ((Below.refl _ _).alloc (Nat.le_refl _) _).alloc (by simp) _⟩
abbrev zeC : Array Value := #[.int .i64 0, .int .i64 0, .int .i64 0, .int .i64 0, .int .i64 0, .int .i64 0, .int .i64 0, .int .i64 0, .int .i64 0, .int .i64 0, .int .i64 0, .bool false, .bool false, .bool false]
/-- three blocks -/
structure Tri (w W : World) (A B C : Array Value) : Prop where
  q0 : Blk W w.heap.size A
  q1 : Blk W (w.heap.size + 1) B
  q2 : Blk W (w.heap.size + 1 + 1) C
  bel : Below w.heap.size w W
theorem Tri.below {w W W' : World} {A B C : Array Value} (h : Tri w W A B C) (hb : Below W.heap.size W W') : Tri w W' A B C :=
  ⟨h.q0.below hb h.q0.lt, h.q1.below hb h.q1.lt, h.q2.below hb h.q2.lt, h.bel.trans (hb.mono h.bel.size)⟩
theorem Tri.drew {w W : World} {A B C : Array Value} (h : Tri w W A B C) : Tri w W.drew A B C := h.below ⟨rfl, rfl, rfl, Nat.le_refl _, fun _ _ => rfl⟩
theorem Tri.start (w : World) (A B C : Array Value) (t t1 t2 : TypeId) : Tri w (((w.alloc (.cells A t)).alloc (.cells B t1)).alloc (.cells C t2)) A B C := by
  obtain ⟨q0, q1, hB⟩ := two_in (w := w) A B t t1
  have q2 := Blk.new ((w.alloc (.cells A t)).alloc (.cells B t1)) C t2
  simp only [World.size_alloc] at q2
  exact ⟨q0.alloc _, q1.alloc _, q2, hB.alloc hB.size _⟩
theorem Tri.put {w W : World} {A B C : Array Value} (h : Tri w W A B C) (i : Nat) (u : Value) : Tri w (W.setCell ⟨w.heap.size + 1 + 1, i, none⟩ u) A B (C.setIfInBounds i u) :=
  ⟨h.q0.other (by simp only []; omega) u, h.q1.other (by simp) u, h.q2.set i u, h.bel.setCell (p := ⟨w.heap.size + 1 + 1, i, none⟩) (by simp only []; omega) u⟩
end Go.Proofs.YtneagomkohoceaaDoor
