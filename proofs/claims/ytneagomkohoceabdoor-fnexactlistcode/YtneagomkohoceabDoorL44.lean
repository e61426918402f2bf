/- A block that is taken off a cursor: the specification. -/
import Derived.Test.YtneagomkohoceabDoorL42
import Derived.Test.YtneagomkohoceabDoorL43
namespace Go.Proofs.YtneagomkohoceabDoor
open Go.ChangeShapes Go.WideShapes Go.ChangeAt Go.RowKit
set_option linter.unusedVariables false
set_option linter.unusedSimpArgs false


abbrev curA (s : ByteArray) (a : Int) : Array Value := #[.string s, .int .i64 a]
/-- the cursor behind it, the block, the code -/
abbrev tkT (x : ((ByteArray × Int) × (Int × ByteArray)) × Int) : Value := .tuple #[cur x.1.1.1 x.1.1.2, bkV x.1.2.1 x.1.2.2, .int .i64 x.2]
def wordOf (t : ByteArray) : Int := byt t 0 + 256 * byt t 1
def tkB (s : ByteArray) (a : Int) : ((ByteArray × Int) × (Int × ByteArray)) × Int :=
  if stB s a = false then (((ByteArray.empty, 0), (0, ByteArray.empty)), 1)
  else if (takeV s a 2).2.2 ≠ 0 then (((s, a), (0, ByteArray.empty)), (takeV s a 2).2.2)
  else if (takeV (takeV s a 2).1.1 (takeV s a 2).1.2 (wordOf (takeV s a 2).2.1)).2.2 ≠ 0 then (((s, a), (0, ByteArray.empty)), (takeV (takeV s a 2).1.1 (takeV s a 2).1.2 (wordOf (takeV s a 2).2.1)).2.2)
  else if (ofB (takeV (takeV s a 2).1.1 (takeV s a 2).1.2 (wordOf (takeV s a 2).2.1)).2.1).2 ≠ 0 then (((s, a), (0, ByteArray.empty)), (ofB (takeV (takeV s a 2).1.1 (takeV s a 2).1.2 (wordOf (takeV s a 2).2.1)).2.1).2)
  else (((takeV (takeV s a 2).1.1 (takeV s a 2).1.2 (wordOf (takeV s a 2).2.1)).1, (ofB (takeV (takeV s a 2).1.1 (takeV s a 2).1.2 (wordOf (takeV s a 2).2.1)).2.1).1), 0)
/-- the cursor's box, and room for the answer -/
structure K3 (w W : World) (s : ByteArray) (a : Int) : Prop where
  q0 : Blk W w.heap.size (curA s a)
  q1 : Blk W (w.heap.size + 1) (curA eS 0)
  q2 : Blk W (w.heap.size + 1 + 1) (bkA 0 eS)
  bel : Below w.heap.size w W
theorem K3.below {w W W' : World} {s : ByteArray} {a : Int} (h : K3 w W s a) (hb : Below W.heap.size W W') : K3 w W' s a :=
  ⟨h.q0.below hb h.q0.lt, h.q1.below hb h.q1.lt, h.q2.below hb h.q2.lt, h.bel.trans (hb.mono h.bel.size)⟩
theorem K3.start (w : World) (s : ByteArray) (a : Int) (t t1 t2 : TypeId) : K3 w (((w.alloc (.cells (curA s a) t)).alloc (.cells (curA eS 0) t1)).alloc (.cells (bkA 0 eS) t2)) s a := by
  have hB1 : Below w.heap.size w (w.alloc (.cells (curA s a) t)) := (Below.refl _ _).alloc (Nat.le_refl _) _
  have hB2 := hB1.alloc hB1.size (.cells (curA eS 0) t1)
  have q1 : Blk ((w.alloc (.cells (curA s a) t)).alloc (.cells (curA eS 0) t1)) (w.heap.size + 1) (curA eS 0) := by
    have := Blk.new (w.alloc (.cells (curA s a) t)) (curA eS 0) t1
    rw [World.size_alloc] at this
    exact this
  refine ⟨((Blk.new w _ t).alloc _).alloc _, q1.alloc _, ?_, hB2.alloc hB2.size _⟩
  have := Blk.new ((w.alloc (.cells (curA s a) t)).alloc (.cells (curA eS 0) t1)) (bkA 0 eS) t2
  rw [World.size_alloc, World.size_alloc] at this
  exact this
end Go.Proofs.YtneagomkohoceabDoor

/- A block that is taken off a cursor, whole: the specification. -/
namespace Go.Proofs.YtneagomkohoceabDoor
open Go.ChangeShapes Go.WideShapes Go.ChangeAt Go.RowKit
set_option linter.unusedVariables false
set_option linter.unusedSimpArgs false

theorem wordOf_nat (t : ByteArray) : ∃ n : Nat, wordOf t = n ∧ n ≤ 65535 := by
  have h0 := byt_bd t 0
  have h1 := byt_bd t 1
  unfold wordOf
  exact ⟨(byt t 0 + 256 * byt t 1).toNat, by omega, by omega⟩
end Go.Proofs.YtneagomkohoceabDoor
