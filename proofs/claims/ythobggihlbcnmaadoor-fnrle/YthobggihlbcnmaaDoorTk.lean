/- What the takers of a cursor answer, the program's own and the specification's: both are takeV; new blocks at most. -/
import Derived.Test.YthobggihlbcnmaaDoorIn
import Derived.Test.YthobggihlbcnmaaDoorIs
import Derived.Deep.RegionWith
import Derived.Deep.RegionHeld3
import Derived.WalkSpells
import Derived.OneCell
namespace Go.Proofs.YthobggihlbcnmaaDoor
open Go.ChangeShapes Go.WideShapes Go.ChangeAt Go.RowKit
set_option linter.unusedVariables false
set_option linter.unusedSimpArgs false

/-- the cursor stands in its data -/
def stB (s : ByteArray) (a : Int) : Bool := decide (s.size ≤ 65536 ∧ 0 ≤ a ∧ a ≤ s.size)
theorem stB_yes {s : ByteArray} {a : Int} (h : stB s a = true) : s.size ≤ 65536 ∧ 0 ≤ a ∧ a ≤ s.size := by simpa [stB] using h
theorem stB_no {s : ByteArray} {a : Int} (h : stB s a = false) : ¬ (s.size ≤ 65536 ∧ 0 ≤ a ∧ a ≤ s.size) := by simpa [stB] using h
abbrev cur (s : ByteArray) (a : Int) : Value := .agg #[.string s, .int .i64 a]

theorem stands_any (s : ByteArray) (a : Int) (w : World) (hs : s.size ≤ maxLen) :
    Calls Tryd.prog 44 #[cur s a] w fun e w' => e = .returned (.bool (stB s a)) ∧ Below w.heap.size w w' := by
  unfold maxLen at hs
  by_cases h1 : s.size ≤ 65536
  · by_cases h2 : 0 ≤ a
    · by_cases h3 : a ≤ s.size
      all_goals
        go_enter Tryd.func44, Tryd.ntmps44
        go_wp2
        go_ret
        exact ⟨ret_bool (by rw [Bool.eq_iff_iff]; simp [stB]; omega), (Below.refl _ _).alloc (Nat.le_refl _) _⟩
    · go_enter Tryd.func44, Tryd.ntmps44
      go_wp2
      go_ret
      exact ⟨ret_bool (by rw [Bool.eq_iff_iff]; simp [stB]; omega), (Below.refl _ _).alloc (Nat.le_refl _) _⟩
  · go_enter Tryd.func44, Tryd.ntmps44
    go_wp2
    go_ret
    exact ⟨ret_bool (by rw [Bool.eq_iff_iff]; simp [stB]; omega), (Below.refl _ _).alloc (Nat.le_refl _) _⟩

/-- the cursor behind what is taken, what is taken, the code -/
def takeV (s : ByteArray) (a n : Int) : (ByteArray × Int) × ByteArray × Int :=
  if stB s a = false then ((ByteArray.empty, 0), ByteArray.empty, 1)
  else if n < 0 ∨ 65536 < n then ((ByteArray.empty, 0), ByteArray.empty, 4)
  else if (s.size : Int) < a + n then ((s, a), ByteArray.empty, 9)
  else ((s, a + n), s.extract a.toNat (a + n).toNat, 0)
def takeT (x : (ByteArray × Int) × ByteArray × Int) : Value := .tuple #[cur x.1.1 x.1.2, .string x.2.1, .int .i64 x.2.2]

/-- the three errors of the cursor, as start-up lays them: three cells that point to three blocks of their own -/
structure Errs (w : World) (e0 e1 e2 : Addr) : Prop where
  c0 : w.cell? ⟨2, 0, none⟩ = some (.iface 96 (.pointer (some e0)))
  c1 : w.cell? ⟨1, 0, none⟩ = some (.iface 96 (.pointer (some e1)))
  c2 : w.cell? ⟨0, 0, none⟩ = some (.iface 96 (.pointer (some e2)))
  n01 : e0 ≠ e1
  n02 : e0 ≠ e2
  n12 : e1 ≠ e2
  b0 : ∃ ca ta, w.heap[e0.block]? = some (.cells ca ta (0, 0))
  b1 : ∃ ca ta, w.heap[e1.block]? = some (.cells ca ta (0, 0))
  b2 : ∃ ca ta, w.heap[e2.block]? = some (.cells ca ta (0, 0))
theorem Errs.below {w w' : World} {e0 e1 e2 : Addr} (h : Errs w e0 e1 e2) (hb : Below w.heap.size w w') : Errs w' e0 e1 e2 := by
  obtain ⟨c0, c1, c2, n01, n02, n12, ⟨x0, t0, b0⟩, ⟨x1, t1, b1⟩, ⟨x2, t2, b2⟩⟩ := h
  refine ⟨?_, ?_, ?_, n01, n02, n12, ⟨x0, t0, ?_⟩, ⟨x1, t1, ?_⟩, ⟨x2, t2, ?_⟩⟩
  · rw [hb.cell (p := ⟨2, 0, none⟩) (World.block_lt_of_cell? w _ c0)]; exact c0
  · rw [hb.cell (p := ⟨1, 0, none⟩) (World.block_lt_of_cell? w _ c1)]; exact c1
  · rw [hb.cell (p := ⟨0, 0, none⟩) (World.block_lt_of_cell? w _ c2)]; exact c2
  · rw [hb.block _ (lt_of_block b0)]; exact b0
  · rw [hb.block _ (lt_of_block b1)]; exact b1
  · rw [hb.block _ (lt_of_block b2)]; exact b2

/-- the error that goes with a code -/
def errV (e0 e1 e2 : Addr) (c : Int) : Value := if c = 0 then .nilIface else if c = 1 then .iface 96 (.pointer (some e0)) else if c = 4 then .iface 96 (.pointer (some e1)) else .iface 96 (.pointer (some e2))
def takeE (e0 e1 e2 : Addr) (x : (ByteArray × Int) × ByteArray × Int) : Value := .tuple #[cur x.1.1 x.1.2, .string x.2.1, errV e0 e1 e2 x.2.2]

theorem takeCode_any (e0 e1 e2 : Addr) (c : Int) (w : World) (hE : Errs w e0 e1 e2) (hc : c = 0 ∨ c = 1 ∨ c = 4 ∨ c = 9) :
    Calls Tryd.prog 20 #[errV e0 e1 e2 c] w fun e w' => e = .returned (.int .i64 c) ∧ w' = w := by
  have g0 := hE.c0
  have g1 := hE.c1
  have g2 := hE.c2
  obtain ⟨x0, t0, b0⟩ := hE.b0
  obtain ⟨x1, t1, b1⟩ := hE.b1
  obtain ⟨x2, t2, b2⟩ := hE.b2
  have n01 := hE.n01
  have n02 := hE.n02
  have n12 := hE.n12
  clear hE
  rcases hc with rfl | rfl | rfl | rfl
  · show Calls _ _ #[.nilIface] _ _
    clear b0 b1 b2
    go_enter Tryd.func20, Tryd.ntmps20
    go_wp2
    go_ret
    exact ⟨rfl, rfl⟩
  · show Calls _ _ #[.iface 96 (.pointer (some e0))] _ _
    go_enter Tryd.func20, Tryd.ntmps20
    go_wp2_with fail
    refine (is_other e0 e2 _ _ _ _ _ n02 b0 b2).mono ?_
    rintro e w1 ⟨rfl, rfl⟩
    go_wp2_with fail
    refine (is_other e0 e1 _ _ _ _ _ n01 b0 b1).mono ?_
    rintro e w1 ⟨rfl, rfl⟩
    go_wp2
    go_ret
    exact ⟨rfl, rfl⟩
  · show Calls _ _ #[.iface 96 (.pointer (some e1))] _ _
    go_enter Tryd.func20, Tryd.ntmps20
    go_wp2_with fail
    refine (is_other e1 e2 _ _ _ _ _ n12 b1 b2).mono ?_
    rintro e w1 ⟨rfl, rfl⟩
    go_wp2_with fail
    refine (is_same e1 _).mono ?_
    rintro e w1 ⟨rfl, rfl⟩
    go_wp2
    go_ret
    exact ⟨rfl, rfl⟩
  · show Calls _ _ #[.iface 96 (.pointer (some e2))] _ _
    go_enter Tryd.func20, Tryd.ntmps20
    go_wp2_with fail
    refine (is_same e2 _).mono ?_
    rintro e w1 ⟨rfl, rfl⟩
    go_wp2
    go_ret
    exact ⟨rfl, rfl⟩
end Go.Proofs.YthobggihlbcnmaaDoor
