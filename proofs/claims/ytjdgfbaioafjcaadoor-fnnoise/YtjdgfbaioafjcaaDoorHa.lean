/- What the specification says of a processor that is right. -/
import Derived.Test.YtjdgfbaioafjcaaDoorBl
import Derived.Test.YtjdgfbaioafjcaaDoorMf
import Derived.Deep.Cut
namespace Go.Proofs.YtjdgfbaioafjcaaDoor
open Go.ChangeShapes Go.WideShapes Go.ChangeAt Go.RowKit
set_option linter.unusedVariables false
set_option linter.unusedSimpArgs false

/-- a processor as it comes in: any numbers -/
structure Cu where
  r0 : Int
  r1 : Int
  r2 : Int
  r3 : Int
  r4 : Int
  r5 : Int
  r6 : Int
  r7 : Int
  f : Int
  sp : Int
  pc : Int
  iff : Bool
  ei : Bool
  halt : Bool
abbrev cuA (c : Cu) : Array Value := #[.int .i64 c.r0, .int .i64 c.r1, .int .i64 c.r2, .int .i64 c.r3, .int .i64 c.r4, .int .i64 c.r5, .int .i64 c.r6, .int .i64 c.r7, .int .i64 c.f, .int .i64 c.sp, .int .i64 c.pc, .bool c.iff, .bool c.ei, .bool c.halt]
abbrev cuV (c : Cu) : Value := .agg (cuA c)
def Cu.reg (c : Cu) : Nat → Int
  | 0 => c.r0
  | 1 => c.r1
  | 2 => c.r2
  | 3 => c.r3
  | 4 => c.r4
  | 5 => c.r5
  | 6 => c.r6
  | _ => c.r7
def regsB (c : Cu) : Bool := (List.range 8).all (fun i => inB (c.reg i) 0 255)
def okC (c : Cu) : Bool := regsB c && decide (c.r6 = 0) && inB c.f 0 255 && inB c.sp 0 255 && inB c.pc 0 255 && (!c.ei || c.iff)
theorem regs_no {c : Cu} {k : Nat} (hk : k < 8) (h : inB (c.reg k) 0 255 = false) : okC c = false := by
  have : regsB c = false := by
    unfold regsB
    rw [List.all_eq_false]
    exact ⟨k, List.mem_range.2 hk, by simp [h]⟩
  simp [okC, this]
theorem regs_all {c : Cu} (h : ∀ i, i < 8 → inB (c.reg i) 0 255 = true) : regsB c = true := by
  unfold regsB
  rw [List.all_eq_true]
  exact fun i hi => h i (List.mem_range.1 hi)
end Go.Proofs.YtjdgfbaioafjcaaDoor
