/- The processor, as plain numbers: what an instruction does. -/
import Derived.Test.YtacghkidpbflkabDoorMgq
import Derived.Test.YtacghkidpbflkabDoorQ14
import Derived.Test.YtacghkidpbflkabDoorAdq
import Derived.Test.YtacghkidpbflkabDoorQ17
import Derived.Test.YtacghkidpbflkabDoorIbq
namespace Go.Proofs.YtacghkidpbflkabDoor
open Go.ChangeShapes Go.WideShapes Go.ChangeAt Go.RowKit
set_option linter.unusedVariables false
set_option linter.unusedSimpArgs false

structure Cp where
  b : Nat
  c : Nat
  d : Nat
  e : Nat
  h : Nat
  l : Nat
  a : Nat
  f : Nat
  sp : Nat
  pc : Nat
  iff : Bool
  ei : Bool
  halt : Bool
/-- what an instruction works on: the processor, the memory, the cycles so far -/
structure Mx where
  c : Cp
  m : Mem
  cy : List (Nat × Nat × Nat)
/-- all are bytes -/
def Cp.ok (c : Cp) : Prop := c.b < 256 ∧ c.c < 256 ∧ c.d < 256 ∧ c.e < 256 ∧ c.h < 256 ∧ c.l < 256 ∧ c.a < 256 ∧ c.f < 256 ∧ c.sp < 256 ∧ c.pc < 256
def Mx.ok (x : Mx) : Prop := x.c.ok ∧ okM x.m = true
def peekN (M : Mem) (a : Nat) : Nat := (peekI M (a : Int)).toNat
def Cp.reg (c : Cp) : Nat → Nat
  | 0 => c.b
  | 1 => c.c
  | 2 => c.d
  | 3 => c.e
  | 4 => c.h
  | 5 => c.l
  | 6 => 0
  | _ => c.a
def Cp.put (c : Cp) (v : Nat) : Nat → Cp
  | 0 => { c with b := v }
  | 1 => { c with c := v }
  | 2 => { c with d := v }
  | 3 => { c with e := v }
  | 4 => { c with h := v }
  | 5 => { c with l := v }
  | 6 => c
  | _ => { c with a := v }
def Mx.note (x : Mx) (k a v : Nat) : Mx := { x with cy := x.cy ++ [(k, a, v)] }
def Mx.read (x : Mx) (a : Nat) : Mx := x.note 2 a (peekN x.m a)
def Mx.write (x : Mx) (a v : Nat) : Mx := { x with m := pokeM x.m (a : Int) (v : Int), cy := x.cy ++ [(3, a, v)] }
/-- a register's value, and what is left when it has been asked for -/
def Mx.getV (x : Mx) (r : Nat) : Nat := if r = 6 then peekN x.m x.c.h else x.c.reg r
def Mx.getX (x : Mx) (r : Nat) : Mx := if r = 6 then x.read x.c.h else x
def Mx.set (x : Mx) (r v : Nat) : Mx := if r = 6 then x.write x.c.h v else { x with c := x.c.put v r }
def Mx.push (x : Mx) (v : Nat) : Mx := ({ x with c := { x.c with sp := (x.c.sp + 255) % 256 } } : Mx).write ((x.c.sp + 255) % 256) v
def Mx.popV (x : Mx) : Nat := peekN x.m x.c.sp
def Mx.popX (x : Mx) : Mx := { x.read x.c.sp with c := { x.c with sp := (x.c.sp + 1) % 256 } }
def holdN (f k : Nat) : Bool :=
  if k = 0 ∨ k = 1 then (Nat.land f 64 != 0) == (k == 1) else if k = 2 ∨ k = 3 then (Nat.land f 1 != 0) == (k == 3) else if k = 4 ∨ k = 5 then (Nat.land f 4 != 0) == (k == 5) else if k = 6 then Nat.land f 128 != 0 else true
def aluV (op a b f : Nat) : Nat := if op = 0 then addV a b 0 else if op = 1 then addV a b (Nat.land f 1) else if op = 2 then subV a b 0 else if op = 3 then subV a b (Nat.land f 1) else if op = 7 then a else logV (op - 4) a b
def aluF (op a b f : Nat) : Nat := if op = 0 then addF a b 0 else if op = 1 then addF a b (Nat.land f 1) else if op = 2 then subF a b 0 else if op = 3 then subF a b (Nat.land f 1) else if op = 7 then Nat.lor (Nat.land (subF a b 0) 215) (Nat.land b 40) else logF (op - 4) a b
def Mx.alu (x : Mx) (op b : Nat) : Mx := { x with c := { x.c with a := aluV op x.c.a b x.c.f, f := aluF op x.c.a b x.c.f } }
def copyF (f n b : Nat) : Nat := Nat.lor (Nat.lor (Nat.lor (Nat.land f 193) (Nat.land n 8)) (Nat.land (n * 16) 32)) (if b = 0 then 0 else 4)
def Mx.copy (x : Mx) : Mx :=
  let v := peekN x.m x.c.h
  let y := (x.read x.c.h).write x.c.d v
  { y with c := { x.c with h := (x.c.h + 1) % 256, d := (x.c.d + 1) % 256, b := (x.c.b + 255) % 256, f := copyF x.c.f (v + x.c.a) ((x.c.b + 255) % 256) } }
theorem reg_lt {c : Cp} (h : c.ok) (r : Nat) : c.reg r < 256 := by
  obtain ⟨h0, h1, h2, h3, h4, h5, h6, _⟩ := h
  unfold Cp.reg
  split <;> omega
end Go.Proofs.YtacghkidpbflkabDoor
