/- What the specification's sum and difference answer, as plain functions of natural numbers. -/
import Derived.Test.YtifcdojaocndhaaDoorM15
import Derived.Test.YtifcdojaocndhaaDoorM14
import Derived.Test.YtifcdojaocndhaaDoorM00
import Derived.Deep.AppendLies
import Derived.OwnWalk
namespace Go.Proofs.YtifcdojaocndhaaDoor
open Go.ChangeShapes Go.WideShapes Go.ChangeAt Go.RowKit
set_option linter.unusedVariables false

theorem or4 (s c h p : Nat) (hs : s < 256) (hc : c < 256) (hh : h < 256) (hp : p < 256) :
    bits .or .i64 (bits .or .i64 (bits .or .i64 (s : Int) (c : Int)) (h : Int)) (p : Int) = ((Nat.lor (Nat.lor (Nat.lor s c) h) p : Nat) : Int) := by
  have h1 : Nat.lor s c < 2 ^ 8 := Nat.or_lt_two_pow hs hc
  have h2 : Nat.lor (Nat.lor s c) h < 2 ^ 8 := Nat.or_lt_two_pow h1 hh
  rw [bOr s c (by omega) (by omega), bOr _ h (by omega) (by omega), bOr _ p (by omega) (by omega)]

/-- the sum's byte and its flags -/
def addV (a b c : Nat) : Nat := Nat.land (Nat.add (Nat.add a b) c) 255
def addF (a b c : Nat) : Nat :=
  Nat.lor (Nat.lor (Nat.lor (szN (addV a b c)) (btN (Nat.ble 256 (Nat.add (Nat.add a b) c)))) (Nat.mul 16 (btN (Nat.ble 16 (Nat.add (Nat.add (Nat.land a 15) (Nat.land b 15)) c)))))
    (Nat.mul 4 (btN (and (Nat.beq (Nat.land (Nat.xor a b) 128) 0) (not (Nat.beq (Nat.land (Nat.xor a (addV a b c)) 128) 0)))))
theorem addV_lt (a b c : Nat) : addV a b c < 256 := Nat.and_lt_two_pow (n := 8) _ (by decide)

theorem i64_and255 (n : Int) : bits .and .i64 n 255 = n % 256 := by
  have h255 : (BitVec.ofInt 64 255).toNat = 2 ^ 8 - 1 := by decide
  have key : (BitVec.ofInt 64 n &&& BitVec.ofInt 64 255).toNat = (n % ((2 ^ 64 : Nat) : Int)).toNat % 2 ^ 8 := by
    rw [BitVec.toNat_and, BitVec.toNat_ofInt, h255, Nat.and_two_pow_sub_one_eq_mod]
  show IntKind.i64.wrap ((BitVec.ofInt 64 n &&& BitVec.ofInt 64 255).toNat : Nat) = n % 256
  rw [key, IntKind.wrap_i64]
  omega
theorem or5 (s n c h p : Nat) (hs : s < 256) (hn : n < 256) (hc : c < 256) (hh : h < 256) (hp : p < 256) :
    bits .or .i64 (bits .or .i64 (bits .or .i64 (bits .or .i64 (s : Int) (n : Int)) (c : Int)) (h : Int)) (p : Int) = ((Nat.lor (Nat.lor (Nat.lor (Nat.lor s n) c) h) p : Nat) : Int) := by
  have h1 : Nat.lor s n < 2 ^ 8 := Nat.or_lt_two_pow hs hn
  rw [bOr s n (by omega) (by omega)]
  exact or4 (Nat.lor s n) c h p h1 hc hh hp
/-- the difference's byte and its flags -/
def subV (a b c : Nat) : Nat := Nat.land (Nat.sub (Nat.sub (Nat.add a 512) b) c) 255
def subF (a b c : Nat) : Nat :=
  Nat.lor (Nat.lor (Nat.lor (Nat.lor (szN (subV a b c)) 2) (btN (Nat.ble (Nat.add a 1) (Nat.add b c)))) (Nat.mul 16 (btN (Nat.ble (Nat.add (Nat.land a 15) 1) (Nat.add (Nat.land b 15) c)))))
    (Nat.mul 4 (btN (and (not (Nat.beq (Nat.land (Nat.xor a b) 128) 0)) (not (Nat.beq (Nat.land (Nat.xor a (subV a b c)) 128) 0)))))
theorem subV_lt (a b c : Nat) : subV a b c < 256 := Nat.and_lt_two_pow (n := 8) _ (by decide)
theorem subV_int (a b c : Nat) (ha : a < 256) (hb : b < 256) (hc : c < 2) : bits .and .i64 ((a : Int) - b - c) 255 = (subV a b c : Nat) := by
  have h : subV a b c = (a + 512 - b - c) % 2 ^ 8 := Nat.and_two_pow_sub_one_eq_mod (a + 512 - b - c) 8
  rw [i64_and255, h]
  omega

end Go.Proofs.YtifcdojaocndhaaDoor

/- What the specification's steps and logic answer, and its sum, difference, steps and logic as they are asked. -/
namespace Go.Proofs.YtifcdojaocndhaaDoor
open Go.ChangeShapes Go.WideShapes Go.ChangeAt Go.RowKit
set_option linter.unusedVariables false

def incV (a : Nat) : Nat := Nat.land (Nat.add a 1) 255
def incF (a f : Nat) : Nat := Nat.lor (Nat.lor (Nat.lor (Nat.land f 1) (szN (incV a))) (Nat.mul 16 (btN (Nat.beq (Nat.land a 15) 15)))) (Nat.mul 4 (btN (Nat.beq a 127)))
theorem incV_lt (a : Nat) : incV a < 256 := Nat.and_lt_two_pow (n := 8) _ (by decide)
theorem incV_int (a : Nat) (ha : a < 256) : bits .and .i64 ((a : Int) + 1) 255 = (incV a : Nat) := by
  have h : incV a = (a + 1) % 2 ^ 8 := Nat.and_two_pow_sub_one_eq_mod (a + 1) 8
  rw [i64_and255, h]
  omega

def decV (a : Nat) : Nat := Nat.land (Nat.add a 255) 255
def decF (a f : Nat) : Nat := Nat.lor (Nat.lor (Nat.lor (Nat.lor (Nat.land f 1) (szN (decV a))) 2) (Nat.mul 16 (btN (Nat.beq (Nat.land a 15) 0)))) (Nat.mul 4 (btN (Nat.beq a 128)))
theorem decV_lt (a : Nat) : decV a < 256 := Nat.and_lt_two_pow (n := 8) _ (by decide)
theorem decV_int (a : Nat) (ha : a < 256) : bits .and .i64 ((a : Int) - 1) 255 = (decV a : Nat) := by
  have h : decV a = (a + 255) % 2 ^ 8 := Nat.and_two_pow_sub_one_eq_mod (a + 255) 8
  rw [i64_and255, h]
  omega

def logV (op a b : Nat) : Nat := cond (Nat.beq op 0) (Nat.land a b) (cond (Nat.beq op 1) (Nat.xor a b) (Nat.lor a b))
def logF (op a b : Nat) : Nat := cond (Nat.beq op 0) (Nat.lor (szpN (Nat.land a b)) 16) (szpN (logV op a b))
end Go.Proofs.YtifcdojaocndhaaDoor

/- What the specification's turns answer, as plain functions of natural numbers. -/
namespace Go.Proofs.YtifcdojaocndhaaDoor
open Go.ChangeShapes Go.WideShapes Go.ChangeAt Go.RowKit
set_option linter.unusedVariables false

theorem orAnd (x y : Nat) (hx : x < 32768) (hy : y < 32768) : bits .and .i64 (bits .or .i64 (x : Int) (y : Int)) 255 = ((Nat.land (Nat.lor x y) 255 : Nat) : Int) := by
  have h1 : Nat.lor x y < 2 ^ 15 := Nat.or_lt_two_pow (by omega) (by omega)
  rw [bOr x y (by omega) (by omega)]
  exact bAnd _ 255 (by omega) (by omega)

def turnO (op a : Nat) : Nat := cond (Nat.beq (Nat.land op 1) 1) (Nat.land a 1) (Nat.div a 128)
def turnV : Nat → Nat → Nat → Nat
  | 0, a, _ => Nat.land (Nat.lor (Nat.mul a 2) (Nat.div a 128)) 255
  | 1, a, _ => Nat.land (Nat.lor (Nat.div a 2) (Nat.mul (Nat.land a 1) 128)) 255
  | 2, a, c => Nat.land (Nat.lor (Nat.mul a 2) c) 255
  | 3, a, c => Nat.land (Nat.lor (Nat.div a 2) (Nat.mul c 128)) 255
  | 4, a, _ => Nat.land (Nat.mul a 2) 255
  | 5, a, _ => Nat.land (Nat.lor (Nat.div a 2) (Nat.land a 128)) 255
  | 6, a, _ => Nat.land (Nat.lor (Nat.mul a 2) 1) 255
  | 7, a, _ => Nat.land (Nat.div a 2) 255
  | _, _, _ => 0
def turnF (op a c : Nat) : Nat := Nat.lor (szpN (turnV op a c)) (turnO op a)
def turnW (op a f : Nat) : Nat := turnV op a (Nat.land f 1)
def turnG (op a f : Nat) : Nat := turnF op a (Nat.land f 1)
end Go.Proofs.YtifcdojaocndhaaDoor

/- What the specification's decimal adjustment and its test of a bit answer, as plain functions of natural numbers. -/
namespace Go.Proofs.YtifcdojaocndhaaDoor
open Go.ChangeShapes Go.WideShapes Go.ChangeAt Go.RowKit
set_option linter.unusedVariables false

def tstF (bit a f : Nat) : Nat :=
  Nat.lor (Nat.lor (Nat.lor (Nat.lor (Nat.land f 1) 16) (Nat.land a 40)) (Nat.land (Nat.land a (Nat.pow 2 bit)) 128)) (Nat.mul 68 (btN (Nat.beq (Nat.land a (Nat.pow 2 bit)) 0)))

def daaX (a f : Nat) : Nat := Nat.add (cond (or (not (Nat.beq (Nat.land f 16) 0)) (Nat.ble 10 (Nat.land a 15))) 6 0) (cond (or (Nat.beq (Nat.land f 1) 1) (Nat.ble 154 a)) 96 0)
def daaV (a f : Nat) : Nat := cond (Nat.beq (Nat.land f 2) 0) (Nat.land (Nat.add a (daaX a f)) 255) (Nat.land (Nat.sub (Nat.add a 512) (daaX a f)) 255)
def daaC (a f : Nat) : Nat := cond (or (Nat.beq (Nat.land f 1) 1) (Nat.ble 154 a)) 1 0
def daaH (a f : Nat) : Nat := cond (Nat.beq (Nat.land f 2) 0) (btN (Nat.ble 10 (Nat.land a 15))) (btN (and (not (Nat.beq (Nat.land f 16) 0)) (Nat.ble (Nat.add (Nat.land a 15) 1) 6)))
def daaF (a f : Nat) : Nat := Nat.lor (Nat.lor (Nat.lor (szpN (daaV a f)) (Nat.land f 2)) (daaC a f)) (Nat.mul 16 (daaH a f))
end Go.Proofs.YtifcdojaocndhaaDoor

/- The processor, as plain numbers: what an instruction does. -/
namespace Go.Proofs.YtifcdojaocndhaaDoor
open Go.ChangeShapes Go.WideShapes Go.ChangeAt Go.RowKit
set_option linter.unusedVariables false
set_option linter.unusedSimpArgs false

structure Cp where
  b : Nat
  c : Nat
  d : Nat
  e : Nat
  h : Nat
  l : Nat
  a : Nat
  f : Nat
  sp : Nat
  pc : Nat
  iff : Bool
  ei : Bool
  halt : Bool
/-- what an instruction works on: the processor, the memory, the cycles so far -/
structure Mx where
  c : Cp
  m : Mem
  cy : List (Nat × Nat × Nat)
/-- all are bytes -/
def Cp.ok (c : Cp) : Prop := c.b < 256 ∧ c.c < 256 ∧ c.d < 256 ∧ c.e < 256 ∧ c.h < 256 ∧ c.l < 256 ∧ c.a < 256 ∧ c.f < 256 ∧ c.sp < 256 ∧ c.pc < 256
def Mx.ok (x : Mx) : Prop := x.c.ok ∧ okM x.m = true
def peekN (M : Mem) (a : Nat) : Nat := (peekI M (a : Int)).toNat
def Cp.reg (c : Cp) : Nat → Nat
  | 0 => c.b
  | 1 => c.c
  | 2 => c.d
  | 3 => c.e
  | 4 => c.h
  | 5 => c.l
  | 6 => 0
  | _ => c.a
def Cp.put (c : Cp) (v : Nat) : Nat → Cp
  | 0 => { c with b := v }
  | 1 => { c with c := v }
  | 2 => { c with d := v }
  | 3 => { c with e := v }
  | 4 => { c with h := v }
  | 5 => { c with l := v }
  | 6 => c
  | _ => { c with a := v }
def Mx.note (x : Mx) (k a v : Nat) : Mx := { x with cy := x.cy ++ [(k, a, v)] }
def Mx.read (x : Mx) (a : Nat) : Mx := x.note 2 a (peekN x.m a)
def Mx.write (x : Mx) (a v : Nat) : Mx := { x with m := pokeM x.m (a : Int) (v : Int), cy := x.cy ++ [(3, a, v)] }
/-- a register's value, and what is left when it has been asked for -/
def Mx.getV (x : Mx) (r : Nat) : Nat := if r = 6 then peekN x.m x.c.h else x.c.reg r
def Mx.getX (x : Mx) (r : Nat) : Mx := if r = 6 then x.read x.c.h else x
def Mx.set (x : Mx) (r v : Nat) : Mx := if r = 6 then x.write x.c.h v else { x with c := x.c.put v r }
def Mx.push (x : Mx) (v : Nat) : Mx := ({ x with c := { x.c with sp := (x.c.sp + 255) % 256 } } : Mx).write ((x.c.sp + 255) % 256) v
def Mx.popV (x : Mx) : Nat := peekN x.m x.c.sp
def Mx.popX (x : Mx) : Mx := { x.read x.c.sp with c := { x.c with sp := (x.c.sp + 1) % 256 } }
def holdN (f k : Nat) : Bool :=
  if k = 0 ∨ k = 1 then (Nat.land f 64 != 0) == (k == 1) else if k = 2 ∨ k = 3 then (Nat.land f 1 != 0) == (k == 3) else if k = 4 ∨ k = 5 then (Nat.land f 4 != 0) == (k == 5) else if k = 6 then Nat.land f 128 != 0 else true
def aluV (op a b f : Nat) : Nat := if op = 0 then addV a b 0 else if op = 1 then addV a b (Nat.land f 1) else if op = 2 then subV a b 0 else if op = 3 then subV a b (Nat.land f 1) else if op = 7 then a else logV (op - 4) a b
def aluF (op a b f : Nat) : Nat := if op = 0 then addF a b 0 else if op = 1 then addF a b (Nat.land f 1) else if op = 2 then subF a b 0 else if op = 3 then subF a b (Nat.land f 1) else if op = 7 then Nat.lor (Nat.land (subF a b 0) 215) (Nat.land b 40) else logF (op - 4) a b
def Mx.alu (x : Mx) (op b : Nat) : Mx := { x with c := { x.c with a := aluV op x.c.a b x.c.f, f := aluF op x.c.a b x.c.f } }
def copyF (f n b : Nat) : Nat := Nat.lor (Nat.lor (Nat.lor (Nat.land f 193) (Nat.land n 8)) (Nat.land (n * 16) 32)) (if b = 0 then 0 else 4)
def Mx.copy (x : Mx) : Mx :=
  let v := peekN x.m x.c.h
  let y := (x.read x.c.h).write x.c.d v
  { y with c := { x.c with h := (x.c.h + 1) % 256, d := (x.c.d + 1) % 256, b := (x.c.b + 255) % 256, f := copyF x.c.f (v + x.c.a) ((x.c.b + 255) % 256) } }
theorem reg_lt {c : Cp} (h : c.ok) (r : Nat) : c.reg r < 256 := by
  obtain ⟨h0, h1, h2, h3, h4, h5, h6, _⟩ := h
  unfold Cp.reg
  split <;> omega
end Go.Proofs.YtifcdojaocndhaaDoor

/- A memory that does not lie in certain blocks: what is written elsewhere does not turn it; a byte poked keeps it so. -/
namespace Go.Proofs.YtifcdojaocndhaaDoor
open Go.ChangeShapes Go.WideShapes Go.ChangeAt Go.RowKit
set_option linter.unusedVariables false
set_option linter.unusedSimpArgs false

/-- the world without what certain blocks hold -/
def _root_.Go.World.veil (w : World) (p : Nat → Bool) : World := { w with heap := w.heap.mapIdx fun i o => if p i = true then .cells #[] 0 (0, 0) else o }
theorem veil_heap (w : World) (p : Nat → Bool) (b : Nat) : (w.veil p).heap[b]? = (w.heap[b]?).map fun o => if p b = true then .cells #[] 0 (0, 0) else o := by
  simp [World.veil, Array.getElem?_mapIdx]
theorem veil_cell (w : World) (p : Nat → Bool) (b i : Nat) : (w.veil p).cell? ⟨b, i, none⟩ = if p b = true then none else w.cell? ⟨b, i, none⟩ := by
  unfold World.cell?
  dsimp only
  rw [veil_heap]
  cases h : w.heap[b]? with
  | none => cases p b <;> simp
  | some o =>
    cases hp : p b
    · simp
    · simp
/-- whatever cell the one world has, the other has too -/
def CLe (w w' : World) : Prop := ∀ b i u, w.cell? ⟨b, i, none⟩ = some u → w'.cell? ⟨b, i, none⟩ = some u
theorem veil_le (w : World) (p : Nat → Bool) : CLe (w.veil p) w := fun b i u h => by
  rw [veil_cell] at h
  cases hp : p b
  · rw [hp] at h; exact h
  · rw [hp] at h; cases h
theorem cell_kept' {W W' : World} {b i : Nat} {v : Value} (hb : Below W.heap.size W W') (h : W.cell? ⟨b, i, none⟩ = some v) : W'.cell? ⟨b, i, none⟩ = some v := by
  rw [hb.cell (p := ⟨b, i, none⟩) (World.block_lt_of_cell? W _ h)]
  exact h
theorem veil_below {w w' : World} (p : Nat → Bool) (hb : Below w.heap.size w w') : CLe (w.veil p) (w'.veil p) := fun b i u h => by
  rw [veil_cell] at h ⊢
  cases hp : p b
  · rw [hp] at h
    exact cell_kept' hb h
  · rw [hp] at h; cases h
theorem RowR.mono {w w' : World} {v : Value} {zs : List Int} (h : RowR w v zs) (hc : CLe w w') : RowR w' v zs := by
  obtain ⟨a, cap, rfl, h⟩ := h
  refine ⟨a, cap, rfl, ?_⟩
  rcases h with h | ⟨b, off, rfl, h⟩
  · exact .inl h
  · exact .inr ⟨b, off, rfl, fun i hi => hc _ _ _ (h i hi)⟩
theorem RowsR.mono {w w' : World} {v : Value} {zss : List (List Int)} (h : RowsR w v zss) (hc : CLe w w') : RowsR w' v zss := by
  obtain ⟨a, cap, rfl, h⟩ := h
  refine ⟨a, cap, rfl, ?_⟩
  rcases h with h | ⟨b, off, rfl, h⟩
  · exact .inl h
  · refine .inr ⟨b, off, rfl, fun i hi => ?_⟩
    obtain ⟨u, h1, h2⟩ := h i hi
    exact ⟨u, hc _ _ _ h1, h2.mono hc⟩
theorem MemR.mono {w w' : World} {v : Value} {M : Mem} (h : MemR w v M) (hc : CLe w w') : MemR w' v M := by
  obtain ⟨vr, vm, rfl, h1, h2⟩ := h
  exact ⟨vr, vm, rfl, h1.mono hc, h2.mono hc⟩
theorem RowR.unveil {w : World} {p : Nat → Bool} {v : Value} {zs : List Int} (h : RowR (w.veil p) v zs) : RowR w v zs := h.mono (veil_le w p)
theorem RowsR.unveil {w : World} {p : Nat → Bool} {v : Value} {zs : List (List Int)} (h : RowsR (w.veil p) v zs) : RowsR w v zs := h.mono (veil_le w p)
theorem MemR.unveil {w : World} {p : Nat → Bool} {v : Value} {M : Mem} (h : MemR (w.veil p) v M) : MemR w v M := h.mono (veil_le w p)
theorem RowR.veil_below {w w' : World} {p : Nat → Bool} {v : Value} {zs : List Int} (h : RowR (w.veil p) v zs) (hb : Below w.heap.size w w') : RowR (w'.veil p) v zs := h.mono (Go.Proofs.YtifcdojaocndhaaDoor.veil_below p hb)
theorem MemR.veil_below {w w' : World} {p : Nat → Bool} {v : Value} {M : Mem} (h : MemR (w.veil p) v M) (hb : Below w.heap.size w w') : MemR (w'.veil p) v M := h.mono (Go.Proofs.YtifcdojaocndhaaDoor.veil_below p hb)
theorem RowO.veil {w : World} {p : Nat → Bool} {g : Nat} {v : Value} {zs : List Int} (h : RowO w g v zs) (hp : p g = false) : RowO (w.veil p) g v zs := h.kept (by rw [veil_heap, hp]; cases w.heap[g]? <;> rfl)
end Go.Proofs.YtifcdojaocndhaaDoor

/- The specification's machine, as it lies in a world while an instruction is done. -/
namespace Go.Proofs.YtifcdojaocndhaaDoor
open Go.ChangeShapes Go.WideShapes Go.ChangeAt Go.RowKit
set_option linter.unusedVariables false
set_option linter.unusedSimpArgs false

abbrev macA (c : Cp) (vr vm : Value) (p s : Int) (l : Bool) (cv : Value) (n : Nat) : Array Value :=
  #[.int .i64 (c.b : Int), .int .i64 (c.c : Int), .int .i64 (c.d : Int), .int .i64 (c.e : Int), .int .i64 (c.h : Int), .int .i64 (c.l : Int), .int .i64 0, .int .i64 (c.a : Int), .int .i64 (c.f : Int), .int .i64 (c.sp : Int), .int .i64 (c.pc : Int), .bool c.iff, .bool c.ei, .bool c.halt,
    vr, vm, .int .i64 p, .int .i64 s, .bool l, cv, .int .i64 (n : Int)]
def cyV (l : List (Nat × Nat × Nat)) : List Value := l.flatMap fun x => [.int .i64 (x.1 : Int), .int .i64 (x.2.1 : Int), .int .i64 (x.2.2 : Int)]
theorem cyV_snoc (l : List (Nat × Nat × Nat)) (k a v : Nat) : cyV (l ++ [(k, a, v)]) = cyV l ++ [.int .i64 (k : Int), .int .i64 (a : Int), .int .i64 (v : Int)] := by simp [cyV]
theorem cyV_len (l : List (Nat × Nat × Nat)) : (cyV l).length = l.length * 3 := by
  induction l with
  | nil => rfl
  | cons x t ih => simp [cyV, List.flatMap_cons] at ih ⊢; omega
/-- the blocks that the machine writes into -/
def vl (k : List (Nat × Array Value)) (X : Nat) (cv : Value) : Nat → Bool := fun b => b == X || cv.ownBlock == some b || k.any (fun p => p.1 == b)
theorem vl_X (k : List (Nat × Array Value)) (X : Nat) (cv : Value) : vl k X cv X = true := by simp [vl]
theorem vl_own {k : List (Nat × Array Value)} {X g : Nat} {cv : Value} (h : cv.ownBlock = some g) : vl k X cv g = true := by simp [vl, h]
theorem vl_in {k : List (Nat × Array Value)} {X b : Nat} {cv : Value} {A : Array Value} (h : (b, A) ∈ k) : vl k X cv b = true := by
  have : k.any (fun p => p.1 == b) = true := List.any_eq_true.2 ⟨_, h, by simp⟩
  simp [vl, this]
theorem vl_no {k : List (Nat × Array Value)} {X b : Nat} {cv : Value} (h1 : b ≠ X) (h2 : cv.ownBlock ≠ some b) (h3 : ∀ A, (b, A) ∉ k) : vl k X cv b = false := by
  have : k.any (fun p => p.1 == b) = false := by
    rw [List.any_eq_false]
    intro p hp e
    have e2 : p.1 = b := by simpa using e
    exact h3 p.2 (by rw [← e2]; exact hp)
  simp [vl, h1, h2, this]
theorem vl_cases {k : List (Nat × Array Value)} {X b : Nat} {cv : Value} (h : vl k X cv b = true) : b = X ∨ cv.ownBlock = some b ∨ ∃ A, (b, A) ∈ k := by
  unfold vl at h
  simp only [Bool.or_eq_true, beq_iff_eq] at h
  rcases h with (h | h) | h
  · exact .inl h
  · exact .inr (.inl h)
  · obtain ⟨p, hp, e⟩ := List.any_eq_true.1 h
    have e2 : p.1 = b := by simpa using e
    exact .inr (.inr ⟨p.2, by rw [← e2]; exact hp⟩)
/-- the world at first, and blocks that must stay as they are -/
structure Bs extends World where
  k : List (Nat × Array Value)
structure NSt (w : Bs) (W : World) (X : Nat) (x : Mx) (n : Nat) (vr vm cv : Value) : Prop where
  blk : Blk W X (macA x.c vr vm x.m.page x.m.screen x.m.locked cv n)
  own : W.ownsRow w.heap.size 108 3 cv x.cy.length (cyV x.cy)
  mem : MemR (W.veil (vl w.k X cv)) (memV vr vm x.m.page x.m.screen x.m.locked) x.m
  ne : cv.ownBlock ≠ some X
  bel : Below w.heap.size w.toWorld W
  far : w.heap.size ≤ X
  keep : ∀ b A, (b, A) ∈ w.k → Blk W b A ∧ b ≠ X ∧ cv.ownBlock ≠ some b
theorem own3_below {W W' : World} {lo n : Nat} {e : TypeId} {v : Value} {xs : List Value} {z : Nat} (h : W.ownsRow lo e z v n xs) (hb : Below W.heap.size W W') : W'.ownsRow lo e z v n xs :=
  h.kept (row := none) ⟨hb.os, hb.tape, hb.output, hb.size, fun k hk _ => hb.block k hk⟩ (by cases v.ownBlock <;> simp)
theorem NSt.below {w : Bs} {W W' : World} {X : Nat} {x : Mx} {n : Nat} {vr vm cv : Value} (h : NSt w W X x n vr vm cv) (hb : Below W.heap.size W W') : NSt w W' X x n vr vm cv :=
  ⟨h.blk.below hb h.blk.lt, own3_below h.own hb, h.mem.veil_below hb, h.ne, h.bel.trans (hb.mono h.bel.size), h.far, fun b A hm => ⟨(h.keep b A hm).1.below hb (h.keep b A hm).1.lt, (h.keep b A hm).2⟩⟩
theorem set_grown (W : World) (b i : Nat) (u : Value) : W.grownBy (W.setCell ⟨b, i, none⟩ u) (some b) :=
  ⟨rfl, rfl, rfl, by simp [World.setCell], fun k hk hne => Below.heap_setCell _ _ _ _ (fun e => hne (by rw [e]))⟩
/-- what is hidden may turn -/
theorem cle_grown {W W' : World} {p q : Nat → Bool} {row : Option Nat} (hg : W.grownBy W' row) (hr : ∀ b, row = some b → p b = true) (hq : ∀ b, b < W.heap.size → q b = true → p b = true) : CLe (W.veil p) (W'.veil q) := fun b i u h => by
  rw [veil_cell] at h ⊢
  cases hp : p b
  · rw [hp] at h
    have hlt : b < W.heap.size := World.block_lt_of_cell? W _ h
    have hq' : q b = false := by
      cases hh : q b
      · rfl
      · rw [hq b hlt hh] at hp; cases hp
    rw [hq']
    have e : W'.heap[b]? = W.heap[b]? := hg.block b hlt (fun e => by rw [hr b e.symm] at hp; cases hp)
    show W'.cell? ⟨b, i, none⟩ = some u
    rw [World.cell?_of_block (w := W) (a := ⟨b, i, none⟩) e]
    exact h
  · rw [hp] at h; cases h
/-- a cell of the machine is set: a number of the processor -/
theorem NSt.put {w : Bs} {W : World} {X : Nat} {x : Mx} {n : Nat} {vr vm cv : Value} (h : NSt w W X x n vr vm cv) (i : Nat) (u : Value) (c' : Cp) (hc : (macA x.c vr vm x.m.page x.m.screen x.m.locked cv n).setIfInBounds i u = macA c' vr vm x.m.page x.m.screen x.m.locked cv n) : NSt w (W.setCell ⟨X, i, none⟩ u) X { x with c := c' } n vr vm cv := by
  have hg := set_grown W X i u
  refine ⟨?_, h.own.kept hg (.inr h.ne), h.mem.mono (cle_grown hg (fun b e => by cases e; exact vl_X _ _ _) (fun b _ hq => hq)), h.ne, h.bel.setCell (p := ⟨X, i, none⟩) h.far u, h.far, fun b A hm => ⟨(h.keep b A hm).1.other (h.keep b A hm).2.1 _, (h.keep b A hm).2⟩⟩
  have := h.blk.set i u
  rw [hc] at this
  exact this
/-- a cycle is noted: the slice has grown, and is stored -/
theorem NSt.noted {w : Bs} {W w2 : World} {X : Nat} {x : Mx} {n : Nat} {vr vm cv : Value} {g c k a v : Nat} {o : Obj} (h : NSt w W X x n vr vm cv)
    (ho : w2.ownsRow w.heap.size 108 3 (.slice (some ⟨g, 0, none⟩) (x.cy.length + 1) c) (x.cy.length + 1) (cyV x.cy ++ [.int .i64 (k : Int), .int .i64 (a : Int), .int .i64 (v : Int)])) (hg : (W.alloc o).grownBy w2 cv.ownBlock) (hat : cv.ownBlock = some g ∨ g = (W.alloc o).heap.size) :
    NSt w (w2.setCell ⟨X, 19, none⟩ (.slice (some ⟨g, 0, none⟩) (x.cy.length + 1) c)) X (x.note k a v) n vr vm (.slice (some ⟨g, 0, none⟩) (x.cy.length + 1) c) := by
  have hXl := h.blk.lt
  have hgX : g ≠ X := by
    rcases hat with e | e
    · intro e2; rw [e2] at e; exact h.ne e
    · rw [World.size_alloc] at e; omega
  have hbase := h.bel.size
  have hlo : ∀ b, cv.ownBlock = some b → w.heap.size ≤ b ∧ b < W.heap.size := fun b hb => h.own.lt b hb
  have hge : w.heap.size ≤ g := by
    rcases hat with e | e
    · exact (hlo g e).1
    · rw [World.size_alloc] at e; omega
  have hs2 := set_grown w2 X 19 (.slice (some ⟨g, 0, none⟩) (x.cy.length + 1) c)
  have hb1 : Below W.heap.size W (W.alloc o) := (Below.refl _ _).alloc (Nat.le_refl _) o
  have q2 : Blk w2 X (macA x.c vr vm x.m.page x.m.screen x.m.locked cv n) := (h.blk.alloc o).grown hg (fun e => h.ne e.symm)
  refine ⟨q2.set 19 _, ?_, ?_, by simpa [Value.ownBlock] using hgX, ((h.bel.alloc hbase o).grown hg (by simp; omega) (fun b hb => (hlo b hb).1)).setCell (p := ⟨X, 19, none⟩) h.far _, h.far, ?_⟩
  rotate_left
  rotate_left
  · intro b A hm
    obtain ⟨k1, k2, k3⟩ := h.keep b A hm
    have kl := k1.lt
    refine ⟨((k1.alloc o).grown hg (fun e => k3 e.symm)).other k2 _, k2, ?_⟩
    show (some g : Option Nat) ≠ some b
    intro e
    rcases hat with e2 | e2
    · exact k3 (by rw [e2]; exact e)
    · rw [World.size_alloc] at e2
      have : g = b := by simpa using e
      omega
  · have : (x.note k a v).cy = x.cy ++ [(k, a, v)] := rfl
    rw [this, cyV_snoc, List.length_append]
    exact ho.kept hs2 (.inr (by simpa [Value.ownBlock] using hgX))
  · have m1 : MemR ((W.alloc o).veil (vl w.k X cv)) (memV vr vm x.m.page x.m.screen x.m.locked) x.m := h.mem.veil_below hb1
    refine (m1.mono (cle_grown (q := vl w.k X (.slice (some ⟨g, 0, none⟩) (x.cy.length + 1) c)) hg (fun b e => vl_own e) (fun b hb hq => ?_))).mono (cle_grown hs2 (fun b e => by cases e; exact vl_X _ _ _) (fun b _ hq => hq))
    rcases vl_cases hq with rfl | hq | ⟨A, hA⟩
    · exact vl_X _ _ _
    · have hq : g = b := by simpa [Value.ownBlock] using hq
      subst hq
      rcases hat with e | e
      · exact vl_own e
      · omega
    · exact vl_in hA
/-- the memory is another one: its five cells are set -/
theorem NSt.poked {w : Bs} {W : World} {X : Nat} {x : Mx} {n : Nat} {vr vm cv vr' vm' : Value} {M' : Mem} (h : NSt w W X x n vr vm cv) (hm : MemR (W.veil (vl w.k X cv)) (memV vr' vm' M'.page M'.screen M'.locked) M') :
    NSt w (((((W.setCell ⟨X, 14, none⟩ vr').setCell ⟨X, 15, none⟩ vm').setCell ⟨X, 16, none⟩ (.int .i64 M'.page)).setCell ⟨X, 17, none⟩ (.int .i64 M'.screen)).setCell ⟨X, 18, none⟩ (.bool M'.locked)) X { x with m := M' } n vr' vm' cv := by
  have hX : ∀ (V : World) (i : Nat) (u : Value), CLe (V.veil (vl w.k X cv)) ((V.setCell ⟨X, i, none⟩ u).veil (vl w.k X cv)) := fun V i u => cle_grown (set_grown V X i u) (fun b e => by cases e; exact vl_X _ _ _) (fun b _ hq => hq)
  have hO : ∀ (V : World) (i : Nat) (u : Value), V.ownsRow w.heap.size 108 3 cv x.cy.length (cyV x.cy) → (V.setCell ⟨X, i, none⟩ u).ownsRow w.heap.size 108 3 cv x.cy.length (cyV x.cy) := fun V i u ho => ho.kept (set_grown V X i u) (.inr h.ne)
  refine ⟨((((h.blk.set 14 vr').set 15 vm').set 16 _).set 17 _).set 18 _, hO _ _ _ (hO _ _ _ (hO _ _ _ (hO _ _ _ (hO _ _ _ h.own)))), ((((hm.mono (hX _ _ _)).mono (hX _ _ _)).mono (hX _ _ _)).mono (hX _ _ _)).mono (hX _ _ _), h.ne, ?_, h.far, fun b A hm => ⟨(((((h.keep b A hm).1.other (h.keep b A hm).2.1 _).other (h.keep b A hm).2.1 _).other (h.keep b A hm).2.1 _).other (h.keep b A hm).2.1 _).other (h.keep b A hm).2.1 _, (h.keep b A hm).2⟩⟩
  exact ((((h.bel.setCell (p := ⟨X, 14, none⟩) h.far _).setCell (p := ⟨X, 15, none⟩) h.far _).setCell (p := ⟨X, 16, none⟩) h.far _).setCell (p := ⟨X, 17, none⟩) h.far _).setCell (p := ⟨X, 18, none⟩) h.far _
/-- one more block stays as it is -/
theorem NSt.more {w : Bs} {W : World} {X : Nat} {x : Mx} {n : Nat} {vr vm cv : Value} (h : NSt w W X x n vr vm cv) {b : Nat} {A : Array Value} (hb : Blk W b A) (hx : b ≠ X) (hc : cv.ownBlock ≠ some b) (hm : MemR (W.veil (vl ((b, A) :: w.k) X cv)) (memV vr vm x.m.page x.m.screen x.m.locked) x.m) : NSt { w with k := (b, A) :: w.k } W X x n vr vm cv :=
  ⟨h.blk, h.own, hm, h.ne, h.bel, h.far, fun b' A' hm => by
    rcases List.mem_cons.1 hm with e | e
    · cases e; exact ⟨hb, hx, hc⟩
    · exact h.keep _ _ e⟩
/-- a thing is made, and stays as it is from then on -/
theorem NSt.made {w : Bs} {W W' : World} {X : Nat} {x : Mx} {n : Nat} {vr vm cv : Value} (h : NSt w W X x n vr vm cv) {A : Array Value} (hb : Below W.heap.size W W') (hq : Blk W' W.heap.size A) : NSt { w with k := (W.heap.size, A) :: w.k } W' X x n vr vm cv := by
  refine (h.below hb).more hq (by have := h.blk.lt; omega) (fun e => by have := (h.own.lt _ e).2; omega) (h.mem.mono (fun b i u hu => ?_))
  rw [veil_cell] at hu ⊢
  cases hp : vl w.k X cv b
  · rw [hp] at hu
    have hlt : b < W.heap.size := World.block_lt_of_cell? W _ hu
    have hn : vl ((W.heap.size, A) :: w.k) X cv b = false := by
      cases hh : vl ((W.heap.size, A) :: w.k) X cv b
      · rfl
      · rcases vl_cases hh with rfl | e | ⟨B, hB⟩
        · rw [vl_X] at hp; cases hp
        · rw [vl_own e] at hp; cases hp
        · rcases List.mem_cons.1 hB with e | e
          · cases e; omega
          · rw [vl_in e] at hp; cases hp
    rw [hn]
    show W'.cell? ⟨b, i, none⟩ = some u
    rw [World.cell?_of_block (w := W) (a := ⟨b, i, none⟩) (hb.block b hlt)]
    exact hu
  · rw [hp] at hu; cases hu
/-- a thing is boxed: it stays as it is -/
theorem NSt.boxed {w : Bs} {W : World} {X : Nat} {x : Mx} {n : Nat} {vr vm cv : Value} (h : NSt w W X x n vr vm cv) (A : Array Value) (t : TypeId) : NSt { w with k := (W.heap.size, A) :: w.k } (W.alloc (.cells A t)) X x n vr vm cv :=
  h.made ((Below.refl _ _).alloc (Nat.le_refl _) _) (Blk.new W A t)
theorem NSt.less {w : Bs} {W : World} {X : Nat} {x : Mx} {n : Nat} {vr vm cv : Value} {p : Nat × Array Value} (h : NSt { w with k := p :: w.k } W X x n vr vm cv) : NSt w W X x n vr vm cv := by
  refine ⟨h.blk, h.own, h.mem.mono (fun b i u hu => ?_), h.ne, h.bel, h.far, fun b' A' hm => h.keep _ _ (List.mem_cons_of_mem _ hm)⟩
  rw [veil_cell] at hu ⊢
  cases hp : vl (p :: w.k) X cv b
  · rw [hp] at hu
    have hn : vl w.k X cv b = false := by
      cases hh : vl w.k X cv b
      · rfl
      · rcases vl_cases hh with rfl | e | ⟨B, hB⟩
        · rw [vl_X] at hp; cases hp
        · rw [vl_own e] at hp; cases hp
        · rw [vl_in (List.mem_cons_of_mem _ hB)] at hp; cases hp
    rw [hn]
    exact hu
  · rw [hp] at hu; cases hu
theorem NSt.kept {w : Bs} {W : World} {X : Nat} {x : Mx} {n : Nat} {vr vm cv : Value} {b : Nat} {A : Array Value} (h : NSt { w with k := (b, A) :: w.k } W X x n vr vm cv) : Blk W b A := (h.keep b A (List.mem_cons_self ..)).1
theorem NSt.drew {w : Bs} {W : World} {X : Nat} {x : Mx} {n : Nat} {vr vm cv : Value} (h : NSt w W X x n vr vm cv) : NSt w W.drew X x n vr vm cv := h.below ⟨rfl, rfl, rfl, Nat.le_refl _, fun _ _ => rfl⟩
end Go.Proofs.YtifcdojaocndhaaDoor
