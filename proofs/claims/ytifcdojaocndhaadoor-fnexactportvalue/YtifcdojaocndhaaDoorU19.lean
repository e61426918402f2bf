/- What the specification's sum and difference answer, as plain functions of natural numbers. -/
import Derived.Test.YtifcdojaocndhaaDoorU18
import Derived.Test.YtifcdojaocndhaaDoorU16
namespace Go.Proofs.YtifcdojaocndhaaDoor
open Go.ChangeShapes Go.WideShapes Go.ChangeAt Go.RowKit
set_option linter.unusedVariables false

theorem or4 (s c h p : Nat) (hs : s < 256) (hc : c < 256) (hh : h < 256) (hp : p < 256) :
    bits .or .i64 (bits .or .i64 (bits .or .i64 (s : Int) (c : Int)) (h : Int)) (p : Int) = ((Nat.lor (Nat.lor (Nat.lor s c) h) p : Nat) : Int) := by
  have h1 : Nat.lor s c < 2 ^ 8 := Nat.or_lt_two_pow hs hc
  have h2 : Nat.lor (Nat.lor s c) h < 2 ^ 8 := Nat.or_lt_two_pow h1 hh
  rw [bOr s c (by omega) (by omega), bOr _ h (by omega) (by omega), bOr _ p (by omega) (by omega)]

/-- the sum's byte and its flags -/
def addV (a b c : Nat) : Nat := Nat.land (Nat.add (Nat.add a b) c) 255
def addF (a b c : Nat) : Nat :=
  Nat.lor (Nat.lor (Nat.lor (szN (addV a b c)) (btN (Nat.ble 256 (Nat.add (Nat.add a b) c)))) (Nat.mul 16 (btN (Nat.ble 16 (Nat.add (Nat.add (Nat.land a 15) (Nat.land b 15)) c)))))
    (Nat.mul 4 (btN (and (Nat.beq (Nat.land (Nat.xor a b) 128) 0) (not (Nat.beq (Nat.land (Nat.xor a (addV a b c)) 128) 0)))))
theorem addV_lt (a b c : Nat) : addV a b c < 256 := Nat.and_lt_two_pow (n := 8) _ (by decide)

theorem i64_and255 (n : Int) : bits .and .i64 n 255 = n % 256 := by
  have h255 : (BitVec.ofInt 64 255).toNat = 2 ^ 8 - 1 := by decide
  have key : (BitVec.ofInt 64 n &&& BitVec.ofInt 64 255).toNat = (n % ((2 ^ 64 : Nat) : Int)).toNat % 2 ^ 8 := by
    rw [BitVec.toNat_and, BitVec.toNat_ofInt, h255, Nat.and_two_pow_sub_one_eq_mod]
  show IntKind.i64.wrap ((BitVec.ofInt 64 n &&& BitVec.ofInt 64 255).toNat : Nat) = n % 256
  rw [key, IntKind.wrap_i64]
  omega
theorem or5 (s n c h p : Nat) (hs : s < 256) (hn : n < 256) (hc : c < 256) (hh : h < 256) (hp : p < 256) :
    bits .or .i64 (bits .or .i64 (bits .or .i64 (bits .or .i64 (s : Int) (n : Int)) (c : Int)) (h : Int)) (p : Int) = ((Nat.lor (Nat.lor (Nat.lor (Nat.lor s n) c) h) p : Nat) : Int) := by
  have h1 : Nat.lor s n < 2 ^ 8 := Nat.or_lt_two_pow hs hn
  rw [bOr s n (by omega) (by omega)]
  exact or4 (Nat.lor s n) c h p h1 hc hh hp
/-- the difference's byte and its flags -/
def subV (a b c : Nat) : Nat := Nat.land (Nat.sub (Nat.sub (Nat.add a 512) b) c) 255
def subF (a b c : Nat) : Nat :=
  Nat.lor (Nat.lor (Nat.lor (Nat.lor (szN (subV a b c)) 2) (btN (Nat.ble (Nat.add a 1) (Nat.add b c)))) (Nat.mul 16 (btN (Nat.ble (Nat.add (Nat.land a 15) 1) (Nat.add (Nat.land b 15) c)))))
    (Nat.mul 4 (btN (and (not (Nat.beq (Nat.land (Nat.xor a b) 128) 0)) (not (Nat.beq (Nat.land (Nat.xor a (subV a b c)) 128) 0)))))
theorem subV_lt (a b c : Nat) : subV a b c < 256 := Nat.and_lt_two_pow (n := 8) _ (by decide)
theorem subV_int (a b c : Nat) (ha : a < 256) (hb : b < 256) (hc : c < 2) : bits .and .i64 ((a : Int) - b - c) 255 = (subV a b c : Nat) := by
  have h : subV a b c = (a + 512 - b - c) % 2 ^ 8 := Nat.and_two_pow_sub_one_eq_mod (a + 512 - b - c) 8
  rw [i64_and255, h]
  omega

end Go.Proofs.YtifcdojaocndhaaDoor

/- What the specification's steps and logic answer, and its sum, difference, steps and logic as they are asked. -/
namespace Go.Proofs.YtifcdojaocndhaaDoor
open Go.ChangeShapes Go.WideShapes Go.ChangeAt Go.RowKit
set_option linter.unusedVariables false

def incV (a : Nat) : Nat := Nat.land (Nat.add a 1) 255
def incF (a f : Nat) : Nat := Nat.lor (Nat.lor (Nat.lor (Nat.land f 1) (szN (incV a))) (Nat.mul 16 (btN (Nat.beq (Nat.land a 15) 15)))) (Nat.mul 4 (btN (Nat.beq a 127)))
theorem incV_lt (a : Nat) : incV a < 256 := Nat.and_lt_two_pow (n := 8) _ (by decide)
theorem incV_int (a : Nat) (ha : a < 256) : bits .and .i64 ((a : Int) + 1) 255 = (incV a : Nat) := by
  have h : incV a = (a + 1) % 2 ^ 8 := Nat.and_two_pow_sub_one_eq_mod (a + 1) 8
  rw [i64_and255, h]
  omega

def decV (a : Nat) : Nat := Nat.land (Nat.add a 255) 255
def decF (a f : Nat) : Nat := Nat.lor (Nat.lor (Nat.lor (Nat.lor (Nat.land f 1) (szN (decV a))) 2) (Nat.mul 16 (btN (Nat.beq (Nat.land a 15) 0)))) (Nat.mul 4 (btN (Nat.beq a 128)))
theorem decV_lt (a : Nat) : decV a < 256 := Nat.and_lt_two_pow (n := 8) _ (by decide)
theorem decV_int (a : Nat) (ha : a < 256) : bits .and .i64 ((a : Int) - 1) 255 = (decV a : Nat) := by
  have h : decV a = (a + 255) % 2 ^ 8 := Nat.and_two_pow_sub_one_eq_mod (a + 255) 8
  rw [i64_and255, h]
  omega

def logV (op a b : Nat) : Nat := cond (Nat.beq op 0) (Nat.land a b) (cond (Nat.beq op 1) (Nat.xor a b) (Nat.lor a b))
def logF (op a b : Nat) : Nat := cond (Nat.beq op 0) (Nat.lor (szpN (Nat.land a b)) 16) (szpN (logV op a b))
end Go.Proofs.YtifcdojaocndhaaDoor

/- What the specification's turns answer, as plain functions of natural numbers. -/
namespace Go.Proofs.YtifcdojaocndhaaDoor
open Go.ChangeShapes Go.WideShapes Go.ChangeAt Go.RowKit
set_option linter.unusedVariables false

theorem orAnd (x y : Nat) (hx : x < 32768) (hy : y < 32768) : bits .and .i64 (bits .or .i64 (x : Int) (y : Int)) 255 = ((Nat.land (Nat.lor x y) 255 : Nat) : Int) := by
  have h1 : Nat.lor x y < 2 ^ 15 := Nat.or_lt_two_pow (by omega) (by omega)
  rw [bOr x y (by omega) (by omega)]
  exact bAnd _ 255 (by omega) (by omega)

def turnO (op a : Nat) : Nat := cond (Nat.beq (Nat.land op 1) 1) (Nat.land a 1) (Nat.div a 128)
def turnV : Nat → Nat → Nat → Nat
  | 0, a, _ => Nat.land (Nat.lor (Nat.mul a 2) (Nat.div a 128)) 255
  | 1, a, _ => Nat.land (Nat.lor (Nat.div a 2) (Nat.mul (Nat.land a 1) 128)) 255
  | 2, a, c => Nat.land (Nat.lor (Nat.mul a 2) c) 255
  | 3, a, c => Nat.land (Nat.lor (Nat.div a 2) (Nat.mul c 128)) 255
  | 4, a, _ => Nat.land (Nat.mul a 2) 255
  | 5, a, _ => Nat.land (Nat.lor (Nat.div a 2) (Nat.land a 128)) 255
  | 6, a, _ => Nat.land (Nat.lor (Nat.mul a 2) 1) 255
  | 7, a, _ => Nat.land (Nat.div a 2) 255
  | _, _, _ => 0
def turnF (op a c : Nat) : Nat := Nat.lor (szpN (turnV op a c)) (turnO op a)
def turnW (op a f : Nat) : Nat := turnV op a (Nat.land f 1)
def turnG (op a f : Nat) : Nat := turnF op a (Nat.land f 1)
end Go.Proofs.YtifcdojaocndhaaDoor

/- What the specification's decimal adjustment and its test of a bit answer, as plain functions of natural numbers. -/
namespace Go.Proofs.YtifcdojaocndhaaDoor
open Go.ChangeShapes Go.WideShapes Go.ChangeAt Go.RowKit
set_option linter.unusedVariables false

def tstF (bit a f : Nat) : Nat :=
  Nat.lor (Nat.lor (Nat.lor (Nat.lor (Nat.land f 1) 16) (Nat.land a 40)) (Nat.land (Nat.land a (Nat.pow 2 bit)) 128)) (Nat.mul 68 (btN (Nat.beq (Nat.land a (Nat.pow 2 bit)) 0)))

def daaX (a f : Nat) : Nat := Nat.add (cond (or (not (Nat.beq (Nat.land f 16) 0)) (Nat.ble 10 (Nat.land a 15))) 6 0) (cond (or (Nat.beq (Nat.land f 1) 1) (Nat.ble 154 a)) 96 0)
def daaV (a f : Nat) : Nat := cond (Nat.beq (Nat.land f 2) 0) (Nat.land (Nat.add a (daaX a f)) 255) (Nat.land (Nat.sub (Nat.add a 512) (daaX a f)) 255)
def daaC (a f : Nat) : Nat := cond (or (Nat.beq (Nat.land f 1) 1) (Nat.ble 154 a)) 1 0
def daaH (a f : Nat) : Nat := cond (Nat.beq (Nat.land f 2) 0) (btN (Nat.ble 10 (Nat.land a 15))) (btN (and (not (Nat.beq (Nat.land f 16) 0)) (Nat.ble (Nat.add (Nat.land a 15) 1) 6)))
def daaF (a f : Nat) : Nat := Nat.lor (Nat.lor (Nat.lor (szpN (daaV a f)) (Nat.land f 2)) (daaC a f)) (Nat.mul 16 (daaH a f))
end Go.Proofs.YtifcdojaocndhaaDoor

/- The processor, as plain numbers: what an instruction does. -/
namespace Go.Proofs.YtifcdojaocndhaaDoor
open Go.ChangeShapes Go.WideShapes Go.ChangeAt Go.RowKit
set_option linter.unusedVariables false
set_option linter.unusedSimpArgs false

structure Cp where
  b : Nat
  c : Nat
  d : Nat
  e : Nat
  h : Nat
  l : Nat
  a : Nat
  f : Nat
  sp : Nat
  pc : Nat
  iff : Bool
  ei : Bool
  halt : Bool
/-- what an instruction works on: the processor, the memory, the cycles so far -/
structure Mx where
  c : Cp
  m : Mem
  cy : List (Nat × Nat × Nat)
/-- all are bytes -/
def Cp.ok (c : Cp) : Prop := c.b < 256 ∧ c.c < 256 ∧ c.d < 256 ∧ c.e < 256 ∧ c.h < 256 ∧ c.l < 256 ∧ c.a < 256 ∧ c.f < 256 ∧ c.sp < 256 ∧ c.pc < 256
def Mx.ok (x : Mx) : Prop := x.c.ok ∧ okM x.m = true
def peekN (M : Mem) (a : Nat) : Nat := (peekI M (a : Int)).toNat
def Cp.reg (c : Cp) : Nat → Nat
  | 0 => c.b
  | 1 => c.c
  | 2 => c.d
  | 3 => c.e
  | 4 => c.h
  | 5 => c.l
  | 6 => 0
  | _ => c.a
def Cp.put (c : Cp) (v : Nat) : Nat → Cp
  | 0 => { c with b := v }
  | 1 => { c with c := v }
  | 2 => { c with d := v }
  | 3 => { c with e := v }
  | 4 => { c with h := v }
  | 5 => { c with l := v }
  | 6 => c
  | _ => { c with a := v }
def Mx.note (x : Mx) (k a v : Nat) : Mx := { x with cy := x.cy ++ [(k, a, v)] }
def Mx.read (x : Mx) (a : Nat) : Mx := x.note 2 a (peekN x.m a)
def Mx.write (x : Mx) (a v : Nat) : Mx := { x with m := pokeM x.m (a : Int) (v : Int), cy := x.cy ++ [(3, a, v)] }
/-- a register's value, and what is left when it has been asked for -/
def Mx.getV (x : Mx) (r : Nat) : Nat := if r = 6 then peekN x.m x.c.h else x.c.reg r
def Mx.getX (x : Mx) (r : Nat) : Mx := if r = 6 then x.read x.c.h else x
def Mx.set (x : Mx) (r v : Nat) : Mx := if r = 6 then x.write x.c.h v else { x with c := x.c.put v r }
def Mx.push (x : Mx) (v : Nat) : Mx := ({ x with c := { x.c with sp := (x.c.sp + 255) % 256 } } : Mx).write ((x.c.sp + 255) % 256) v
def Mx.popV (x : Mx) : Nat := peekN x.m x.c.sp
def Mx.popX (x : Mx) : Mx := { x.read x.c.sp with c := { x.c with sp := (x.c.sp + 1) % 256 } }
def holdN (f k : Nat) : Bool :=
  if k = 0 ∨ k = 1 then (Nat.land f 64 != 0) == (k == 1) else if k = 2 ∨ k = 3 then (Nat.land f 1 != 0) == (k == 3) else if k = 4 ∨ k = 5 then (Nat.land f 4 != 0) == (k == 5) else if k = 6 then Nat.land f 128 != 0 else true
def aluV (op a b f : Nat) : Nat := if op = 0 then addV a b 0 else if op = 1 then addV a b (Nat.land f 1) else if op = 2 then subV a b 0 else if op = 3 then subV a b (Nat.land f 1) else if op = 7 then a else logV (op - 4) a b
def aluF (op a b f : Nat) : Nat := if op = 0 then addF a b 0 else if op = 1 then addF a b (Nat.land f 1) else if op = 2 then subF a b 0 else if op = 3 then subF a b (Nat.land f 1) else if op = 7 then Nat.lor (Nat.land (subF a b 0) 215) (Nat.land b 40) else logF (op - 4) a b
def Mx.alu (x : Mx) (op b : Nat) : Mx := { x with c := { x.c with a := aluV op x.c.a b x.c.f, f := aluF op x.c.a b x.c.f } }
def copyF (f n b : Nat) : Nat := Nat.lor (Nat.lor (Nat.lor (Nat.land f 193) (Nat.land n 8)) (Nat.land (n * 16) 32)) (if b = 0 then 0 else 4)
def Mx.copy (x : Mx) : Mx :=
  let v := peekN x.m x.c.h
  let y := (x.read x.c.h).write x.c.d v
  { y with c := { x.c with h := (x.c.h + 1) % 256, d := (x.c.d + 1) % 256, b := (x.c.b + 255) % 256, f := copyF x.c.f (v + x.c.a) ((x.c.b + 255) % 256) } }
theorem reg_lt {c : Cp} (h : c.ok) (r : Nat) : c.reg r < 256 := by
  obtain ⟨h0, h1, h2, h3, h4, h5, h6, _⟩ := h
  unfold Cp.reg
  split <;> omega
end Go.Proofs.YtifcdojaocndhaaDoor

/- A memory that does not lie in certain blocks: what is written elsewhere does not turn it; a byte poked keeps it so. -/
namespace Go.Proofs.YtifcdojaocndhaaDoor
open Go.ChangeShapes Go.WideShapes Go.ChangeAt Go.RowKit
set_option linter.unusedVariables false
set_option linter.unusedSimpArgs false

/-- the world without what certain blocks hold -/
def _root_.Go.World.veil (w : World) (p : Nat → Bool) : World := { w with heap := w.heap.mapIdx fun i o => if p i = true then .cells #[] 0 (0, 0) else o }
theorem veil_heap (w : World) (p : Nat → Bool) (b : Nat) : (w.veil p).heap[b]? = (w.heap[b]?).map fun o => if p b = true then .cells #[] 0 (0, 0) else o := by
  simp [World.veil, Array.getElem?_mapIdx]
theorem veil_cell (w : World) (p : Nat → Bool) (b i : Nat) : (w.veil p).cell? ⟨b, i, none⟩ = if p b = true then none else w.cell? ⟨b, i, none⟩ := by
  unfold World.cell?
  dsimp only
  rw [veil_heap]
  cases h : w.heap[b]? with
  | none => cases p b <;> simp
  | some o =>
    cases hp : p b
    · simp
    · simp
/-- whatever cell the one world has, the other has too -/
def CLe (w w' : World) : Prop := ∀ b i u, w.cell? ⟨b, i, none⟩ = some u → w'.cell? ⟨b, i, none⟩ = some u
theorem veil_le (w : World) (p : Nat → Bool) : CLe (w.veil p) w := fun b i u h => by
  rw [veil_cell] at h
  cases hp : p b
  · rw [hp] at h; exact h
  · rw [hp] at h; cases h
theorem cell_kept' {W W' : World} {b i : Nat} {v : Value} (hb : Below W.heap.size W W') (h : W.cell? ⟨b, i, none⟩ = some v) : W'.cell? ⟨b, i, none⟩ = some v := by
  rw [hb.cell (p := ⟨b, i, none⟩) (World.block_lt_of_cell? W _ h)]
  exact h
theorem veil_below {w w' : World} (p : Nat → Bool) (hb : Below w.heap.size w w') : CLe (w.veil p) (w'.veil p) := fun b i u h => by
  rw [veil_cell] at h ⊢
  cases hp : p b
  · rw [hp] at h
    exact cell_kept' hb h
  · rw [hp] at h; cases h
theorem RowR.mono {w w' : World} {v : Value} {zs : List Int} (h : RowR w v zs) (hc : CLe w w') : RowR w' v zs := by
  obtain ⟨a, cap, rfl, h⟩ := h
  refine ⟨a, cap, rfl, ?_⟩
  rcases h with h | ⟨b, off, rfl, h⟩
  · exact .inl h
  · exact .inr ⟨b, off, rfl, fun i hi => hc _ _ _ (h i hi)⟩
theorem RowsR.mono {w w' : World} {v : Value} {zss : List (List Int)} (h : RowsR w v zss) (hc : CLe w w') : RowsR w' v zss := by
  obtain ⟨a, cap, rfl, h⟩ := h
  refine ⟨a, cap, rfl, ?_⟩
  rcases h with h | ⟨b, off, rfl, h⟩
  · exact .inl h
  · refine .inr ⟨b, off, rfl, fun i hi => ?_⟩
    obtain ⟨u, h1, h2⟩ := h i hi
    exact ⟨u, hc _ _ _ h1, h2.mono hc⟩
theorem MemR.mono {w w' : World} {v : Value} {M : Mem} (h : MemR w v M) (hc : CLe w w') : MemR w' v M := by
  obtain ⟨vr, vm, rfl, h1, h2⟩ := h
  exact ⟨vr, vm, rfl, h1.mono hc, h2.mono hc⟩
theorem RowR.unveil {w : World} {p : Nat → Bool} {v : Value} {zs : List Int} (h : RowR (w.veil p) v zs) : RowR w v zs := h.mono (veil_le w p)
theorem RowsR.unveil {w : World} {p : Nat → Bool} {v : Value} {zs : List (List Int)} (h : RowsR (w.veil p) v zs) : RowsR w v zs := h.mono (veil_le w p)
theorem MemR.unveil {w : World} {p : Nat → Bool} {v : Value} {M : Mem} (h : MemR (w.veil p) v M) : MemR w v M := h.mono (veil_le w p)
theorem RowR.veil_below {w w' : World} {p : Nat → Bool} {v : Value} {zs : List Int} (h : RowR (w.veil p) v zs) (hb : Below w.heap.size w w') : RowR (w'.veil p) v zs := h.mono (Go.Proofs.YtifcdojaocndhaaDoor.veil_below p hb)
theorem MemR.veil_below {w w' : World} {p : Nat → Bool} {v : Value} {M : Mem} (h : MemR (w.veil p) v M) (hb : Below w.heap.size w w') : MemR (w'.veil p) v M := h.mono (Go.Proofs.YtifcdojaocndhaaDoor.veil_below p hb)
theorem RowO.veil {w : World} {p : Nat → Bool} {g : Nat} {v : Value} {zs : List Int} (h : RowO w g v zs) (hp : p g = false) : RowO (w.veil p) g v zs := h.kept (by rw [veil_heap, hp]; cases w.heap[g]? <;> rfl)
end Go.Proofs.YtifcdojaocndhaaDoor
