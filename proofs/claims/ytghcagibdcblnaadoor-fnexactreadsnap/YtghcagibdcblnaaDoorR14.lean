/- The processor, as plain numbers: what an instruction does. -/
import Derived.Test.YtghcagibdcblnaaDoorR10
import Derived.Test.YtghcagibdcblnaaDoorR12
import Derived.Test.YtghcagibdcblnaaDoorR13
import Derived.Test.YtghcagibdcblnaaDoorR11
import Derived.Test.YtghcagibdcblnaaDoorR02
import Derived.Deep.AppendLies
import Derived.OwnWalk
import Derived.Test.YtghcagibdcblnaaDoorR05
import Derived.Deep.RegionWith
import Derived.BigRegion
namespace Go.Proofs.YtghcagibdcblnaaDoor
open Go.ChangeShapes Go.WideShapes Go.ChangeAt Go.RowKit
set_option linter.unusedVariables false
set_option linter.unusedSimpArgs false

structure Cp where
  b : Nat
  c : Nat
  d : Nat
  e : Nat
  h : Nat
  l : Nat
  a : Nat
  f : Nat
  sp : Nat
  pc : Nat
  iff : Bool
  ei : Bool
  halt : Bool
/-- what an instruction works on: the processor, the memory, the cycles so far -/
structure Mx where
  c : Cp
  m : Mem
  cy : List (Nat × Nat × Nat)
/-- all are bytes -/
def Cp.ok (c : Cp) : Prop := c.b < 256 ∧ c.c < 256 ∧ c.d < 256 ∧ c.e < 256 ∧ c.h < 256 ∧ c.l < 256 ∧ c.a < 256 ∧ c.f < 256 ∧ c.sp < 256 ∧ c.pc < 256
def Mx.ok (x : Mx) : Prop := x.c.ok ∧ okM x.m = true
def peekN (M : Mem) (a : Nat) : Nat := (peekI M (a : Int)).toNat
def Cp.reg (c : Cp) : Nat → Nat
  | 0 => c.b
  | 1 => c.c
  | 2 => c.d
  | 3 => c.e
  | 4 => c.h
  | 5 => c.l
  | 6 => 0
  | _ => c.a
def Cp.put (c : Cp) (v : Nat) : Nat → Cp
  | 0 => { c with b := v }
  | 1 => { c with c := v }
  | 2 => { c with d := v }
  | 3 => { c with e := v }
  | 4 => { c with h := v }
  | 5 => { c with l := v }
  | 6 => c
  | _ => { c with a := v }
def Mx.note (x : Mx) (k a v : Nat) : Mx := { x with cy := x.cy ++ [(k, a, v)] }
def Mx.read (x : Mx) (a : Nat) : Mx := x.note 2 a (peekN x.m a)
def Mx.write (x : Mx) (a v : Nat) : Mx := { x with m := pokeM x.m (a : Int) (v : Int), cy := x.cy ++ [(3, a, v)] }
/-- a register's value, and what is left when it has been asked for -/
def Mx.getV (x : Mx) (r : Nat) : Nat := if r = 6 then peekN x.m x.c.h else x.c.reg r
def Mx.getX (x : Mx) (r : Nat) : Mx := if r = 6 then x.read x.c.h else x
def Mx.set (x : Mx) (r v : Nat) : Mx := if r = 6 then x.write x.c.h v else { x with c := x.c.put v r }
def Mx.push (x : Mx) (v : Nat) : Mx := ({ x with c := { x.c with sp := (x.c.sp + 255) % 256 } } : Mx).write ((x.c.sp + 255) % 256) v
def Mx.popV (x : Mx) : Nat := peekN x.m x.c.sp
def Mx.popX (x : Mx) : Mx := { x.read x.c.sp with c := { x.c with sp := (x.c.sp + 1) % 256 } }
def holdN (f k : Nat) : Bool :=
  if k = 0 ∨ k = 1 then (Nat.land f 64 != 0) == (k == 1) else if k = 2 ∨ k = 3 then (Nat.land f 1 != 0) == (k == 3) else if k = 4 ∨ k = 5 then (Nat.land f 4 != 0) == (k == 5) else if k = 6 then Nat.land f 128 != 0 else true
def aluV (op a b f : Nat) : Nat := if op = 0 then addV a b 0 else if op = 1 then addV a b (Nat.land f 1) else if op = 2 then subV a b 0 else if op = 3 then subV a b (Nat.land f 1) else if op = 7 then a else logV (op - 4) a b
def aluF (op a b f : Nat) : Nat := if op = 0 then addF a b 0 else if op = 1 then addF a b (Nat.land f 1) else if op = 2 then subF a b 0 else if op = 3 then subF a b (Nat.land f 1) else if op = 7 then Nat.lor (Nat.land (subF a b 0) 215) (Nat.land b 40) else logF (op - 4) a b
def Mx.alu (x : Mx) (op b : Nat) : Mx := { x with c := { x.c with a := aluV op x.c.a b x.c.f, f := aluF op x.c.a b x.c.f } }
def copyF (f n b : Nat) : Nat := Nat.lor (Nat.lor (Nat.lor (Nat.land f 193) (Nat.land n 8)) (Nat.land (n * 16) 32)) (if b = 0 then 0 else 4)
def Mx.copy (x : Mx) : Mx :=
  let v := peekN x.m x.c.h
  let y := (x.read x.c.h).write x.c.d v
  { y with c := { x.c with h := (x.c.h + 1) % 256, d := (x.c.d + 1) % 256, b := (x.c.b + 255) % 256, f := copyF x.c.f (v + x.c.a) ((x.c.b + 255) % 256) } }
theorem reg_lt {c : Cp} (h : c.ok) (r : Nat) : c.reg r < 256 := by
  obtain ⟨h0, h1, h2, h3, h4, h5, h6, _⟩ := h
  unfold Cp.reg
  split <;> omega
end Go.Proofs.YtghcagibdcblnaaDoor

/- A memory that does not lie in certain blocks: what is written elsewhere does not turn it; a byte poked keeps it so. -/
namespace Go.Proofs.YtghcagibdcblnaaDoor
open Go.ChangeShapes Go.WideShapes Go.ChangeAt Go.RowKit
set_option linter.unusedVariables false
set_option linter.unusedSimpArgs false

/-- the world without what certain blocks hold -/
def _root_.Go.World.veil (w : World) (p : Nat → Bool) : World := { w with heap := w.heap.mapIdx fun i o => if p i = true then .cells #[] 0 (0, 0) else o }
theorem veil_heap (w : World) (p : Nat → Bool) (b : Nat) : (w.veil p).heap[b]? = (w.heap[b]?).map fun o => if p b = true then .cells #[] 0 (0, 0) else o := by
  simp [World.veil, Array.getElem?_mapIdx]
theorem veil_cell (w : World) (p : Nat → Bool) (b i : Nat) : (w.veil p).cell? ⟨b, i, none⟩ = if p b = true then none else w.cell? ⟨b, i, none⟩ := by
  unfold World.cell?
  dsimp only
  rw [veil_heap]
  cases h : w.heap[b]? with
  | none => cases p b <;> simp
  | some o =>
    cases hp : p b
    · simp
    · simp
/-- whatever cell the one world has, the other has too -/
def CLe (w w' : World) : Prop := ∀ b i u, w.cell? ⟨b, i, none⟩ = some u → w'.cell? ⟨b, i, none⟩ = some u
theorem veil_le (w : World) (p : Nat → Bool) : CLe (w.veil p) w := fun b i u h => by
  rw [veil_cell] at h
  cases hp : p b
  · rw [hp] at h; exact h
  · rw [hp] at h; cases h
theorem cell_kept' {W W' : World} {b i : Nat} {v : Value} (hb : Below W.heap.size W W') (h : W.cell? ⟨b, i, none⟩ = some v) : W'.cell? ⟨b, i, none⟩ = some v := by
  rw [hb.cell (p := ⟨b, i, none⟩) (World.block_lt_of_cell? W _ h)]
  exact h
theorem veil_below {w w' : World} (p : Nat → Bool) (hb : Below w.heap.size w w') : CLe (w.veil p) (w'.veil p) := fun b i u h => by
  rw [veil_cell] at h ⊢
  cases hp : p b
  · rw [hp] at h
    exact cell_kept' hb h
  · rw [hp] at h; cases h
theorem RowR.mono {w w' : World} {v : Value} {zs : List Int} (h : RowR w v zs) (hc : CLe w w') : RowR w' v zs := by
  obtain ⟨a, cap, rfl, h⟩ := h
  refine ⟨a, cap, rfl, ?_⟩
  rcases h with h | ⟨b, off, rfl, h⟩
  · exact .inl h
  · exact .inr ⟨b, off, rfl, fun i hi => hc _ _ _ (h i hi)⟩
theorem RowsR.mono {w w' : World} {v : Value} {zss : List (List Int)} (h : RowsR w v zss) (hc : CLe w w') : RowsR w' v zss := by
  obtain ⟨a, cap, rfl, h⟩ := h
  refine ⟨a, cap, rfl, ?_⟩
  rcases h with h | ⟨b, off, rfl, h⟩
  · exact .inl h
  · refine .inr ⟨b, off, rfl, fun i hi => ?_⟩
    obtain ⟨u, h1, h2⟩ := h i hi
    exact ⟨u, hc _ _ _ h1, h2.mono hc⟩
theorem MemR.mono {w w' : World} {v : Value} {M : Mem} (h : MemR w v M) (hc : CLe w w') : MemR w' v M := by
  obtain ⟨vr, vm, rfl, h1, h2⟩ := h
  exact ⟨vr, vm, rfl, h1.mono hc, h2.mono hc⟩
theorem RowR.unveil {w : World} {p : Nat → Bool} {v : Value} {zs : List Int} (h : RowR (w.veil p) v zs) : RowR w v zs := h.mono (veil_le w p)
theorem RowsR.unveil {w : World} {p : Nat → Bool} {v : Value} {zs : List (List Int)} (h : RowsR (w.veil p) v zs) : RowsR w v zs := h.mono (veil_le w p)
theorem MemR.unveil {w : World} {p : Nat → Bool} {v : Value} {M : Mem} (h : MemR (w.veil p) v M) : MemR w v M := h.mono (veil_le w p)
theorem RowR.veil_below {w w' : World} {p : Nat → Bool} {v : Value} {zs : List Int} (h : RowR (w.veil p) v zs) (hb : Below w.heap.size w w') : RowR (w'.veil p) v zs := h.mono (Go.Proofs.YtghcagibdcblnaaDoor.veil_below p hb)
theorem MemR.veil_below {w w' : World} {p : Nat → Bool} {v : Value} {M : Mem} (h : MemR (w.veil p) v M) (hb : Below w.heap.size w w') : MemR (w'.veil p) v M := h.mono (Go.Proofs.YtghcagibdcblnaaDoor.veil_below p hb)
theorem RowO.veil {w : World} {p : Nat → Bool} {g : Nat} {v : Value} {zs : List Int} (h : RowO w g v zs) (hp : p g = false) : RowO (w.veil p) g v zs := h.kept (by rw [veil_heap, hp]; cases w.heap[g]? <;> rfl)
end Go.Proofs.YtghcagibdcblnaaDoor

/- The specification's machine, as it lies in a world while an instruction is done. -/
namespace Go.Proofs.YtghcagibdcblnaaDoor
open Go.ChangeShapes Go.WideShapes Go.ChangeAt Go.RowKit
set_option linter.unusedVariables false
set_option linter.unusedSimpArgs false

abbrev macA (c : Cp) (vr vm : Value) (p s : Int) (l : Bool) (cv : Value) (n : Nat) : Array Value :=
  #[.int .i64 (c.b : Int), .int .i64 (c.c : Int), .int .i64 (c.d : Int), .int .i64 (c.e : Int), .int .i64 (c.h : Int), .int .i64 (c.l : Int), .int .i64 0, .int .i64 (c.a : Int), .int .i64 (c.f : Int), .int .i64 (c.sp : Int), .int .i64 (c.pc : Int), .bool c.iff, .bool c.ei, .bool c.halt,
    vr, vm, .int .i64 p, .int .i64 s, .bool l, cv, .int .i64 (n : Int)]
def cyV (l : List (Nat × Nat × Nat)) : List Value := l.flatMap fun x => [.int .i64 (x.1 : Int), .int .i64 (x.2.1 : Int), .int .i64 (x.2.2 : Int)]
theorem cyV_snoc (l : List (Nat × Nat × Nat)) (k a v : Nat) : cyV (l ++ [(k, a, v)]) = cyV l ++ [.int .i64 (k : Int), .int .i64 (a : Int), .int .i64 (v : Int)] := by simp [cyV]
theorem cyV_len (l : List (Nat × Nat × Nat)) : (cyV l).length = l.length * 3 := by
  induction l with
  | nil => rfl
  | cons x t ih => simp [cyV, List.flatMap_cons] at ih ⊢; omega
/-- the blocks that the machine writes into -/
def vl (k : List (Nat × Array Value)) (X : Nat) (cv : Value) : Nat → Bool := fun b => b == X || cv.ownBlock == some b || k.any (fun p => p.1 == b)
theorem vl_X (k : List (Nat × Array Value)) (X : Nat) (cv : Value) : vl k X cv X = true := by simp [vl]
theorem vl_own {k : List (Nat × Array Value)} {X g : Nat} {cv : Value} (h : cv.ownBlock = some g) : vl k X cv g = true := by simp [vl, h]
theorem vl_in {k : List (Nat × Array Value)} {X b : Nat} {cv : Value} {A : Array Value} (h : (b, A) ∈ k) : vl k X cv b = true := by
  have : k.any (fun p => p.1 == b) = true := List.any_eq_true.2 ⟨_, h, by simp⟩
  simp [vl, this]
theorem vl_no {k : List (Nat × Array Value)} {X b : Nat} {cv : Value} (h1 : b ≠ X) (h2 : cv.ownBlock ≠ some b) (h3 : ∀ A, (b, A) ∉ k) : vl k X cv b = false := by
  have : k.any (fun p => p.1 == b) = false := by
    rw [List.any_eq_false]
    intro p hp e
    have e2 : p.1 = b := by simpa using e
    exact h3 p.2 (by rw [← e2]; exact hp)
  simp [vl, h1, h2, this]
theorem vl_cases {k : List (Nat × Array Value)} {X b : Nat} {cv : Value} (h : vl k X cv b = true) : b = X ∨ cv.ownBlock = some b ∨ ∃ A, (b, A) ∈ k := by
  unfold vl at h
  simp only [Bool.or_eq_true, beq_iff_eq] at h
  rcases h with (h | h) | h
  · exact .inl h
  · exact .inr (.inl h)
  · obtain ⟨p, hp, e⟩ := List.any_eq_true.1 h
    have e2 : p.1 = b := by simpa using e
    exact .inr (.inr ⟨p.2, by rw [← e2]; exact hp⟩)
/-- the world at first, and blocks that must stay as they are -/
structure Bs extends World where
  k : List (Nat × Array Value)
end Go.Proofs.YtghcagibdcblnaaDoor

/- What the machine's own calls do: note, read, write, push, pop. -/
namespace Go.Proofs.YtghcagibdcblnaaDoor
open Go.ChangeShapes Go.WideShapes Go.ChangeAt Go.RowKit
set_option linter.unusedVariables false
set_option linter.unusedSimpArgs false

end Go.Proofs.YtghcagibdcblnaaDoor

/- What the machine's own calls do: read, write, push, pop, get, set. -/
namespace Go.Proofs.YtghcagibdcblnaaDoor
open Go.ChangeShapes Go.WideShapes Go.ChangeAt Go.RowKit
set_option linter.unusedVariables false
set_option linter.unusedSimpArgs false

theorem peek_byte {M : Mem} (hk : okM M = true) {a : Nat} (ha : a < 256) : peekI M (a : Int) = (peekN M a : Int) ∧ peekN M a < 256 := by
  obtain ⟨hp1, hp2, hp3, _, hp5⟩ := ok_parts hk
  have hb : 0 ≤ peekI M (a : Int) ∧ peekI M (a : Int) ≤ 255 := by
    unfold peekI
    split
    · have h := bytes_at hp1 (i := ((a : Int)).toNat) (by rw [bytes_len hp1]; omega)
      simpa [inB] using h
    · have hbb := bank_bd hp3 (a := (a : Int)) (by omega)
      have h := bytes_at (hp5 (bankI M.page (a : Int)).toNat (by omega)) (i := ((a : Int) % 64).toNat) (by rw [bytes_len (hp5 (bankI M.page (a : Int)).toNat (by omega))]; omega)
      simpa [inB] using h
  unfold peekN
  omega
theorem and255 (s : Nat) (h : s < 600) : bits .and .i64 (s : Int) 255 = ((s % 256 : Nat) : Int) := by
  rw [show (255 : Int) = ((255 : Nat) : Int) from rfl, bAnd s 255 (by omega) (by omega)]
  exact congrArg _ (Nat.and_two_pow_sub_one_eq_mod s 8)
theorem and255m (s : Nat) (h : s < 256) : bits .and .i64 ((s : Int) - 1) 255 = (((s + 255) % 256 : Nat) : Int) := by
  by_cases h0 : s = 0
  · subst h0
    decide
  · have e : (s : Int) - 1 = ((s - 1 : Nat) : Int) := by omega
    rw [e, and255 (s - 1) (by omega)]
    have : (s - 1) % 256 = (s + 255) % 256 := by omega
    rw [this]
end Go.Proofs.YtghcagibdcblnaaDoor

/- What the specification asks of a processor and a memory; the instruction where it stands. -/
namespace Go.Proofs.YtghcagibdcblnaaDoor
open Go.ChangeShapes Go.WideShapes Go.ChangeAt Go.RowKit
set_option linter.unusedVariables false
set_option linter.unusedSimpArgs false

abbrev cpA (c : Cp) : Array Value := #[.int .i64 (c.b : Int), .int .i64 (c.c : Int), .int .i64 (c.d : Int), .int .i64 (c.e : Int), .int .i64 (c.h : Int), .int .i64 (c.l : Int), .int .i64 0, .int .i64 (c.a : Int), .int .i64 (c.f : Int), .int .i64 (c.sp : Int), .int .i64 (c.pc : Int), .bool c.iff, .bool c.ei, .bool c.halt]
abbrev cpV (c : Cp) : Value := .agg (cpA c)
/-- a processor that is right, as natural numbers -/
def Cu.cp (c : Cu) : Cp := ⟨c.r0.toNat, c.r1.toNat, c.r2.toNat, c.r3.toNat, c.r4.toNat, c.r5.toNat, c.r7.toNat, c.f.toNat, c.sp.toNat, c.pc.toNat, c.iff, c.ei, c.halt⟩
theorem inB_bd {z : Int} (h : inB z 0 255 = true) : 0 ≤ z ∧ z ≤ 255 := by
  simp [inB] at h
  omega
theorem okC_parts {c : Cu} (h : okC c = true) : (∀ i, i < 8 → 0 ≤ c.reg i ∧ c.reg i ≤ 255) ∧ c.r6 = 0 ∧ (0 ≤ c.f ∧ c.f ≤ 255) ∧ (0 ≤ c.sp ∧ c.sp ≤ 255) ∧ (0 ≤ c.pc ∧ c.pc ≤ 255) ∧ (c.ei = true → c.iff = true) := by
  unfold okC at h
  simp only [Bool.and_eq_true] at h
  obtain ⟨⟨⟨⟨⟨h1, h2⟩, h3⟩, h4⟩, h5⟩, h6⟩ := h
  refine ⟨fun i hi => inB_bd ?_, by simpa using h2, inB_bd h3, inB_bd h4, inB_bd h5, fun e => ?_⟩
  · unfold regsB at h1
    rw [List.all_eq_true] at h1
    exact h1 i (List.mem_range.2 hi)
  · rw [e] at h6
    simpa using h6
theorem okC_cp {c : Cu} (h : okC c = true) : cuV c = cpV c.cp ∧ c.cp.ok := by
  obtain ⟨hr, h6, hf, hs, hp, _⟩ := okC_parts h
  have e0 := hr 0 (by omega)
  have e1 := hr 1 (by omega)
  have e2 := hr 2 (by omega)
  have e3 := hr 3 (by omega)
  have e4 := hr 4 (by omega)
  have e5 := hr 5 (by omega)
  have e7 := hr 7 (by omega)
  simp only [Cu.reg] at e0 e1 e2 e3 e4 e5 e7
  refine ⟨?_, ?_⟩
  · show Value.agg _ = Value.agg _
    unfold cuA cpA Cu.cp
    simp only []
    rw [h6, Int.toNat_of_nonneg e0.1, Int.toNat_of_nonneg e1.1, Int.toNat_of_nonneg e2.1, Int.toNat_of_nonneg e3.1, Int.toNat_of_nonneg e4.1, Int.toNat_of_nonneg e5.1, Int.toNat_of_nonneg e7.1, Int.toNat_of_nonneg hf.1, Int.toNat_of_nonneg hs.1, Int.toNat_of_nonneg hp.1]
  · unfold Cp.ok Cu.cp
    simp only []
    omega
/-- two things are boxed, and more comes behind -/
theorem two_newC (w : World) (A0 A1 : Array Value) (t t1 : TypeId) : Blk ((w.alloc (.cells A0 t)).alloc (.cells A1 t1)) w.heap.size A0 ∧ Blk ((w.alloc (.cells A0 t)).alloc (.cells A1 t1)) (w.heap.size + 1) A1 ∧ Below w.heap.size w ((w.alloc (.cells A0 t)).alloc (.cells A1 t1)) := two_newI (Below.refl _ _)
/-- while an instruction is looked up -/
structure ISt (w W : World) (A B C : Array Value) : Prop where
  q0 : Blk W w.heap.size A
  q1 : Blk W (w.heap.size + 1) B
  q2 : Blk W (w.heap.size + 1 + 1) C
  bel : Below w.heap.size w W
theorem ISt.below {w W W' : World} {A B C : Array Value} (h : ISt w W A B C) (hb : Below W.heap.size W W') : ISt w W' A B C :=
  ⟨h.q0.below hb h.q0.lt, h.q1.below hb h.q1.lt, h.q2.below hb h.q2.lt, h.bel.trans (hb.mono h.bel.size)⟩
theorem ISt.drew {w W : World} {A B C : Array Value} (h : ISt w W A B C) : ISt w W.drew A B C := h.below ⟨rfl, rfl, rfl, Nat.le_refl _, fun _ _ => rfl⟩
theorem ISt.start (w : World) (A B C : Array Value) (t t1 t2 : TypeId) : ISt w (((w.alloc (.cells A t)).alloc (.cells B t1)).alloc (.cells C t2)) A B C := by
  obtain ⟨q0, q1, hB⟩ := two_newC w A B t t1
  have q2 := Blk.new ((w.alloc (.cells A t)).alloc (.cells B t1)) C t2
  simp only [World.size_alloc] at q2
  exact ⟨q0.alloc _, q1.alloc _, q2, hB.alloc hB.size _⟩
theorem ISt.put {w W : World} {A B C : Array Value} (h : ISt w W A B C) (i : Nat) (u : Value) : ISt w (W.setCell ⟨w.heap.size + 1 + 1, i, none⟩ u) A B (C.setIfInBounds i u) :=
  ⟨h.q0.other (by simp only []; omega) u, h.q1.other (by simp) u, h.q2.set i u, h.bel.setCell (p := ⟨w.heap.size + 1 + 1, i, none⟩) (by simp only []; omega) u⟩
theorem ISt.held {w W : World} {c : Cp} {v0 v1 v2 v3 v4 : Value} {C : Array Value} (h : ISt w W (cpA c) #[v0, v1, v2, v3, v4] C) : W.cell? ⟨w.heap.size, 10, none⟩ = some (.int .i64 (c.pc : Int)) ∧ W.cell? ⟨w.heap.size + 1, 0, none⟩ = some v0 ∧ W.cell? ⟨w.heap.size + 1, 1, none⟩ = some v1 ∧ W.cell? ⟨w.heap.size + 1, 2, none⟩ = some v2 ∧ W.cell? ⟨w.heap.size + 1, 3, none⟩ = some v3 ∧ W.cell? ⟨w.heap.size + 1, 4, none⟩ = some v4 ∧ Hid (∃ C, ISt w W (cpA c) #[v0, v1, v2, v3, v4] C) :=
  ⟨h.q0.cell 10, h.q1.cell 0, h.q1.cell 1, h.q1.cell 2, h.q1.cell 3, h.q1.cell 4, ⟨_, h⟩⟩
end Go.Proofs.YtghcagibdcblnaaDoor
