/- What the machine's own calls do: note, read, write, push, pop. -/
import Derived.Test.YtifcdojaocndhaaDoorM16
import Derived.Test.YtifcdojaocndhaaDoorM03
import Derived.Test.YtifcdojaocndhaaDoorM14
import Derived.Deep.RegionWith
import Derived.BigRegion
namespace Go.Proofs.YtifcdojaocndhaaDoor
open Go.ChangeShapes Go.WideShapes Go.ChangeAt Go.RowKit
set_option linter.unusedVariables false
set_option linter.unusedSimpArgs false

theorem infoCy : (Tryd.prog.info? 108).map (fun i => (i.zero, i.size, i.bytes)) = some (some (.agg #[.int .i64 0, .int .i64 0, .int .i64 0]), 3, 24) := by kernel_rfl
end Go.Proofs.YtifcdojaocndhaaDoor

/- What the machine's own calls do: read, write, push, pop, get, set. -/
namespace Go.Proofs.YtifcdojaocndhaaDoor
open Go.ChangeShapes Go.WideShapes Go.ChangeAt Go.RowKit
set_option linter.unusedVariables false
set_option linter.unusedSimpArgs false

theorem peek_byte {M : Mem} (hk : okM M = true) {a : Nat} (ha : a < 256) : peekI M (a : Int) = (peekN M a : Int) ∧ peekN M a < 256 := by
  obtain ⟨hp1, hp2, hp3, _, hp5⟩ := ok_parts hk
  have hb : 0 ≤ peekI M (a : Int) ∧ peekI M (a : Int) ≤ 255 := by
    unfold peekI
    split
    · have h := bytes_at hp1 (i := ((a : Int)).toNat) (by rw [bytes_len hp1]; omega)
      simpa [inB] using h
    · have hbb := bank_bd hp3 (a := (a : Int)) (by omega)
      have h := bytes_at (hp5 (bankI M.page (a : Int)).toNat (by omega)) (i := ((a : Int) % 64).toNat) (by rw [bytes_len (hp5 (bankI M.page (a : Int)).toNat (by omega))]; omega)
      simpa [inB] using h
  unfold peekN
  omega
theorem and255 (s : Nat) (h : s < 600) : bits .and .i64 (s : Int) 255 = ((s % 256 : Nat) : Int) := by
  rw [show (255 : Int) = ((255 : Nat) : Int) from rfl, bAnd s 255 (by omega) (by omega)]
  exact congrArg _ (Nat.and_two_pow_sub_one_eq_mod s 8)
theorem and255m (s : Nat) (h : s < 256) : bits .and .i64 ((s : Int) - 1) 255 = (((s + 255) % 256 : Nat) : Int) := by
  by_cases h0 : s = 0
  · subst h0
    decide
  · have e : (s : Int) - 1 = ((s - 1 : Nat) : Int) := by omega
    rw [e, and255 (s - 1) (by omega)]
    have : (s - 1) % 256 = (s + 255) % 256 := by omega
    rw [this]
end Go.Proofs.YtifcdojaocndhaaDoor

/- What the specification asks of a processor and a memory; the instruction where it stands. -/
namespace Go.Proofs.YtifcdojaocndhaaDoor
open Go.ChangeShapes Go.WideShapes Go.ChangeAt Go.RowKit
set_option linter.unusedVariables false
set_option linter.unusedSimpArgs false

abbrev cpA (c : Cp) : Array Value := #[.int .i64 (c.b : Int), .int .i64 (c.c : Int), .int .i64 (c.d : Int), .int .i64 (c.e : Int), .int .i64 (c.h : Int), .int .i64 (c.l : Int), .int .i64 0, .int .i64 (c.a : Int), .int .i64 (c.f : Int), .int .i64 (c.sp : Int), .int .i64 (c.pc : Int), .bool c.iff, .bool c.ei, .bool c.halt]
abbrev cpV (c : Cp) : Value := .agg (cpA c)
/-- a processor that is right, as natural numbers -/
def Cu.cp (c : Cu) : Cp := ⟨c.r0.toNat, c.r1.toNat, c.r2.toNat, c.r3.toNat, c.r4.toNat, c.r5.toNat, c.r7.toNat, c.f.toNat, c.sp.toNat, c.pc.toNat, c.iff, c.ei, c.halt⟩
theorem inB_bd {z : Int} (h : inB z 0 255 = true) : 0 ≤ z ∧ z ≤ 255 := by
  simp [inB] at h
  omega
theorem okC_parts {c : Cu} (h : okC c = true) : (∀ i, i < 8 → 0 ≤ c.reg i ∧ c.reg i ≤ 255) ∧ c.r6 = 0 ∧ (0 ≤ c.f ∧ c.f ≤ 255) ∧ (0 ≤ c.sp ∧ c.sp ≤ 255) ∧ (0 ≤ c.pc ∧ c.pc ≤ 255) ∧ (c.ei = true → c.iff = true) := by
  unfold okC at h
  simp only [Bool.and_eq_true] at h
  obtain ⟨⟨⟨⟨⟨h1, h2⟩, h3⟩, h4⟩, h5⟩, h6⟩ := h
  refine ⟨fun i hi => inB_bd ?_, by simpa using h2, inB_bd h3, inB_bd h4, inB_bd h5, fun e => ?_⟩
  · unfold regsB at h1
    rw [List.all_eq_true] at h1
    exact h1 i (List.mem_range.2 hi)
  · rw [e] at h6
    simpa using h6
theorem okC_cp {c : Cu} (h : okC c = true) : cuV c = cpV c.cp ∧ c.cp.ok := by
  obtain ⟨hr, h6, hf, hs, hp, _⟩ := okC_parts h
  have e0 := hr 0 (by omega)
  have e1 := hr 1 (by omega)
  have e2 := hr 2 (by omega)
  have e3 := hr 3 (by omega)
  have e4 := hr 4 (by omega)
  have e5 := hr 5 (by omega)
  have e7 := hr 7 (by omega)
  simp only [Cu.reg] at e0 e1 e2 e3 e4 e5 e7
  refine ⟨?_, ?_⟩
  · show Value.agg _ = Value.agg _
    unfold cuA cpA Cu.cp
    simp only []
    rw [h6, Int.toNat_of_nonneg e0.1, Int.toNat_of_nonneg e1.1, Int.toNat_of_nonneg e2.1, Int.toNat_of_nonneg e3.1, Int.toNat_of_nonneg e4.1, Int.toNat_of_nonneg e5.1, Int.toNat_of_nonneg e7.1, Int.toNat_of_nonneg hf.1, Int.toNat_of_nonneg hs.1, Int.toNat_of_nonneg hp.1]
  · unfold Cp.ok Cu.cp
    simp only []
    omega
/-- two things are boxed, and more comes behind -/
theorem two_newC (w : World) (A0 A1 : Array Value) (t t1 : TypeId) : Blk ((w.alloc (.cells A0 t)).alloc (.cells A1 t1)) w.heap.size A0 ∧ Blk ((w.alloc (.cells A0 t)).alloc (.cells A1 t1)) (w.heap.size + 1) A1 ∧ Below w.heap.size w ((w.alloc (.cells A0 t)).alloc (.cells A1 t1)) := two_newI (Below.refl _ _)
/-- while an instruction is looked up -/
structure ISt (w W : World) (A B C : Array Value) : Prop where
  q0 : Blk W w.heap.size A
  q1 : Blk W (w.heap.size + 1) B
  q2 : Blk W (w.heap.size + 1 + 1) C
  bel : Below w.heap.size w W
theorem ISt.below {w W W' : World} {A B C : Array Value} (h : ISt w W A B C) (hb : Below W.heap.size W W') : ISt w W' A B C :=
  ⟨h.q0.below hb h.q0.lt, h.q1.below hb h.q1.lt, h.q2.below hb h.q2.lt, h.bel.trans (hb.mono h.bel.size)⟩
theorem ISt.drew {w W : World} {A B C : Array Value} (h : ISt w W A B C) : ISt w W.drew A B C := h.below ⟨rfl, rfl, rfl, Nat.le_refl _, fun _ _ => rfl⟩
theorem ISt.start (w : World) (A B C : Array Value) (t t1 t2 : TypeId) : ISt w (((w.alloc (.cells A t)).alloc (.cells B t1)).alloc (.cells C t2)) A B C := by
  obtain ⟨q0, q1, hB⟩ := two_newC w A B t t1
  have q2 := Blk.new ((w.alloc (.cells A t)).alloc (.cells B t1)) C t2
  simp only [World.size_alloc] at q2
  exact ⟨q0.alloc _, q1.alloc _, q2, hB.alloc hB.size _⟩
theorem ISt.put {w W : World} {A B C : Array Value} (h : ISt w W A B C) (i : Nat) (u : Value) : ISt w (W.setCell ⟨w.heap.size + 1 + 1, i, none⟩ u) A B (C.setIfInBounds i u) :=
  ⟨h.q0.other (by simp only []; omega) u, h.q1.other (by simp) u, h.q2.set i u, h.bel.setCell (p := ⟨w.heap.size + 1 + 1, i, none⟩) (by simp only []; omega) u⟩
theorem ISt.held {w W : World} {c : Cp} {v0 v1 v2 v3 v4 : Value} {C : Array Value} (h : ISt w W (cpA c) #[v0, v1, v2, v3, v4] C) : W.cell? ⟨w.heap.size, 10, none⟩ = some (.int .i64 (c.pc : Int)) ∧ W.cell? ⟨w.heap.size + 1, 0, none⟩ = some v0 ∧ W.cell? ⟨w.heap.size + 1, 1, none⟩ = some v1 ∧ W.cell? ⟨w.heap.size + 1, 2, none⟩ = some v2 ∧ W.cell? ⟨w.heap.size + 1, 3, none⟩ = some v3 ∧ W.cell? ⟨w.heap.size + 1, 4, none⟩ = some v4 ∧ Hid (∃ C, ISt w W (cpA c) #[v0, v1, v2, v3, v4] C) :=
  ⟨h.q0.cell 10, h.q1.cell 0, h.q1.cell 1, h.q1.cell 2, h.q1.cell 3, h.q1.cell 4, ⟨_, h⟩⟩
end Go.Proofs.YtifcdojaocndhaaDoor

/- What the machine's own calls do: conditions, and the unit. -/
namespace Go.Proofs.YtifcdojaocndhaaDoor
open Go.ChangeShapes Go.WideShapes Go.ChangeAt Go.RowKit
set_option linter.unusedVariables false
set_option linter.unusedSimpArgs false

theorem ne0 (m : Nat) : (((m : Nat) : Int) != 0) = (m != 0) := by
  rw [Bool.eq_iff_iff]
  simp
theorem btN_le (b : Bool) : btN b ≤ 1 := by cases b <;> decide
theorem subF_lt (a b c : Nat) : subF a b c < 256 := by
  have h0 : szN (subV a b c) < 2 ^ 8 := szN_lt _ (subV_lt a b c)
  unfold subF
  refine Nat.or_lt_two_pow (n := 8) (Nat.or_lt_two_pow (Nat.or_lt_two_pow (Nat.or_lt_two_pow h0 (by decide)) ?_) ?_) ?_
  · have := btN_le (Nat.ble (Nat.add a 1) (Nat.add b c)); omega
  · have := btN_le (Nat.ble (Nat.add (Nat.land a 15) 1) (Nat.add (Nat.land b 15) c)); show 16 * _ < _; omega
  · have := btN_le (and (not (Nat.beq (Nat.land (Nat.xor a b) 128) 0)) (not (Nat.beq (Nat.land (Nat.xor a (subV a b c)) 128) 0))); show 4 * _ < _; omega
theorem andNot40 (f : Nat) (hf : f < 256) : bits .andNot .i64 (f : Int) 40 = ((Nat.land f 215 : Nat) : Int) := by
  have h : ∀ f : Nat, f < 256 → bits .andNot .i64 (f : Int) 40 = ((Nat.land f 215 : Nat) : Int) := by decide +kernel
  exact h f hf
end Go.Proofs.YtifcdojaocndhaaDoor

/- What the machine's copy does. -/
namespace Go.Proofs.YtifcdojaocndhaaDoor
open Go.ChangeShapes Go.WideShapes Go.ChangeAt Go.RowKit
set_option linter.unusedVariables false
set_option linter.unusedSimpArgs false

end Go.Proofs.YtifcdojaocndhaaDoor

/- What an instruction does, as plain numbers; the way to its arm. -/
namespace Go.Proofs.YtifcdojaocndhaaDoor
open Go.ChangeShapes Go.WideShapes Go.ChangeAt Go.RowKit
set_option linter.unusedVariables false
set_option linter.unusedSimpArgs false

def Mx.run (x : Mx) (n a b m : Nat) : Nat → Mx
  | 1 => (x.getX b).set a (x.getV b)
  | 2 => x.set a m
  | 3 => { x.read m with c := { x.c with a := peekN x.m m } }
  | 4 => x.write m x.c.a
  | 5 => (x.getX b).alu a (x.getV b)
  | 6 => x.alu a m
  | 7 => ({ x.getX a with c := { x.c with f := incF (x.getV a) x.c.f } } : Mx).set a (incV (x.getV a))
  | 8 => ({ x.getX a with c := { x.c with f := decF (x.getV a) x.c.f } } : Mx).set a (decV (x.getV a))
  | 9 => ({ x.getX b with c := { x.c with f := turnF a (x.getV b) (Nat.land x.c.f 1) } } : Mx).set b (turnV a (x.getV b) (Nat.land x.c.f 1))
  | 10 => { x.getX b with c := { x.c with f := tstF a (x.getV b) x.c.f } }
  | 11 => { x with c := { x.c with a := daaV x.c.a x.c.f, f := daaF x.c.a x.c.f } }
  | 12 => if holdN x.c.f a = true then { x with c := { x.c with pc := m } } else x
  | 13 => if holdN x.c.f a = true then { x.push x.c.pc with c := { (x.push x.c.pc).c with pc := m } } else x
  | 14 => if holdN x.c.f a = true then { x.popX with c := { x.popX.c with pc := x.popV } } else x
  | 15 => x.push (if a = 6 then x.c.f else x.c.reg a)
  | 16 => if a = 6 then { x.popX with c := { x.popX.c with f := x.popV } } else { x.popX with c := x.popX.c.put x.popV a }
  | 17 => { x.note 4 m n with c := { x.c with a := n, f := Nat.lor (Nat.land x.c.f 1) (szpN n) } }
  | 18 => x.note 5 m x.c.a
  | 19 => { x with c := { x.c with halt := true } }
  | 20 => { x with c := { x.c with iff := true, ei := true } }
  | 21 => { x with c := { x.c with iff := false, ei := false } }
  | 22 => x.copy
  | _ => x
theorem getX_c (x : Mx) (r : Nat) : (x.getX r).c = x.c := by unfold Mx.getX; split <;> rfl
theorem getX_m (x : Mx) (r : Nat) : (x.getX r).m = x.m := by unfold Mx.getX; split <;> rfl
theorem getX_l (x : Mx) (r : Nat) : (x.getX r).cy.length ≤ x.cy.length + 1 := by
  unfold Mx.getX
  split
  · show (x.cy ++ [_]).length ≤ _; simp
  · omega
theorem getV_lt {x : Mx} (hk : okM x.m = true) (hc : x.c.ok) (r : Nat) : x.getV r < 256 := by
  unfold Mx.getV
  split
  · exact (peek_byte hk hc.2.2.2.2.1).2
  · exact reg_lt hc r
end Go.Proofs.YtifcdojaocndhaaDoor

/- One step as plain numbers; the machine at first, and what it gives back. -/
namespace Go.Proofs.YtifcdojaocndhaaDoor
open Go.ChangeShapes Go.WideShapes Go.ChangeAt Go.RowKit
set_option linter.unusedVariables false
set_option linter.unusedSimpArgs false

/-- one step, as plain numbers -/
def stepP (c : Cp) (M : Mem) : Mx := ⟨{ c with ei := false }, M, [(1, c.pc, peekN M c.pc)]⟩
def stepQ (c : Cp) (M : Mem) : Mx :=
  if decL (peekN M c.pc) = 2 then { ({ stepP c M with c := { c with ei := false, pc := (c.pc + 1) % 256 } } : Mx).read ((c.pc + 1) % 256) with c := { c with ei := false, pc := (c.pc + 2) % 256 } }
  else { stepP c M with c := { c with ei := false, pc := (c.pc + 1) % 256 } }
def stepM (c : Cp) (M : Mem) (n : Nat) : Mx :=
  if c.halt = true then stepP c M
  else (stepQ c M).run n (decA (peekN M c.pc)).toNat (decB (peekN M c.pc) (peekN M ((c.pc + 1) % 256))).toNat (decN (peekN M c.pc) (peekN M ((c.pc + 1) % 256))).toNat (decO (peekN M c.pc)).toNat
/-- what a step gives back, as it lies in a world -/
structure Out (w W : World) (x : Mx) (vr vm cv : Value) : Prop where
  own : W.ownsRow w.heap.size 108 3 cv x.cy.length (cyV x.cy)
  mem : MemR (W.veil (fun b => cv.ownBlock == some b)) (memV vr vm x.m.page x.m.screen x.m.locked) x.m
  bel : Below w.heap.size w W
theorem NSt.start {w W : World} {k : List (Nat × Array Value)} {M : Mem} {vr vm : Value} (hB : Below w.heap.size w W) (hk : ∀ b A, (b, A) ∈ k → Blk W b A ∧ w.heap.size ≤ b) (hm : MemR w (memV vr vm M.page M.screen M.locked) M) (c : Cp) (n : Nat) (t : TypeId) :
    NSt ⟨w, k⟩ ((W.alloc (.cells #[] 108)).alloc (.cells (macA c vr vm M.page M.screen M.locked (.slice (some ⟨W.heap.size, 0, none⟩) 0 0) n) t)) (W.heap.size + 1) ⟨c, M, []⟩ n vr vm (.slice (some ⟨W.heap.size, 0, none⟩) 0 0) := by
  have hs := hB.size
  have hb1 : Below W.heap.size W ((W.alloc (.cells #[] 108)).alloc (.cells (macA c vr vm M.page M.screen M.locked (.slice (some ⟨W.heap.size, 0, none⟩) 0 0) n) t)) := ((Below.refl _ _).alloc (Nat.le_refl _) _).alloc (by simp) _
  have hb2 := hB.trans (hb1.mono hs)
  have q := Blk.new (W.alloc (.cells #[] 108)) (macA c vr vm M.page M.screen M.locked (.slice (some ⟨W.heap.size, 0, none⟩) 0 0) n) t
  rw [World.size_alloc] at q
  have o1 : (W.alloc (.cells #[] 108)).ownsRow w.heap.size 108 3 (.slice (some ⟨W.heap.size, 0, none⟩) 0 0) 0 [] := World.ownsRow_lit W #[] 0 hs (by decide) rfl
  refine ⟨q, own3_below o1 ((Below.refl _ _).alloc (Nat.le_refl _) _), ?_, by simp [Value.ownBlock], hb2, by show w.heap.size ≤ W.heap.size + 1; omega, fun b A hm => ?_⟩
  · refine hm.mono (fun b i u hu => ?_)
    have hlt : b < w.heap.size := World.block_lt_of_cell? w _ hu
    rw [veil_cell, vl_no (by omega) (by simp [Value.ownBlock]; omega) (fun A hA => by have := (hk b A hA).2; omega)]
    have e := hb2.block b hlt
    show World.cell? _ ⟨b, i, none⟩ = some u
    rw [World.cell?_of_block (w := w) (a := ⟨b, i, none⟩) e]
    exact hu
  · have hbk := (hk b A hm).1
    have hl := hbk.lt
    exact ⟨hbk.below hb1 hl, by omega, by simp [Value.ownBlock]; omega⟩
/-- cells of one block are set, one after another -/
def sets (W : World) (b : Nat) : Nat → List Value → World
  | _, [] => W
  | i, u :: t => sets (W.setCell ⟨b, i, none⟩ u) b (i + 1) t
theorem sets_grown (b : Nat) (l : List Value) : ∀ (W : World) (i : Nat), W.grownBy (sets W b i l) (some b) := by
  induction l with
  | nil => exact fun W i => ⟨rfl, rfl, rfl, Nat.le_refl _, fun _ _ _ => rfl⟩
  | cons u t ih =>
    intro W i
    have h1 := set_grown W b i u
    have h2 := ih (W.setCell ⟨b, i, none⟩ u) (i + 1)
    refine ⟨h2.os.trans h1.os, h2.tape.trans h1.tape, h2.output.trans h1.output, Nat.le_trans h1.size h2.size, fun k hk hne => (h2.block k (Nat.lt_of_lt_of_le hk h1.size) hne).trans (h1.block k hk hne)⟩
def setsA : Nat → List Value → Array Value → Array Value
  | _, [], A => A
  | i, u :: t, A => setsA (i + 1) t (A.setIfInBounds i u)
theorem sets_blk (b : Nat) (l : List Value) : ∀ (W : World) (i : Nat) (A : Array Value), Blk W b A → Blk (sets W b i l) b (setsA i l A) := by
  induction l with
  | nil => exact fun _ _ _ h => h
  | cons u t ih => exact fun W i A h => ih _ _ _ (h.set i u)
/-- the answer is laid down: the processor in block b, the memory in block g -/
theorem NSt.fin {w : World} {k : List (Nat × Array Value)} {W : World} {X b g : Nat} {x : Mx} {n : Nat} {vr vm cv : Value} {A B : Array Value} (h : NSt ⟨w, k⟩ W X x n vr vm cv) (h1 : (b, A) ∈ k) (h2 : (g, B) ∈ k) (hbg : b ≠ g) (lb : w.heap.size ≤ b) (lg : w.heap.size ≤ g) (L1 L2 : List Value) :
    Blk (sets (sets W b 0 L1) g 0 L2) b (setsA 0 L1 A) ∧ Blk (sets (sets W b 0 L1) g 0 L2) g (setsA 0 L2 B) ∧ Out w (sets (sets W b 0 L1) g 0 L2) x vr vm cv := by
  obtain ⟨q1, x1, c1⟩ := h.keep b A h1
  obtain ⟨q2, x2, c2⟩ := h.keep g B h2
  have g1 := sets_grown b L1 W 0
  have g2 := sets_grown g L2 (sets W b 0 L1) 0
  refine ⟨(sets_blk b L1 W 0 A q1).grown g2 (by simp [hbg]), sets_blk g L2 _ 0 B (q2.grown g1 (by simp; exact fun e => hbg e.symm)), (h.own.kept g1 (.inr c1)).kept g2 (.inr c2), ?_, (h.bel.grown g1 h.bel.size (fun y hy => by cases hy; exact lb)).grown g2 (Nat.le_trans h.bel.size g1.size) (fun y hy => by cases hy; exact lg)⟩
  have m1 := (h.mem.mono (cle_grown (q := vl k X cv) g1 (fun y e => by cases e; exact vl_in h1) (fun y _ hq => hq))).mono (cle_grown (q := vl k X cv) g2 (fun y e => by cases e; exact vl_in h2) (fun y _ hq => hq))
  refine m1.mono (fun y i u hu => ?_)
  rw [veil_cell] at hu ⊢
  cases hp : vl k X cv y
  · rw [hp] at hu
    have : (cv.ownBlock == some y) = false := by
      cases hh : (cv.ownBlock == some y)
      · rfl
      · rw [vl_own (by simpa using hh)] at hp; cases hp
    rw [this]
    exact hu
  · rw [hp] at hu; cases hu
theorem Out.drew {w W : World} {x : Mx} {vr vm cv : Value} (h : Out w W x vr vm cv) : Out w W.drew x vr vm cv := ⟨h.own, h.mem, h.bel.drew⟩
theorem NSt.heldC {w : World} {k : List (Nat × Array Value)} {W : World} {X s : Nat} {x : Mx} {n : Nat} {vr vm cv : Value} {c : Cp} {v0 v1 v2 v3 v4 : Value} (h : NSt ⟨w, (s, cpA c) :: (s + 1, #[v0, v1, v2, v3, v4]) :: k⟩ W X x n vr vm cv) :
    W.cell? ⟨s, 10, none⟩ = some (.int .i64 (c.pc : Int)) ∧ W.cell? ⟨s + 1, 0, none⟩ = some v0 ∧ W.cell? ⟨s + 1, 1, none⟩ = some v1 ∧ W.cell? ⟨s + 1, 2, none⟩ = some v2 ∧ W.cell? ⟨s + 1, 3, none⟩ = some v3 ∧ W.cell? ⟨s + 1, 4, none⟩ = some v4 := by
  have q0 := (h.keep s (cpA c) (by simp)).1
  have q1 := (h.keep (s + 1) #[v0, v1, v2, v3, v4] (by simp)).1
  exact ⟨q0.cell 10, q1.cell 0, q1.cell 1, q1.cell 2, q1.cell 3, q1.cell 4⟩
/-- four things are made -/
theorem four_new (w : World) (A0 A1 A2 A3 : Array Value) (t0 t1 t2 t3 : TypeId) :
    let W := (((w.alloc (.cells A0 t0)).alloc (.cells A1 t1)).alloc (.cells A2 t2)).alloc (.cells A3 t3)
    Below w.heap.size w W ∧ W.heap.size = w.heap.size + 1 + 1 + 1 + 1 ∧ ∀ b A, (b, A) ∈ [(w.heap.size, A0), (w.heap.size + 1, A1), (w.heap.size + 1 + 1, A2), (w.heap.size + 1 + 1 + 1, A3)] → Blk W b A ∧ w.heap.size ≤ b := by
  intro W
  obtain ⟨q0, q1, hB⟩ := two_newC w A0 A1 t0 t1
  have q2 := Blk.new ((w.alloc (.cells A0 t0)).alloc (.cells A1 t1)) A2 t2
  have q3 := Blk.new (((w.alloc (.cells A0 t0)).alloc (.cells A1 t1)).alloc (.cells A2 t2)) A3 t3
  simp only [World.size_alloc] at q2 q3
  refine ⟨(hB.alloc hB.size _).alloc (by simp; omega) _, by simp [W], fun b A hm => ?_⟩
  simp only [List.mem_cons, List.not_mem_nil, or_false] at hm
  rcases hm with e | e | e | e <;> cases e
  · exact ⟨(q0.alloc _).alloc _, by omega⟩
  · exact ⟨(q1.alloc _).alloc _, by omega⟩
  · exact ⟨q2.alloc _, by omega⟩
  · exact ⟨q3, by omega⟩
abbrev zC : Array Value := #[.int .i64 0, .int .i64 0, .int .i64 0, .int .i64 0, .int .i64 0, .int .i64 0, .int .i64 0, .int .i64 0, .int .i64 0, .int .i64 0, .int .i64 0, .bool false, .bool false, .bool false]
abbrev zM : Array Value := #[.slice none 0 0, .slice none 0 0, .int .i64 0, .int .i64 0, .bool false]
abbrev cpuL (c : Cp) : List Value := [.int .i64 (c.b : Int), .int .i64 (c.c : Int), .int .i64 (c.d : Int), .int .i64 (c.e : Int), .int .i64 (c.h : Int), .int .i64 (c.l : Int), .int .i64 0, .int .i64 (c.a : Int), .int .i64 (c.f : Int), .int .i64 (c.sp : Int), .int .i64 (c.pc : Int), .bool c.iff, .bool c.ei, .bool c.halt]
abbrev meL (vr vm : Value) (M : Mem) : List Value := [vr, vm, .int .i64 M.page, .int .i64 M.screen, .bool M.locked]
theorem Blk.drew {w : World} {b : Nat} {A : Array Value} (h : Blk w b A) : Blk w.drew b A := h.below (n := w.heap.size) ⟨rfl, rfl, rfl, Nat.le_refl _, fun _ _ => rfl⟩ h.lt
theorem setsC (c : Cp) : setsA 0 (cpuL c) zC = cpA c := by simp only [setsA, cpuL, zC, Nat.zero_add, Nat.reduceAdd, List.setIfInBounds_toArray, List.set_cons_zero, List.set_cons_succ]
theorem setsM (vr vm : Value) (M : Mem) : setsA 0 (meL vr vm M) zM = #[vr, vm, .int .i64 M.page, .int .i64 M.screen, .bool M.locked] := by simp only [setsA, meL, zM, Nat.zero_add, Nat.reduceAdd, List.setIfInBounds_toArray, List.set_cons_zero, List.set_cons_succ]
theorem NSt.fin2 {w : World} {k : List (Nat × Array Value)} {W : World} {X b g : Nat} {x : Mx} {n : Nat} {vr vm cv : Value} (h : NSt ⟨w, k⟩ W X x n vr vm cv) (h1 : (b, zC) ∈ k) (h2 : (g, zM) ∈ k) (hbg : b ≠ g) (lb : w.heap.size ≤ b) (lg : w.heap.size ≤ g) :
    (∀ i, (sets (sets W b 0 (cpuL x.c)) g 0 (meL vr vm x.m)).drew.cell? ⟨b, i, none⟩ = (cpA x.c)[i]?) ∧ (∀ i, (sets (sets W b 0 (cpuL x.c)) g 0 (meL vr vm x.m)).drew.cell? ⟨g, i, none⟩ = (#[vr, vm, .int .i64 x.m.page, .int .i64 x.m.screen, .bool x.m.locked] : Array Value)[i]?) ∧ Out w (sets (sets W b 0 (cpuL x.c)) g 0 (meL vr vm x.m)).drew x vr vm cv := by
  obtain ⟨qa, qb, O⟩ := h.fin h1 h2 hbg lb lg (cpuL x.c) (meL vr vm x.m)
  rw [setsC] at qa
  rw [setsM] at qb
  exact ⟨qa.drew.cell, qb.drew.cell, O.drew⟩
theorem stepQ_m (c : Cp) (M : Mem) : (stepQ c M).m = M := by unfold stepQ; split <;> rfl
theorem stepQ_l (c : Cp) (M : Mem) : (stepQ c M).cy.length ≤ 2 := by
  unfold stepQ
  split
  · show ([_] ++ [_] : List (Nat × Nat × Nat)).length ≤ 2; simp
  · show [_].length ≤ 2; simp
theorem stepQ_c {c : Cp} (M : Mem) (hc : c.ok) : (stepQ c M).c.ok := by
  obtain ⟨h0, h1, h2, h3, h4, h5, h6, h7, h8, h9⟩ := hc
  unfold stepQ
  split
  · exact ⟨h0, h1, h2, h3, h4, h5, h6, h7, h8, Nat.mod_lt _ (by omega)⟩
  · exact ⟨h0, h1, h2, h3, h4, h5, h6, h7, h8, Nat.mod_lt _ (by omega)⟩
theorem NSt.form {w : Bs} {W : World} {X : Nat} {x : Mx} {n : Nat} {vr vm cv : Value} (h : NSt w W X x n vr vm cv) : ∃ e1 p1 e2 p2, vr = .slice e1 x.m.rom.length p1 ∧ vm = .slice e2 x.m.ram.length p2 := by
  obtain ⟨a1, p1, a2, p2, e, _, _⟩ := h.mem.form
  simp only [memV, Value.agg.injEq, Array.mk.injEq, List.cons.injEq] at e
  exact ⟨a1, p1, a2, p2, e.1, e.2.1⟩
end Go.Proofs.YtifcdojaocndhaaDoor
