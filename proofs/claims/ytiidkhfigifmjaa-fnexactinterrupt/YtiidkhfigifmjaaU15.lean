/- What the specification asks of a processor and a memory; the instruction where it stands. -/
import Derived.Test.YtiidkhfigifmjaaU05
import Derived.Test.YtiidkhfigifmjaaU06
import Derived.Test.YtiidkhfigifmjaaU14
import Derived.Deep.RegionWith
import Derived.BigRegion
namespace Go.Proofs.Ytiidkhfigifmjaa
open Go.ChangeShapes Go.WideShapes Go.ChangeAt Go.RowKit
set_option linter.unusedVariables false
set_option linter.unusedSimpArgs false

abbrev cpA (c : Cp) : Array Value := #[.int .i64 (c.b : Int), .int .i64 (c.c : Int), .int .i64 (c.d : Int), .int .i64 (c.e : Int), .int .i64 (c.h : Int), .int .i64 (c.l : Int), .int .i64 0, .int .i64 (c.a : Int), .int .i64 (c.f : Int), .int .i64 (c.sp : Int), .int .i64 (c.pc : Int), .bool c.iff, .bool c.ei, .bool c.halt]
abbrev cpV (c : Cp) : Value := .agg (cpA c)
/-- a processor that is right, as natural numbers -/
def Cu.cp (c : Cu) : Cp := ⟨c.r0.toNat, c.r1.toNat, c.r2.toNat, c.r3.toNat, c.r4.toNat, c.r5.toNat, c.r7.toNat, c.f.toNat, c.sp.toNat, c.pc.toNat, c.iff, c.ei, c.halt⟩
theorem inB_bd {z : Int} (h : inB z 0 255 = true) : 0 ≤ z ∧ z ≤ 255 := by
  simp [inB] at h
  omega
theorem okC_parts {c : Cu} (h : okC c = true) : (∀ i, i < 8 → 0 ≤ c.reg i ∧ c.reg i ≤ 255) ∧ c.r6 = 0 ∧ (0 ≤ c.f ∧ c.f ≤ 255) ∧ (0 ≤ c.sp ∧ c.sp ≤ 255) ∧ (0 ≤ c.pc ∧ c.pc ≤ 255) ∧ (c.ei = true → c.iff = true) := by
  unfold okC at h
  simp only [Bool.and_eq_true] at h
  obtain ⟨⟨⟨⟨⟨h1, h2⟩, h3⟩, h4⟩, h5⟩, h6⟩ := h
  refine ⟨fun i hi => inB_bd ?_, by simpa using h2, inB_bd h3, inB_bd h4, inB_bd h5, fun e => ?_⟩
  · unfold regsB at h1
    rw [List.all_eq_true] at h1
    exact h1 i (List.mem_range.2 hi)
  · rw [e] at h6
    simpa using h6
theorem okC_cp {c : Cu} (h : okC c = true) : cuV c = cpV c.cp ∧ c.cp.ok := by
  obtain ⟨hr, h6, hf, hs, hp, _⟩ := okC_parts h
  have e0 := hr 0 (by omega)
  have e1 := hr 1 (by omega)
  have e2 := hr 2 (by omega)
  have e3 := hr 3 (by omega)
  have e4 := hr 4 (by omega)
  have e5 := hr 5 (by omega)
  have e7 := hr 7 (by omega)
  simp only [Cu.reg] at e0 e1 e2 e3 e4 e5 e7
  refine ⟨?_, ?_⟩
  · show Value.agg _ = Value.agg _
    unfold cuA cpA Cu.cp
    simp only []
    rw [h6, Int.toNat_of_nonneg e0.1, Int.toNat_of_nonneg e1.1, Int.toNat_of_nonneg e2.1, Int.toNat_of_nonneg e3.1, Int.toNat_of_nonneg e4.1, Int.toNat_of_nonneg e5.1, Int.toNat_of_nonneg e7.1, Int.toNat_of_nonneg hf.1, Int.toNat_of_nonneg hs.1, Int.toNat_of_nonneg hp.1]
  · unfold Cp.ok Cu.cp
    simp only []
    omega
/-- two things are boxed, and more comes behind -/
theorem two_newC (w : World) (A0 A1 : Array Value) (t t1 : TypeId) : Blk ((w.alloc (.cells A0 t)).alloc (.cells A1 t1)) w.heap.size A0 ∧ Blk ((w.alloc (.cells A0 t)).alloc (.cells A1 t1)) (w.heap.size + 1) A1 ∧ Below w.heap.size w ((w.alloc (.cells A0 t)).alloc (.cells A1 t1)) := two_newI (Below.refl _ _)
set_option maxRecDepth 100000 in
theorem cask_spec (c : Cu) (v : Value) (M : Mem) (w : World) (h : MemR w v M) (hf : Fit M) :
    Calls Try.prog 30 #[cuV c, v] w fun e w' => e = .returned (.bool (okC c && okM M)) ∧ Below w.heap.size w w' := by
  obtain ⟨a1, p1, a2, p2, rfl, _, _⟩ := h.form
  obtain ⟨q0, q1, hB⟩ := two_newC w (cuA c) #[.slice a1 M.rom.length p1, .slice a2 M.ram.length p2, .int .i64 M.page, .int .i64 M.screen, .bool M.locked] 25 30
  replace h := hid h
  replace q1 := hid q1
  replace hB := hid hB
  have x0 := q0.cell
  clear q0
  go_enter Try.func30, Try.ntmps30
  go_upto_region 1 with fail
  obtain ⟨V, hV⟩ : ∃ V, ((w.alloc (.cells (cuA c) 25)).alloc (.cells #[.slice a1 M.rom.length p1, .slice a2 M.ram.length p2, .int .i64 M.page, .int .i64 M.screen, .bool M.locked] 30)) = V := ⟨_, rfl⟩
  rw [hV] at q1 hB x0 ⊢
  clear hV
  go_wp2_with fail
  refine (cpuok_spec c V).mono ?_
  rintro e w1 ⟨rfl, hb⟩
  have hB1 := hid (hB.out.trans (hb.mono hB.out.size))
  cases hq : okC c
  · clear q1 hB hb x0 h
    go_wp2
    go_ret
    exact ⟨ret_bool (by rw [hq]; rfl), hB1.out⟩
  · have q2 := (q1.out.below hb q1.out.lt).cell
    clear q1 hB hb x0
    go_wp2_with fail
    refine (ok_spec _ M w1 (h.out.below hB1.out) hf.1 hf.2.1 hf.2.2).mono ?_
    rintro e w2 ⟨rfl, hb2⟩
    have hB2 := hid (hB1.out.trans (hb2.mono hB1.out.size))
    clear q2 hB1 hb2 h
    go_wp2
    go_ret
    exact ⟨ret_bool (by rw [hq, Bool.true_and]), hB2.out⟩
theorem peekN_spec (v : Value) (M : Mem) (a : Nat) (w : World) (h : MemR w v M) (hk : okM M = true) (ha : a < 256) :
    Calls Try.prog 64 #[v, .int .i64 (a : Int)] w fun e w' => e = .returned (.int .i64 (peekN M a : Int)) ∧ Below w.heap.size w w' := by
  have := peek0_spec v M (a : Int) w h hk (by omega) (by omega)
  rw [(peek_byte hk ha).1] at this
  exact this
/-- while an instruction is looked up -/
structure ISt (w W : World) (A B C : Array Value) : Prop where
  q0 : Blk W w.heap.size A
  q1 : Blk W (w.heap.size + 1) B
  q2 : Blk W (w.heap.size + 1 + 1) C
  bel : Below w.heap.size w W
theorem ISt.below {w W W' : World} {A B C : Array Value} (h : ISt w W A B C) (hb : Below W.heap.size W W') : ISt w W' A B C :=
  ⟨h.q0.below hb h.q0.lt, h.q1.below hb h.q1.lt, h.q2.below hb h.q2.lt, h.bel.trans (hb.mono h.bel.size)⟩
theorem ISt.drew {w W : World} {A B C : Array Value} (h : ISt w W A B C) : ISt w W.drew A B C := h.below ⟨rfl, rfl, rfl, Nat.le_refl _, fun _ _ => rfl⟩
theorem ISt.start (w : World) (A B C : Array Value) (t t1 t2 : TypeId) : ISt w (((w.alloc (.cells A t)).alloc (.cells B t1)).alloc (.cells C t2)) A B C := by
  obtain ⟨q0, q1, hB⟩ := two_newC w A B t t1
  have q2 := Blk.new ((w.alloc (.cells A t)).alloc (.cells B t1)) C t2
  simp only [World.size_alloc] at q2
  exact ⟨q0.alloc _, q1.alloc _, q2, hB.alloc hB.size _⟩
theorem ISt.put {w W : World} {A B C : Array Value} (h : ISt w W A B C) (i : Nat) (u : Value) : ISt w (W.setCell ⟨w.heap.size + 1 + 1, i, none⟩ u) A B (C.setIfInBounds i u) :=
  ⟨h.q0.other (by simp only []; omega) u, h.q1.other (by simp) u, h.q2.set i u, h.bel.setCell (p := ⟨w.heap.size + 1 + 1, i, none⟩) (by simp only []; omega) u⟩
theorem ISt.held {w W : World} {c : Cp} {v0 v1 v2 v3 v4 : Value} {C : Array Value} (h : ISt w W (cpA c) #[v0, v1, v2, v3, v4] C) : W.cell? ⟨w.heap.size, 10, none⟩ = some (.int .i64 (c.pc : Int)) ∧ W.cell? ⟨w.heap.size + 1, 0, none⟩ = some v0 ∧ W.cell? ⟨w.heap.size + 1, 1, none⟩ = some v1 ∧ W.cell? ⟨w.heap.size + 1, 2, none⟩ = some v2 ∧ W.cell? ⟨w.heap.size + 1, 3, none⟩ = some v3 ∧ W.cell? ⟨w.heap.size + 1, 4, none⟩ = some v4 ∧ Hid (∃ C, ISt w W (cpA c) #[v0, v1, v2, v3, v4] C) :=
  ⟨h.q0.cell 10, h.q1.cell 0, h.q1.cell 1, h.q1.cell 2, h.q1.cell 3, h.q1.cell 4, ⟨_, h⟩⟩
end Go.Proofs.Ytiidkhfigifmjaa

/- What the machine's own calls do: conditions, and the unit. -/
namespace Go.Proofs.Ytiidkhfigifmjaa
open Go.ChangeShapes Go.WideShapes Go.ChangeAt Go.RowKit
set_option linter.unusedVariables false
set_option linter.unusedSimpArgs false

theorem ne0 (m : Nat) : (((m : Nat) : Int) != 0) = (m != 0) := by
  rw [Bool.eq_iff_iff]
  simp
theorem btN_le (b : Bool) : btN b ≤ 1 := by cases b <;> decide
theorem subF_lt (a b c : Nat) : subF a b c < 256 := by
  have h0 : szN (subV a b c) < 2 ^ 8 := szN_lt _ (subV_lt a b c)
  unfold subF
  refine Nat.or_lt_two_pow (n := 8) (Nat.or_lt_two_pow (Nat.or_lt_two_pow (Nat.or_lt_two_pow h0 (by decide)) ?_) ?_) ?_
  · have := btN_le (Nat.ble (Nat.add a 1) (Nat.add b c)); omega
  · have := btN_le (Nat.ble (Nat.add (Nat.land a 15) 1) (Nat.add (Nat.land b 15) c)); show 16 * _ < _; omega
  · have := btN_le (and (not (Nat.beq (Nat.land (Nat.xor a b) 128) 0)) (not (Nat.beq (Nat.land (Nat.xor a (subV a b c)) 128) 0))); show 4 * _ < _; omega
theorem andNot40 (f : Nat) (hf : f < 256) : bits .andNot .i64 (f : Int) 40 = ((Nat.land f 215 : Nat) : Int) := by
  have h : ∀ f : Nat, f < 256 → bits .andNot .i64 (f : Int) 40 = ((Nat.land f 215 : Nat) : Int) := by decide +kernel
  exact h f hf
end Go.Proofs.Ytiidkhfigifmjaa

/- What the machine's copy does. -/
namespace Go.Proofs.Ytiidkhfigifmjaa
open Go.ChangeShapes Go.WideShapes Go.ChangeAt Go.RowKit
set_option linter.unusedVariables false
set_option linter.unusedSimpArgs false
end Go.Proofs.Ytiidkhfigifmjaa

/- What an instruction does, as plain numbers; the way to its arm. -/
namespace Go.Proofs.Ytiidkhfigifmjaa
open Go.ChangeShapes Go.WideShapes Go.ChangeAt Go.RowKit
set_option linter.unusedVariables false
set_option linter.unusedSimpArgs false

def Mx.run (x : Mx) (n a b m : Nat) : Nat → Mx
  | 1 => (x.getX b).set a (x.getV b)
  | 2 => x.set a m
  | 3 => { x.read m with c := { x.c with a := peekN x.m m } }
  | 4 => x.write m x.c.a
  | 5 => (x.getX b).alu a (x.getV b)
  | 6 => x.alu a m
  | 7 => ({ x.getX a with c := { x.c with f := incF (x.getV a) x.c.f } } : Mx).set a (incV (x.getV a))
  | 8 => ({ x.getX a with c := { x.c with f := decF (x.getV a) x.c.f } } : Mx).set a (decV (x.getV a))
  | 9 => ({ x.getX b with c := { x.c with f := turnF a (x.getV b) (Nat.land x.c.f 1) } } : Mx).set b (turnV a (x.getV b) (Nat.land x.c.f 1))
  | 10 => { x.getX b with c := { x.c with f := tstF a (x.getV b) x.c.f } }
  | 11 => { x with c := { x.c with a := daaV x.c.a x.c.f, f := daaF x.c.a x.c.f } }
  | 12 => if holdN x.c.f a = true then { x with c := { x.c with pc := m } } else x
  | 13 => if holdN x.c.f a = true then { x.push x.c.pc with c := { (x.push x.c.pc).c with pc := m } } else x
  | 14 => if holdN x.c.f a = true then { x.popX with c := { x.popX.c with pc := x.popV } } else x
  | 15 => x.push (if a = 6 then x.c.f else x.c.reg a)
  | 16 => if a = 6 then { x.popX with c := { x.popX.c with f := x.popV } } else { x.popX with c := x.popX.c.put x.popV a }
  | 17 => { x.note 4 m n with c := { x.c with a := n, f := Nat.lor (Nat.land x.c.f 1) (szpN n) } }
  | 18 => x.note 5 m x.c.a
  | 19 => { x with c := { x.c with halt := true } }
  | 20 => { x with c := { x.c with iff := true, ei := true } }
  | 21 => { x with c := { x.c with iff := false, ei := false } }
  | 22 => x.copy
  | _ => x
theorem getX_c (x : Mx) (r : Nat) : (x.getX r).c = x.c := by unfold Mx.getX; split <;> rfl
theorem getX_m (x : Mx) (r : Nat) : (x.getX r).m = x.m := by unfold Mx.getX; split <;> rfl
theorem getX_l (x : Mx) (r : Nat) : (x.getX r).cy.length ≤ x.cy.length + 1 := by
  unfold Mx.getX
  split
  · show (x.cy ++ [_]).length ≤ _; simp
  · omega
theorem getV_lt {x : Mx} (hk : okM x.m = true) (hc : x.c.ok) (r : Nat) : x.getV r < 256 := by
  unfold Mx.getV
  split
  · exact (peek_byte hk hc.2.2.2.2.1).2
  · exact reg_lt hc r
end Go.Proofs.Ytiidkhfigifmjaa
