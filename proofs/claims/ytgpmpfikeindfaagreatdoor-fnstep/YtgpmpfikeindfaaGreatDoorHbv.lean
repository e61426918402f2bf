/- What the specification asks of a processor and a memory; the instruction where it stands. -/
import Derived.Test.YtgpmpfikeindfaaGreatDoorV01
import Derived.Test.YtgpmpfikeindfaaGreatDoorV02
import Derived.Test.YtgpmpfikeindfaaGreatDoorV09
import Derived.Deep.RegionWith
import Derived.BigRegion
namespace Go.Proofs.YtgpmpfikeindfaaGreatDoor
open Go.ChangeShapes Go.WideShapes Go.ChangeAt Go.RowKit
set_option linter.unusedVariables false
set_option linter.unusedSimpArgs false

abbrev cpA (c : Cp) : Array Value := #[.int .i64 (c.b : Int), .int .i64 (c.c : Int), .int .i64 (c.d : Int), .int .i64 (c.e : Int), .int .i64 (c.h : Int), .int .i64 (c.l : Int), .int .i64 0, .int .i64 (c.a : Int), .int .i64 (c.f : Int), .int .i64 (c.sp : Int), .int .i64 (c.pc : Int), .bool c.iff, .bool c.ei, .bool c.halt]
abbrev cpV (c : Cp) : Value := .agg (cpA c)
/-- a processor that is right, as natural numbers -/
def Cu.cp (c : Cu) : Cp := ⟨c.r0.toNat, c.r1.toNat, c.r2.toNat, c.r3.toNat, c.r4.toNat, c.r5.toNat, c.r7.toNat, c.f.toNat, c.sp.toNat, c.pc.toNat, c.iff, c.ei, c.halt⟩
theorem inB_bd {z : Int} (h : inB z 0 255 = true) : 0 ≤ z ∧ z ≤ 255 := by
  simp [inB] at h
  omega
theorem okC_parts {c : Cu} (h : okC c = true) : (∀ i, i < 8 → 0 ≤ c.reg i ∧ c.reg i ≤ 255) ∧ c.r6 = 0 ∧ (0 ≤ c.f ∧ c.f ≤ 255) ∧ (0 ≤ c.sp ∧ c.sp ≤ 255) ∧ (0 ≤ c.pc ∧ c.pc ≤ 255) ∧ (c.ei = true → c.iff = true) := by
  unfold okC at h
  simp only [Bool.and_eq_true] at h
  obtain ⟨⟨⟨⟨⟨h1, h2⟩, h3⟩, h4⟩, h5⟩, h6⟩ := h
  refine ⟨fun i hi => inB_bd ?_, by simpa using h2, inB_bd h3, inB_bd h4, inB_bd h5, fun e => ?_⟩
  · unfold regsB at h1
    rw [List.all_eq_true] at h1
    exact h1 i (List.mem_range.2 hi)
  · rw [e] at h6
    simpa using h6
theorem okC_cp {c : Cu} (h : okC c = true) : cuV c = cpV c.cp ∧ c.cp.ok := by
  obtain ⟨hr, h6, hf, hs, hp, _⟩ := okC_parts h
  have e0 := hr 0 (by omega)
  have e1 := hr 1 (by omega)
  have e2 := hr 2 (by omega)
  have e3 := hr 3 (by omega)
  have e4 := hr 4 (by omega)
  have e5 := hr 5 (by omega)
  have e7 := hr 7 (by omega)
  simp only [Cu.reg] at e0 e1 e2 e3 e4 e5 e7
  refine ⟨?_, ?_⟩
  · show Value.agg _ = Value.agg _
    unfold cuA cpA Cu.cp
    simp only []
    rw [h6, Int.toNat_of_nonneg e0.1, Int.toNat_of_nonneg e1.1, Int.toNat_of_nonneg e2.1, Int.toNat_of_nonneg e3.1, Int.toNat_of_nonneg e4.1, Int.toNat_of_nonneg e5.1, Int.toNat_of_nonneg e7.1, Int.toNat_of_nonneg hf.1, Int.toNat_of_nonneg hs.1, Int.toNat_of_nonneg hp.1]
  · unfold Cp.ok Cu.cp
    simp only []
    omega
/-- two things are boxed, and more comes behind -/
theorem two_newC (w : World) (A0 A1 : Array Value) (t t1 : TypeId) : Blk ((w.alloc (.cells A0 t)).alloc (.cells A1 t1)) w.heap.size A0 ∧ Blk ((w.alloc (.cells A0 t)).alloc (.cells A1 t1)) (w.heap.size + 1) A1 ∧ Below w.heap.size w ((w.alloc (.cells A0 t)).alloc (.cells A1 t1)) := two_newI (Below.refl _ _)
set_option maxRecDepth 100000 in
theorem cask_spec (c : Cu) (v : Value) (M : Mem) (w : World) (h : MemR w v M) (hf : Fit M) :
    Calls Tryz.prog 23 #[cuV c, v] w fun e w' => e = .returned (.bool (okC c && okM M)) ∧ Below w.heap.size w w' := by
  obtain ⟨a1, p1, a2, p2, rfl, _, _⟩ := h.form
  obtain ⟨q0, q1, hB⟩ := two_newC w (cuA c) #[.slice a1 M.rom.length p1, .slice a2 M.ram.length p2, .int .i64 M.page, .int .i64 M.screen, .bool M.locked] 25 30
  replace h := hid h
  replace q1 := hid q1
  replace hB := hid hB
  have x0 := q0.cell
  clear q0
  go_enter Tryz.func23, Tryz.ntmps23
  go_upto_region 1 with fail
  obtain ⟨V, hV⟩ : ∃ V, ((w.alloc (.cells (cuA c) 25)).alloc (.cells #[.slice a1 M.rom.length p1, .slice a2 M.ram.length p2, .int .i64 M.page, .int .i64 M.screen, .bool M.locked] 30)) = V := ⟨_, rfl⟩
  rw [hV] at q1 hB x0 ⊢
  clear hV
  go_wp2_with fail
  refine (cpuok_spec c V).mono ?_
  rintro e w1 ⟨rfl, hb⟩
  have hB1 := hid (hB.out.trans (hb.mono hB.out.size))
  cases hq : okC c
  · clear q1 hB hb x0 h
    go_wp2
    go_ret
    exact ⟨ret_bool (by rw [hq]; rfl), hB1.out⟩
  · have q2 := (q1.out.below hb q1.out.lt).cell
    clear q1 hB hb x0
    go_wp2_with fail
    refine (ok_spec _ M w1 (h.out.below hB1.out) hf.1 hf.2.1 hf.2.2).mono ?_
    rintro e w2 ⟨rfl, hb2⟩
    have hB2 := hid (hB1.out.trans (hb2.mono hB1.out.size))
    clear q2 hB1 hb2 h
    go_wp2
    go_ret
    exact ⟨ret_bool (by rw [hq, Bool.true_and]), hB2.out⟩
theorem peekN_spec (v : Value) (M : Mem) (a : Nat) (w : World) (h : MemR w v M) (hk : okM M = true) (ha : a < 256) :
    Calls Tryz.prog 49 #[v, .int .i64 (a : Int)] w fun e w' => e = .returned (.int .i64 (peekN M a : Int)) ∧ Below w.heap.size w w' := by
  have := peek0_spec v M (a : Int) w h hk (by omega) (by omega)
  rw [(peek_byte hk ha).1] at this
  exact this
/-- while an instruction is looked up -/
structure ISt (w W : World) (A B C : Array Value) : Prop where
  q0 : Blk W w.heap.size A
  q1 : Blk W (w.heap.size + 1) B
  q2 : Blk W (w.heap.size + 1 + 1) C
  bel : Below w.heap.size w W
theorem ISt.below {w W W' : World} {A B C : Array Value} (h : ISt w W A B C) (hb : Below W.heap.size W W') : ISt w W' A B C :=
  ⟨h.q0.below hb h.q0.lt, h.q1.below hb h.q1.lt, h.q2.below hb h.q2.lt, h.bel.trans (hb.mono h.bel.size)⟩
theorem ISt.drew {w W : World} {A B C : Array Value} (h : ISt w W A B C) : ISt w W.drew A B C := h.below ⟨rfl, rfl, rfl, Nat.le_refl _, fun _ _ => rfl⟩
theorem ISt.start (w : World) (A B C : Array Value) (t t1 t2 : TypeId) : ISt w (((w.alloc (.cells A t)).alloc (.cells B t1)).alloc (.cells C t2)) A B C := by
  obtain ⟨q0, q1, hB⟩ := two_newC w A B t t1
  have q2 := Blk.new ((w.alloc (.cells A t)).alloc (.cells B t1)) C t2
  simp only [World.size_alloc] at q2
  exact ⟨q0.alloc _, q1.alloc _, q2, hB.alloc hB.size _⟩
theorem ISt.put {w W : World} {A B C : Array Value} (h : ISt w W A B C) (i : Nat) (u : Value) : ISt w (W.setCell ⟨w.heap.size + 1 + 1, i, none⟩ u) A B (C.setIfInBounds i u) :=
  ⟨h.q0.other (by simp only []; omega) u, h.q1.other (by simp) u, h.q2.set i u, h.bel.setCell (p := ⟨w.heap.size + 1 + 1, i, none⟩) (by simp only []; omega) u⟩
theorem ISt.held {w W : World} {c : Cp} {v0 v1 v2 v3 v4 : Value} {C : Array Value} (h : ISt w W (cpA c) #[v0, v1, v2, v3, v4] C) : W.cell? ⟨w.heap.size, 10, none⟩ = some (.int .i64 (c.pc : Int)) ∧ W.cell? ⟨w.heap.size + 1, 0, none⟩ = some v0 ∧ W.cell? ⟨w.heap.size + 1, 1, none⟩ = some v1 ∧ W.cell? ⟨w.heap.size + 1, 2, none⟩ = some v2 ∧ W.cell? ⟨w.heap.size + 1, 3, none⟩ = some v3 ∧ W.cell? ⟨w.heap.size + 1, 4, none⟩ = some v4 ∧ Hid (∃ C, ISt w W (cpA c) #[v0, v1, v2, v3, v4] C) :=
  ⟨h.q0.cell 10, h.q1.cell 0, h.q1.cell 1, h.q1.cell 2, h.q1.cell 3, h.q1.cell 4, ⟨_, h⟩⟩
set_option maxRecDepth 100000 in
set_option maxHeartbeats 2000000 in
theorem cinstr_spec (c : Cp) (v : Value) (M : Mem) (w : World) (h : MemR w v M) (hk : okM M = true) (hp : c.pc < 256) :
    Calls Tryz.prog 28 #[cpV c, v] w fun e w' => e = .returned (dcdV (peekN M c.pc) (peekN M ((c.pc + 1) % 256))) ∧ Below w.heap.size w w' := by
  obtain ⟨a1, p1, a2, p2, rfl, _, _⟩ := h.form
  have hs := ISt.start w (cpA c) #[.slice a1 M.rom.length p1, .slice a2 M.ram.length p2, .int .i64 M.page, .int .i64 M.screen, .bool M.locked] #[.int .i64 0, .int .i64 0, .int .i64 0, .int .i64 0, .int .i64 0] 25 30 64
  have hpk : Hid (∀ W (a : Nat), a < 256 → Below w.heap.size w W → Calls Tryz.prog 49 #[memV (.slice a1 M.rom.length p1) (.slice a2 M.ram.length p2) M.page M.screen M.locked, .int .i64 (a : Int)] W fun e w' => e = .returned (.int .i64 (peekN M a : Int)) ∧ Below W.heap.size W w') := fun W a ha hb => peekN_spec _ M a W (h.below hb) hk ha
  have r1 := and255 (c.pc + 1) (by omega)
  push_cast at r1
  have m1 : ((c.pc : Int) + 1) % 256 = (((c.pc + 1) % 256 : Nat) : Int) := by omega
  have hs1 : (c.pc + 1) % 256 < 256 := Nat.mod_lt _ (by omega)
  have b1 := (peek_byte hk hp).2
  have b2 := (peek_byte hk hs1).2
  have c1 := hid (fun W hb => hpk.out W c.pc hp hb)
  have c2 := hid (fun W hb => hpk.out W _ hs1 hb)
  have hdec := hid (fun W => dec0_spec (peekN M c.pc) (peekN M ((c.pc + 1) % 256)) W (by omega) (by omega) (by omega) (by omega))
  generalize hD : dcdV (peekN M c.pc) (peekN M ((c.pc + 1) % 256)) = D at *
  have hD2 : ∃ d0 d1 d2 d3 d4, D = insV d0 d1 d2 d3 d4 := ⟨_, _, _, _, _, hD.symm⟩
  obtain ⟨d0, d1, d2, d3, d4, rfl⟩ := hD2
  clear hD hpk
  generalize peekN M c.pc = A1 at *
  generalize peekN M ((c.pc + 1) % 256) = A2 at *
  generalize (c.pc + 1) % 256 = s1 at *
  have x0 := hs.q0.cell
  have x1 := hs.q1.cell
  replace hs := hid hs
  clear h
  go_enter Tryz.func28, Tryz.ntmps28
  go_upto_region 1 with fail
  obtain ⟨V, hV⟩ : ∃ V, (((w.alloc (.cells (cpA c) 25)).alloc (.cells #[.slice a1 M.rom.length p1, .slice a2 M.ram.length p2, .int .i64 M.page, .int .i64 M.screen, .bool M.locked] 30)).alloc (.cells #[.int .i64 0, .int .i64 0, .int .i64 0, .int .i64 0, .int .i64 0] 64)) = V := ⟨_, rfl⟩
  rw [hV] at hs x0 x1 ⊢
  clear hV
  clear x0 x1
  have wr : IntKind.i64.wrap ((c.pc : Int) + 1) = (c.pc : Int) + 1 := by rw [IntKind.wrap_i64]; omega
  replace hs := hid hs.out.drew
  -- walk
  refine wp_region_held_drew (S := (fun w' => w'.cell? ⟨w.heap.size, 10, none⟩ = some (.int .i64 (c.pc : Int)) ∧ w'.cell? ⟨w.heap.size + 1, 0, none⟩ = some (.slice a1 M.rom.length p1) ∧ w'.cell? ⟨w.heap.size + 1, 1, none⟩ = some (.slice a2 M.ram.length p2) ∧ w'.cell? ⟨w.heap.size + 1, 2, none⟩ = some (.int .i64 M.page) ∧ w'.cell? ⟨w.heap.size + 1, 3, none⟩ = some (.int .i64 M.screen) ∧ w'.cell? ⟨w.heap.size + 1, 4, none⟩ = some (.bool M.locked) ∧ Hid (∃ C, ISt w w' (cpA c) #[.slice a1 M.rom.length p1, .slice a2 M.ram.length p2, .int .i64 M.page, .int .i64 M.screen, .bool M.locked] C))) (by kernel_rfl) (hs.out.held) (fun hHeld => ?_)
  refine wpAnyH_take (i := 0) (oi := ({ dst := some 5, op := Op.load 30 (Operand.tmp 3), type := 30, pos := "l06_cpu.go:200", after := #[], guard := none } : Oper)) (v := ?_) rfl (by kernel_rfl) (by kernel_rfl) (by kernel_rfl) (fun _ _ _ h => h) (Or.inl ⟨by rfl, ?_⟩) (by assumption) ?_
  rotate_left
  · intro w hSw
    (try dsimp only at hSw)
    go_simp
    (try with_reducible rfl)
  (try simp only [Act.put, List.setIfInBounds_toArray, List.set_cons_zero, List.set_cons_succ])
  refine wpAnyH_take (i := 1) (oi := ({ dst := some 6, op := Op.fieldAddr 25 (Operand.tmp 2) 3, type := 0, pos := "l06_cpu.go:200", after := #[], guard := none } : Oper)) (v := ?_) rfl (by kernel_rfl) (by kernel_rfl) (by kernel_rfl) (fun _ _ _ h => h) (Or.inl ⟨by rfl, ?_⟩) (by assumption) ?_
  rotate_left
  · intro w hSw
    (try dsimp only at hSw)
    go_simp
    (try with_reducible rfl)
  (try simp only [Act.put, List.setIfInBounds_toArray, List.set_cons_zero, List.set_cons_succ])
  refine wpAnyH_take (i := 2) (oi := ({ dst := some 7, op := Op.load 3 (Operand.tmp 6), type := 3, pos := "l06_cpu.go:200", after := #[{ on := 1, ground := Ground.data }], guard := none } : Oper)) (v := ?_) rfl (by kernel_rfl) (by kernel_rfl) (by kernel_rfl) (fun _ _ _ h => h) (Or.inl ⟨by rfl, ?_⟩) (by assumption) ?_
  rotate_left
  · intro w hSw
    (try dsimp only at hSw)
    go_simp
    (try with_reducible rfl)
  (try simp only [Act.put, List.setIfInBounds_toArray, List.set_cons_zero, List.set_cons_succ])
  refine wpAnyH_take (i := 4) (oi := ({ dst := some 9, op := Op.load 30 (Operand.tmp 3), type := 30, pos := "l06_cpu.go:200", after := #[], guard := none } : Oper)) (v := ?_) rfl (by kernel_rfl) (by kernel_rfl) (by kernel_rfl) (fun _ _ _ h => h) (Or.inl ⟨by rfl, ?_⟩) (by assumption) ?_
  rotate_left
  · intro w hSw
    (try dsimp only at hSw)
    go_simp
    (try with_reducible rfl)
  (try simp only [Act.put, List.setIfInBounds_toArray, List.set_cons_zero, List.set_cons_succ])
  refine wpAnyH_take (i := 5) (oi := ({ dst := some 10, op := Op.fieldAddr 25 (Operand.tmp 2) 3, type := 0, pos := "l06_cpu.go:200", after := #[], guard := none } : Oper)) (v := ?_) rfl (by kernel_rfl) (by kernel_rfl) (by kernel_rfl) (fun _ _ _ h => h) (Or.inl ⟨by rfl, ?_⟩) (by assumption) ?_
  rotate_left
  · intro w hSw
    (try dsimp only at hSw)
    go_simp
    (try with_reducible rfl)
  (try simp only [Act.put, List.setIfInBounds_toArray, List.set_cons_zero, List.set_cons_succ])
  refine wpAnyH_take (i := 6) (oi := ({ dst := some 11, op := Op.load 3 (Operand.tmp 10), type := 3, pos := "l06_cpu.go:200", after := #[{ on := 5, ground := Ground.data }], guard := none } : Oper)) (v := ?_) rfl (by kernel_rfl) (by kernel_rfl) (by kernel_rfl) (fun _ _ _ h => h) (Or.inl ⟨by rfl, ?_⟩) (by assumption) ?_
  rotate_left
  · intro w hSw
    (try dsimp only at hSw)
    go_simp
    (try with_reducible rfl)
  (try simp only [Act.put, List.setIfInBounds_toArray, List.set_cons_zero, List.set_cons_succ])
  refine wpAnyH_take (i := 7) (oi := ({ dst := some 12, op := Op.binOp BinOp.add 3 (Operand.tmp 11) (Operand.const (Value.int IntKind.i64 1)) 3, type := 3, pos := "l06_cpu.go:200", after := #[{ on := 6, ground := Ground.data }], guard := none } : Oper)) (v := ?_) rfl (by kernel_rfl) (by kernel_rfl) (by kernel_rfl) (fun _ _ _ h => h) (Or.inl ⟨by rfl, ?_⟩) (by assumption) ?_
  rotate_left
  · intro w hSw
    (try dsimp only at hSw)
    go_simp
    (try with_reducible rfl)
  (try simp only [Act.put, List.setIfInBounds_toArray, List.set_cons_zero, List.set_cons_succ])
  refine wpAnyH_take (i := 8) (oi := ({ dst := some 13, op := Op.binOp BinOp.and 3 (Operand.tmp 12) (Operand.const (Value.int IntKind.i64 255)) 3, type := 3, pos := "l06_cpu.go:200", after := #[{ on := 7, ground := Ground.data }], guard := none } : Oper)) (v := ?_) rfl (by kernel_rfl) (by kernel_rfl) (by kernel_rfl) (fun _ _ _ h => h) (Or.inl ⟨by rfl, ?_⟩) (by assumption) ?_
  rotate_left
  · intro w hSw
    (try dsimp only at hSw)
    go_simp
    (try with_reducible rfl)
  (try simp only [Act.put, List.setIfInBounds_toArray, List.set_cons_zero, List.set_cons_succ])
  refine wpAnyH_ready (rs := [3]) (by kernel_rfl) (by simp) ?_
  refine AllReadyH.cons (o := ({ dst := some 8, op := Op.call { callee := Callee.value (Operand.func 49), args := #[Operand.tmp 5, Operand.tmp 7], argTypes := #[30, 3] }, type := 3, pos := "l06_cpu.go:200", after := #[{ on := 0, ground := Ground.data }, { on := 2, ground := Ground.data }], guard := none } : Oper)) rfl (fun K hK => ?_) AllReadyH.nil
  go_simp
  go_at_call 49
  refine (c1.out _ hs.out.bel).mono ?_
  rintro e w1 ⟨rfl, hb⟩
  have hs := hid (hs.out.below hb)
  clear hb
  refine hK.out _ _ (hs.out.held) (fun hHeld => ?_)
  clear hK K
  (try simp only [Act.put, List.setIfInBounds_toArray, List.set_cons_zero, List.set_cons_succ])
  refine wpAnyH_ready (rs := [9]) (by kernel_rfl) (by simp) ?_
  refine AllReadyH.cons (o := ({ dst := some 14, op := Op.call { callee := Callee.value (Operand.func 49), args := #[Operand.tmp 9, Operand.tmp 13], argTypes := #[30, 3] }, type := 3, pos := "l06_cpu.go:200", after := #[{ on := 4, ground := Ground.data }, { on := 8, ground := Ground.data }, { on := 3, ground := Ground.chain }], guard := none } : Oper)) rfl (fun K hK => ?_) AllReadyH.nil
  go_simp
  go_at_call 49
  refine (c2.out _ hs.out.bel).mono ?_
  rintro e w2 ⟨rfl, hb⟩
  have hs := hid (hs.out.below hb)
  clear hb
  refine hK.out _ _ (hs.out.held) (fun hHeld => ?_)
  clear hK K
  (try simp only [Act.put, List.setIfInBounds_toArray, List.set_cons_zero, List.set_cons_succ])
  refine wpAnyH_ready (rs := [10]) (by kernel_rfl) (by simp) ?_
  refine AllReadyH.cons (o := ({ dst := some 15, op := Op.call { callee := Callee.value (Operand.func 55), args := #[Operand.tmp 8, Operand.tmp 14], argTypes := #[3, 3] }, type := 64, pos := "l06_cpu.go:200", after := #[{ on := 3, ground := Ground.data }, { on := 9, ground := Ground.data }, { on := 9, ground := Ground.chain }], guard := none } : Oper)) rfl (fun K hK => ?_) AllReadyH.nil
  go_simp
  go_at_call 55
  refine (hdec.out _).mono ?_
  rintro e w3 ⟨rfl, hb⟩
  have hs := hid (hs.out.below hb)
  clear hb
  refine hK.out _ _ (hs.out.held) (fun hHeld => ?_)
  clear hK K
  (try simp only [Act.put, List.setIfInBounds_toArray, List.set_cons_zero, List.set_cons_succ])
  refine wpAnyH_ready (rs := [11]) (by kernel_rfl) (by simp) ?_
  refine AllReadyH.cons (o := ({ dst := none, op := Op.store 64 (Operand.tmp 4) (Operand.tmp 15), type := 0, pos := "l06_cpu.go:200", after := #[{ on := 10, ground := Ground.data }, { on := 10, ground := Ground.chain }, { on := 0, ground := Ground.phase }, { on := 1, ground := Ground.phase }, { on := 2, ground := Ground.phase }, { on := 3, ground := Ground.phase }, { on := 4, ground := Ground.phase }, { on := 5, ground := Ground.phase }, { on := 6, ground := Ground.phase }, { on := 7, ground := Ground.phase }, { on := 8, ground := Ground.phase }, { on := 9, ground := Ground.phase }, { on := 10, ground := Ground.phase }], guard := none } : Oper)) rfl (fun K hK => ?_) AllReadyH.nil
  go_simp
  have x2 := hs.out.q2.cell
  have f2 := hs.out.q2.frozen
  have z2 := hs.out.q2.lt
  go_simp
  refine hK.out _ _ (((((hs.out.put 0 (.int .i64 d0)).put 1 (.int .i64 d1)).put 2 (.int .i64 d2)).put 3 (.int .i64 d3)).put 4 (.int .i64 d4)).held (fun hHeld => ?_)
  clear hK K
  (try simp only [Act.put, List.setIfInBounds_toArray, List.set_cons_zero, List.set_cons_succ])
  refine wpAnyH_done (by kernel_rfl) ?_ _
  -- end of walk
  have h5 := (((((hs.out.put 0 (.int .i64 d0)).put 1 (.int .i64 d1)).put 2 (.int .i64 d2)).put 3 (.int .i64 d3)).put 4 (.int .i64 d4))
  have x5 := h5.q2.cell
  have hb5 := hid h5.bel
  clear hHeld x2 f2 z2 h5
  obtain ⟨w5, hw5⟩ : ∃ w5, (((((w3.setCell ⟨w.heap.size + 1 + 1, 0, none⟩ (.int .i64 d0)).setCell ⟨w.heap.size + 1 + 1, 1, none⟩ (.int .i64 d1)).setCell ⟨w.heap.size + 1 + 1, 2, none⟩ (.int .i64 d2)).setCell ⟨w.heap.size + 1 + 1, 3, none⟩ (.int .i64 d3)).setCell ⟨w.heap.size + 1 + 1, 4, none⟩ (.int .i64 d4)) = w5 := ⟨_, rfl⟩
  rw [hw5] at x5 hb5 ⊢
  clear hw5
  go_wp2
  refine bodyPost_ret (v := insV d0 d1 d2 d3 d4) (by simp [results, Tryz.results28, go_sem, x5]) rfl ⟨rfl, hb5.out⟩
end Go.Proofs.YtgpmpfikeindfaaGreatDoor
