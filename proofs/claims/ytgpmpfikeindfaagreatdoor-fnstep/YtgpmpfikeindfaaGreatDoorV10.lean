/- What the specification asks of a processor and a memory; the instruction where it stands. -/
import Derived.Test.YtgpmpfikeindfaaGreatDoorV01
import Derived.Test.YtgpmpfikeindfaaGreatDoorV02
import Derived.Test.YtgpmpfikeindfaaGreatDoorV09
import Derived.Deep.RegionWith
import Derived.BigRegion
namespace Go.Proofs.YtgpmpfikeindfaaGreatDoor
open Go.ChangeShapes Go.WideShapes Go.ChangeAt Go.RowKit
set_option linter.unusedVariables false
set_option linter.unusedSimpArgs false

abbrev cpA (c : Cp) : Array Value := #[.int .i64 (c.b : Int), .int .i64 (c.c : Int), .int .i64 (c.d : Int), .int .i64 (c.e : Int), .int .i64 (c.h : Int), .int .i64 (c.l : Int), .int .i64 0, .int .i64 (c.a : Int), .int .i64 (c.f : Int), .int .i64 (c.sp : Int), .int .i64 (c.pc : Int), .bool c.iff, .bool c.ei, .bool c.halt]
abbrev cpV (c : Cp) : Value := .agg (cpA c)
/-- a processor that is right, as natural numbers -/
def Cu.cp (c : Cu) : Cp := ⟨c.r0.toNat, c.r1.toNat, c.r2.toNat, c.r3.toNat, c.r4.toNat, c.r5.toNat, c.r7.toNat, c.f.toNat, c.sp.toNat, c.pc.toNat, c.iff, c.ei, c.halt⟩
theorem inB_bd {z : Int} (h : inB z 0 255 = true) : 0 ≤ z ∧ z ≤ 255 := by
  simp [inB] at h
  omega
theorem okC_parts {c : Cu} (h : okC c = true) : (∀ i, i < 8 → 0 ≤ c.reg i ∧ c.reg i ≤ 255) ∧ c.r6 = 0 ∧ (0 ≤ c.f ∧ c.f ≤ 255) ∧ (0 ≤ c.sp ∧ c.sp ≤ 255) ∧ (0 ≤ c.pc ∧ c.pc ≤ 255) ∧ (c.ei = true → c.iff = true) := by
  unfold okC at h
  simp only [Bool.and_eq_true] at h
  obtain ⟨⟨⟨⟨⟨h1, h2⟩, h3⟩, h4⟩, h5⟩, h6⟩ := h
  refine ⟨fun i hi => inB_bd ?_, by simpa using h2, inB_bd h3, inB_bd h4, inB_bd h5, fun e => ?_⟩
  · unfold regsB at h1
    rw [List.all_eq_true] at h1
    exact h1 i (List.mem_range.2 hi)
  · rw [e] at h6
    simpa using h6
theorem okC_cp {c : Cu} (h : okC c = true) : cuV c = cpV c.cp ∧ c.cp.ok := by
  obtain ⟨hr, h6, hf, hs, hp, _⟩ := okC_parts h
  have e0 := hr 0 (by omega)
  have e1 := hr 1 (by omega)
  have e2 := hr 2 (by omega)
  have e3 := hr 3 (by omega)
  have e4 := hr 4 (by omega)
  have e5 := hr 5 (by omega)
  have e7 := hr 7 (by omega)
  simp only [Cu.reg] at e0 e1 e2 e3 e4 e5 e7
  refine ⟨?_, ?_⟩
  · show Value.agg _ = Value.agg _
    unfold cuA cpA Cu.cp
    simp only []
    rw [h6, Int.toNat_of_nonneg e0.1, Int.toNat_of_nonneg e1.1, Int.toNat_of_nonneg e2.1, Int.toNat_of_nonneg e3.1, Int.toNat_of_nonneg e4.1, Int.toNat_of_nonneg e5.1, Int.toNat_of_nonneg e7.1, Int.toNat_of_nonneg hf.1, Int.toNat_of_nonneg hs.1, Int.toNat_of_nonneg hp.1]
  · unfold Cp.ok Cu.cp
    simp only []
    omega
/-- two things are boxed, and more comes behind -/
theorem two_newC (w : World) (A0 A1 : Array Value) (t t1 : TypeId) : Blk ((w.alloc (.cells A0 t)).alloc (.cells A1 t1)) w.heap.size A0 ∧ Blk ((w.alloc (.cells A0 t)).alloc (.cells A1 t1)) (w.heap.size + 1) A1 ∧ Below w.heap.size w ((w.alloc (.cells A0 t)).alloc (.cells A1 t1)) := two_newI (Below.refl _ _)
set_option maxRecDepth 100000 in
theorem cask_spec (c : Cu) (v : Value) (M : Mem) (w : World) (h : MemR w v M) (hf : Fit M) :
    Calls Tryz.prog 23 #[cuV c, v] w fun e w' => e = .returned (.bool (okC c && okM M)) ∧ Below w.heap.size w w' := by
  obtain ⟨a1, p1, a2, p2, rfl, _, _⟩ := h.form
  obtain ⟨q0, q1, hB⟩ := two_newC w (cuA c) #[.slice a1 M.rom.length p1, .slice a2 M.ram.length p2, .int .i64 M.page, .int .i64 M.screen, .bool M.locked] 25 30
  replace h := hid h
  replace q1 := hid q1
  replace hB := hid hB
  have x0 := q0.cell
  clear q0
  go_enter Tryz.func23, Tryz.ntmps23
  go_upto_region 1 with fail
  obtain ⟨V, hV⟩ : ∃ V, ((w.alloc (.cells (cuA c) 25)).alloc (.cells #[.slice a1 M.rom.length p1, .slice a2 M.ram.length p2, .int .i64 M.page, .int .i64 M.screen, .bool M.locked] 30)) = V := ⟨_, rfl⟩
  rw [hV] at q1 hB x0 ⊢
  clear hV
  go_wp2_with fail
  refine (cpuok_spec c V).mono ?_
  rintro e w1 ⟨rfl, hb⟩
  have hB1 := hid (hB.out.trans (hb.mono hB.out.size))
  cases hq : okC c
  · clear q1 hB hb x0 h
    go_wp2
    go_ret
    exact ⟨ret_bool (by rw [hq]; rfl), hB1.out⟩
  · have q2 := (q1.out.below hb q1.out.lt).cell
    clear q1 hB hb x0
    go_wp2_with fail
    refine (ok_spec _ M w1 (h.out.below hB1.out) hf.1 hf.2.1 hf.2.2).mono ?_
    rintro e w2 ⟨rfl, hb2⟩
    have hB2 := hid (hB1.out.trans (hb2.mono hB1.out.size))
    clear q2 hB1 hb2 h
    go_wp2
    go_ret
    exact ⟨ret_bool (by rw [hq, Bool.true_and]), hB2.out⟩
theorem peekN_spec (v : Value) (M : Mem) (a : Nat) (w : World) (h : MemR w v M) (hk : okM M = true) (ha : a < 256) :
    Calls Tryz.prog 49 #[v, .int .i64 (a : Int)] w fun e w' => e = .returned (.int .i64 (peekN M a : Int)) ∧ Below w.heap.size w w' := by
  have := peek0_spec v M (a : Int) w h hk (by omega) (by omega)
  rw [(peek_byte hk ha).1] at this
  exact this
/-- while an instruction is looked up -/
structure ISt (w W : World) (A B C : Array Value) : Prop where
  q0 : Blk W w.heap.size A
  q1 : Blk W (w.heap.size + 1) B
  q2 : Blk W (w.heap.size + 1 + 1) C
  bel : Below w.heap.size w W
theorem ISt.below {w W W' : World} {A B C : Array Value} (h : ISt w W A B C) (hb : Below W.heap.size W W') : ISt w W' A B C :=
  ⟨h.q0.below hb h.q0.lt, h.q1.below hb h.q1.lt, h.q2.below hb h.q2.lt, h.bel.trans (hb.mono h.bel.size)⟩
theorem ISt.drew {w W : World} {A B C : Array Value} (h : ISt w W A B C) : ISt w W.drew A B C := h.below ⟨rfl, rfl, rfl, Nat.le_refl _, fun _ _ => rfl⟩
theorem ISt.start (w : World) (A B C : Array Value) (t t1 t2 : TypeId) : ISt w (((w.alloc (.cells A t)).alloc (.cells B t1)).alloc (.cells C t2)) A B C := by
  obtain ⟨q0, q1, hB⟩ := two_newC w A B t t1
  have q2 := Blk.new ((w.alloc (.cells A t)).alloc (.cells B t1)) C t2
  simp only [World.size_alloc] at q2
  exact ⟨q0.alloc _, q1.alloc _, q2, hB.alloc hB.size _⟩
theorem ISt.put {w W : World} {A B C : Array Value} (h : ISt w W A B C) (i : Nat) (u : Value) : ISt w (W.setCell ⟨w.heap.size + 1 + 1, i, none⟩ u) A B (C.setIfInBounds i u) :=
  ⟨h.q0.other (by simp only []; omega) u, h.q1.other (by simp) u, h.q2.set i u, h.bel.setCell (p := ⟨w.heap.size + 1 + 1, i, none⟩) (by simp only []; omega) u⟩
theorem ISt.held {w W : World} {c : Cp} {v0 v1 v2 v3 v4 : Value} {C : Array Value} (h : ISt w W (cpA c) #[v0, v1, v2, v3, v4] C) : W.cell? ⟨w.heap.size, 10, none⟩ = some (.int .i64 (c.pc : Int)) ∧ W.cell? ⟨w.heap.size + 1, 0, none⟩ = some v0 ∧ W.cell? ⟨w.heap.size + 1, 1, none⟩ = some v1 ∧ W.cell? ⟨w.heap.size + 1, 2, none⟩ = some v2 ∧ W.cell? ⟨w.heap.size + 1, 3, none⟩ = some v3 ∧ W.cell? ⟨w.heap.size + 1, 4, none⟩ = some v4 ∧ Hid (∃ C, ISt w W (cpA c) #[v0, v1, v2, v3, v4] C) :=
  ⟨h.q0.cell 10, h.q1.cell 0, h.q1.cell 1, h.q1.cell 2, h.q1.cell 3, h.q1.cell 4, ⟨_, h⟩⟩
set_option maxRecDepth 100000 in
set_option maxHeartbeats 2000000 in
theorem cinstr_spec (c : Cp) (v : Value) (M : Mem) (w : World) (h : MemR w v M) (hk : okM M = true) (hp : c.pc < 256) :
    Calls Tryz.prog 28 #[cpV c, v] w fun e w' => e = .returned (dcdV (peekN M c.pc) (peekN M ((c.pc + 1) % 256))) ∧ Below w.heap.size w w' := by
  obtain ⟨a1, p1, a2, p2, rfl, _, _⟩ := h.form
  have hs := ISt.start w (cpA c) #[.slice a1 M.rom.length p1, .slice a2 M.ram.length p2, .int .i64 M.page, .int .i64 M.screen, .bool M.locked] #[.int .i64 0, .int .i64 0, .int .i64 0, .int .i64 0, .int .i64 0] 25 30 64
  have hpk : Hid (∀ W (a : Nat), a < 256 → Below w.heap.size w W → Calls Tryz.prog 49 #[memV (.slice a1 M.rom.length p1) (.slice a2 M.ram.length p2) M.page M.screen M.locked, .int .i64 (a : Int)] W fun e w' => e = .returned (.int .i64 (peekN M a : Int)) ∧ Below W.heap.size W w') := fun W a ha hb => peekN_spec _ M a W (h.below hb) hk ha
  have r1 := and255 (c.pc + 1) (by omega)
  push_cast at r1
  have m1 : ((c.pc : Int) + 1) % 256 = (((c.pc + 1) % 256 : Nat) : Int) := by omega
  have hs1 : (c.pc + 1) % 256 < 256 := Nat.mod_lt _ (by omega)
  have b1 := (peek_byte hk hp).2
  have b2 := (peek_byte hk hs1).2
  have c1 := hid (fun W hb => hpk.out W c.pc hp hb)
  have c2 := hid (fun W hb => hpk.out W _ hs1 hb)
  have hdec := hid (fun W => dec0_spec (peekN M c.pc) (peekN M ((c.pc + 1) % 256)) W (by omega) (by omega) (by omega) (by omega))
  generalize hD : dcdV (peekN M c.pc) (peekN M ((c.pc + 1) % 256)) = D at *
  have hD2 : ∃ d0 d1 d2 d3 d4, D = insV d0 d1 d2 d3 d4 := ⟨_, _, _, _, _, hD.symm⟩
  obtain ⟨d0, d1, d2, d3, d4, rfl⟩ := hD2
  clear hD hpk
  generalize peekN M c.pc = A1 at *
  generalize peekN M ((c.pc + 1) % 256) = A2 at *
  generalize (c.pc + 1) % 256 = s1 at *
  have x0 := hs.q0.cell
  have x1 := hs.q1.cell
  replace hs := hid hs
  clear h
  go_enter Tryz.func28, Tryz.ntmps28
  go_upto_region 1 with fail
  obtain ⟨V, hV⟩ : ∃ V, (((w.alloc (.cells (cpA c) 25)).alloc (.cells #[.slice a1 M.rom.length p1, .slice a2 M.ram.length p2, .int .i64 M.page, .int .i64 M.screen, .bool M.locked] 30)).alloc (.cells #[.int .i64 0, .int .i64 0, .int .i64 0, .int .i64 0, .int .i64 0] 64)) = V := ⟨_, rfl⟩
  rw [hV] at hs x0 x1 ⊢
  clear hV
  clear x0 x1
  have wr : IntKind.i64.wrap ((c.pc : Int) + 1) = (c.pc : Int) + 1 := by rw [IntKind.wrap_i64]; omega
  replace hs := hid hs.out.drew
  -- walk
  refine wp_region_held_drew (S := (fun w' => w'.cell? ⟨w.heap.size, 10, none⟩ = some (.int .i64 (c.pc : Int)) ∧ w'.cell? ⟨w.heap.size + 1, 0, none⟩ = some (.slice a1 M.rom.length p1) ∧ w'.cell? ⟨w.heap.size + 1, 1, none⟩ = some (.slice a2 M.ram.length p2) ∧ w'.cell? ⟨w.heap.size + 1, 2, none⟩ = some (.int .i64 M.page) ∧ w'.cell? ⟨w.heap.size + 1, 3, none⟩ = some (.int .i64 M.screen) ∧ w'.cell? ⟨w.heap.size + 1, 4, none⟩ = some (.bool M.locked) ∧ Hid (∃ C, ISt w w' (cpA c) #[.slice a1 M.rom.length p1, .slice a2 M.ram.length p2, .int .i64 M.page, .int .i64 M.screen, .bool M.locked] C))) (by kernel_rfl) (hs.out.held) (fun hHeld => ?_)
  refine wpAnyH_take (i := 0) (oi := ({ dst := some 5, op := Op.load 30 (Operand.tmp 3), type := 30, pos := "l06_cpu.go:200", after := #[], guard := none } : Oper)) (v := ?_) rfl (by kernel_rfl) (by kernel_rfl) (by kernel_rfl) (fun _ _ _ h => h) (Or.inl ⟨by rfl, ?_⟩) (by assumption) ?_
  rotate_left
  · intro w hSw
    (try dsimp only at hSw)
    go_simp
    (try with_reducible rfl)
  (try simp only [Act.put, List.setIfInBounds_toArray, List.set_cons_zero, List.set_cons_succ])
  refine wpAnyH_take (i := 1) (oi := ({ dst := some 6, op := Op.fieldAddr 25 (Operand.tmp 2) 3, type := 0, pos := "l06_cpu.go:200", after := #[], guard := none } : Oper)) (v := ?_) rfl (by kernel_rfl) (by kernel_rfl) (by kernel_rfl) (fun _ _ _ h => h) (Or.inl ⟨by rfl, ?_⟩) (by assumption) ?_
  rotate_left
  · intro w hSw
    (try dsimp only at hSw)
    go_simp
    (try with_reducible rfl)
  (try simp only [Act.put, List.setIfInBounds_toArray, List.set_cons_zero, List.set_cons_succ])
  refine wpAnyH_take (i := 2) (oi := ({ dst := some 7, op := Op.load 3 (Operand.tmp 6), type := 3, pos := "l06_cpu.go:200", after := #[{ on := 1, ground := Ground.data }], guard := none } : Oper)) (v := ?_) rfl (by kernel_rfl) (by kernel_rfl) (by kernel_rfl) (fun _ _ _ h => h) (Or.inl ⟨by rfl, ?_⟩) (by assumption) ?_
  rotate_left
  · intro w hSw
    (try dsimp only at hSw)
    go_simp
    (try with_reducible rfl)
  (try simp only [Act.put, List.setIfInBounds_toArray, List.set_cons_zero, List.set_cons_succ])
  refine wpAnyH_take (i := 4) (oi := ({ dst := some 9, op := Op.load 30 (Operand.tmp 3), type := 30, pos := "l06_cpu.go:200", after := #[], guard := none } : Oper)) (v := ?_) rfl (by kernel_rfl) (by kernel_rfl) (by kernel_rfl) (fun _ _ _ h => h) (Or.inl ⟨by rfl, ?_⟩) (by assumption) ?_
  rotate_left
  · intro w hSw
    (try dsimp only at hSw)
    go_simp
    (try with_reducible rfl)
  (try simp only [Act.put, List.setIfInBounds_toArray, List.set_cons_zero, List.set_cons_succ])
  refine wpAnyH_take (i := 5) (oi := ({ dst := some 10, op := Op.fieldAddr 25 (Operand.tmp 2) 3, type := 0, pos := "l06_cpu.go:200", after := #[], guard := none } : Oper)) (v := ?_) rfl (by kernel_rfl) (by kernel_rfl) (by kernel_rfl) (fun _ _ _ h => h) (Or.inl ⟨by rfl, ?_⟩) (by assumption) ?_
  rotate_left
  · intro w hSw
    (try dsimp only at hSw)
    go_simp
    (try with_reducible rfl)
  (try simp only [Act.put, List.setIfInBounds_toArray, List.set_cons_zero, List.set_cons_succ])
  refine wpAnyH_take (i := 6) (oi := ({ dst := some 11, op := Op.load 3 (Operand.tmp 10), type := 3, pos := "l06_cpu.go:200", after := #[{ on := 5, ground := Ground.data }], guard := none } : Oper)) (v := ?_) rfl (by kernel_rfl) (by kernel_rfl) (by kernel_rfl) (fun _ _ _ h => h) (Or.inl ⟨by rfl, ?_⟩) (by assumption) ?_
  rotate_left
  · intro w hSw
    (try dsimp only at hSw)
    go_simp
    (try with_reducible rfl)
  (try simp only [Act.put, List.setIfInBounds_toArray, List.set_cons_zero, List.set_cons_succ])
  refine wpAnyH_take (i := 7) (oi := ({ dst := some 12, op := Op.binOp BinOp.add 3 (Operand.tmp 11) (Operand.const (Value.int IntKind.i64 1)) 3, type := 3, pos := "l06_cpu.go:200", after := #[{ on := 6, ground := Ground.data }], guard := none } : Oper)) (v := ?_) rfl (by kernel_rfl) (by kernel_rfl) (by kernel_rfl) (fun _ _ _ h => h) (Or.inl ⟨by rfl, ?_⟩) (by assumption) ?_
  rotate_left
  · intro w hSw
    (try dsimp only at hSw)
    go_simp
    (try with_reducible rfl)
  (try simp only [Act.put, List.setIfInBounds_toArray, List.set_cons_zero, List.set_cons_succ])
  refine wpAnyH_take (i := 8) (oi := ({ dst := some 13, op := Op.binOp BinOp.and 3 (Operand.tmp 12) (Operand.const (Value.int IntKind.i64 255)) 3, type := 3, pos := "l06_cpu.go:200", after := #[{ on := 7, ground := Ground.data }], guard := none } : Oper)) (v := ?_) rfl (by kernel_rfl) (by kernel_rfl) (by kernel_rfl) (fun _ _ _ h => h) (Or.inl ⟨by rfl, ?_⟩) (by assumption) ?_
  rotate_left
  · intro w hSw
    (try dsimp only at hSw)
    go_simp
    (try with_reducible rfl)
  (try simp only [Act.put, List.setIfInBounds_toArray, List.set_cons_zero, List.set_cons_succ])
  refine wpAnyH_ready (rs := [3]) (by kernel_rfl) (by simp) ?_
  refine AllReadyH.cons (o := ({ dst := some 8, op := Op.call { callee := Callee.value (Operand.func 49), args := #[Operand.tmp 5, Operand.tmp 7], argTypes := #[30, 3] }, type := 3, pos := "l06_cpu.go:200", after := #[{ on := 0, ground := Ground.data }, { on := 2, ground := Ground.data }], guard := none } : Oper)) rfl (fun K hK => ?_) AllReadyH.nil
  go_simp
  go_at_call 49
  refine (c1.out _ hs.out.bel).mono ?_
  rintro e w1 ⟨rfl, hb⟩
  have hs := hid (hs.out.below hb)
  clear hb
  refine hK.out _ _ (hs.out.held) (fun hHeld => ?_)
  clear hK K
  (try simp only [Act.put, List.setIfInBounds_toArray, List.set_cons_zero, List.set_cons_succ])
  refine wpAnyH_ready (rs := [9]) (by kernel_rfl) (by simp) ?_
  refine AllReadyH.cons (o := ({ dst := some 14, op := Op.call { callee := Callee.value (Operand.func 49), args := #[Operand.tmp 9, Operand.tmp 13], argTypes := #[30, 3] }, type := 3, pos := "l06_cpu.go:200", after := #[{ on := 4, ground := Ground.data }, { on := 8, ground := Ground.data }, { on := 3, ground := Ground.chain }], guard := none } : Oper)) rfl (fun K hK => ?_) AllReadyH.nil
  go_simp
  go_at_call 49
  refine (c2.out _ hs.out.bel).mono ?_
  rintro e w2 ⟨rfl, hb⟩
  have hs := hid (hs.out.below hb)
  clear hb
  refine hK.out _ _ (hs.out.held) (fun hHeld => ?_)
  clear hK K
  (try simp only [Act.put, List.setIfInBounds_toArray, List.set_cons_zero, List.set_cons_succ])
  refine wpAnyH_ready (rs := [10]) (by kernel_rfl) (by simp) ?_
  refine AllReadyH.cons (o := ({ dst := some 15, op := Op.call { callee := Callee.value (Operand.func 55), args := #[Operand.tmp 8, Operand.tmp 14], argTypes := #[3, 3] }, type := 64, pos := "l06_cpu.go:200", after := #[{ on := 3, ground := Ground.data }, { on := 9, ground := Ground.data }, { on := 9, ground := Ground.chain }], guard := none } : Oper)) rfl (fun K hK => ?_) AllReadyH.nil
  go_simp
  go_at_call 55
  refine (hdec.out _).mono ?_
  rintro e w3 ⟨rfl, hb⟩
  have hs := hid (hs.out.below hb)
  clear hb
  refine hK.out _ _ (hs.out.held) (fun hHeld => ?_)
  clear hK K
  (try simp only [Act.put, List.setIfInBounds_toArray, List.set_cons_zero, List.set_cons_succ])
  refine wpAnyH_ready (rs := [11]) (by kernel_rfl) (by simp) ?_
  refine AllReadyH.cons (o := ({ dst := none, op := Op.store 64 (Operand.tmp 4) (Operand.tmp 15), type := 0, pos := "l06_cpu.go:200", after := #[{ on := 10, ground := Ground.data }, { on := 10, ground := Ground.chain }, { on := 0, ground := Ground.phase }, { on := 1, ground := Ground.phase }, { on := 2, ground := Ground.phase }, { on := 3, ground := Ground.phase }, { on := 4, ground := Ground.phase }, { on := 5, ground := Ground.phase }, { on := 6, ground := Ground.phase }, { on := 7, ground := Ground.phase }, { on := 8, ground := Ground.phase }, { on := 9, ground := Ground.phase }, { on := 10, ground := Ground.phase }], guard := none } : Oper)) rfl (fun K hK => ?_) AllReadyH.nil
  go_simp
  have x2 := hs.out.q2.cell
  have f2 := hs.out.q2.frozen
  have z2 := hs.out.q2.lt
  go_simp
  refine hK.out _ _ (((((hs.out.put 0 (.int .i64 d0)).put 1 (.int .i64 d1)).put 2 (.int .i64 d2)).put 3 (.int .i64 d3)).put 4 (.int .i64 d4)).held (fun hHeld => ?_)
  clear hK K
  (try simp only [Act.put, List.setIfInBounds_toArray, List.set_cons_zero, List.set_cons_succ])
  refine wpAnyH_done (by kernel_rfl) ?_ _
  -- end of walk
  have h5 := (((((hs.out.put 0 (.int .i64 d0)).put 1 (.int .i64 d1)).put 2 (.int .i64 d2)).put 3 (.int .i64 d3)).put 4 (.int .i64 d4))
  have x5 := h5.q2.cell
  have hb5 := hid h5.bel
  clear hHeld x2 f2 z2 h5
  obtain ⟨w5, hw5⟩ : ∃ w5, (((((w3.setCell ⟨w.heap.size + 1 + 1, 0, none⟩ (.int .i64 d0)).setCell ⟨w.heap.size + 1 + 1, 1, none⟩ (.int .i64 d1)).setCell ⟨w.heap.size + 1 + 1, 2, none⟩ (.int .i64 d2)).setCell ⟨w.heap.size + 1 + 1, 3, none⟩ (.int .i64 d3)).setCell ⟨w.heap.size + 1 + 1, 4, none⟩ (.int .i64 d4)) = w5 := ⟨_, rfl⟩
  rw [hw5] at x5 hb5 ⊢
  clear hw5
  go_wp2
  refine bodyPost_ret (v := insV d0 d1 d2 d3 d4) (by simp [results, Tryz.results28, go_sem, x5]) rfl ⟨rfl, hb5.out⟩
end Go.Proofs.YtgpmpfikeindfaaGreatDoor

/- What the machine's own calls do: conditions, and the unit. -/
namespace Go.Proofs.YtgpmpfikeindfaaGreatDoor
open Go.ChangeShapes Go.WideShapes Go.ChangeAt Go.RowKit
set_option linter.unusedVariables false
set_option linter.unusedSimpArgs false

theorem ne0 (m : Nat) : (((m : Nat) : Int) != 0) = (m != 0) := by
  rw [Bool.eq_iff_iff]
  simp
theorem holds_spec (f k : Nat) (w : World) (hf : f < 256) (hk : k < 8) :
    Calls Tryz.prog 114 #[.int .i64 (f : Int), .int .i64 (k : Int)] w fun e w' => e = .returned (.bool (holdN f k)) ∧ w' = w := by
  have r1 : bits .and .i64 (f : Int) 64 = ((Nat.land f 64 : Nat) : Int) := bAnd f 64 (by omega) (by omega)
  have r2 : bits .and .i64 (f : Int) 1 = ((Nat.land f 1 : Nat) : Int) := bAnd f 1 (by omega) (by omega)
  have r3 : bits .and .i64 (f : Int) 4 = ((Nat.land f 4 : Nat) : Int) := bAnd f 4 (by omega) (by omega)
  have r4 : bits .and .i64 (f : Int) 128 = ((Nat.land f 128 : Nat) : Int) := bAnd f 128 (by omega) (by omega)
  have n1 := ne0 (Nat.land f 64)
  have n2 := ne0 (Nat.land f 1)
  have n3 := ne0 (Nat.land f 4)
  have n4 := ne0 (Nat.land f 128)
  have hk8 : k = 0 ∨ k = 1 ∨ k = 2 ∨ k = 3 ∨ k = 4 ∨ k = 5 ∨ k = 6 ∨ k = 7 := by omega
  have e0 : holdN f 0 = ((Nat.land f 64 != 0) == false) := rfl
  have e1 : holdN f 1 = ((Nat.land f 64 != 0) == true) := rfl
  have e2 : holdN f 2 = ((Nat.land f 1 != 0) == false) := rfl
  have e3 : holdN f 3 = ((Nat.land f 1 != 0) == true) := rfl
  have e4 : holdN f 4 = ((Nat.land f 4 != 0) == false) := rfl
  have e5 : holdN f 5 = ((Nat.land f 4 != 0) == true) := rfl
  have e6 : holdN f 6 = (Nat.land f 128 != 0) := rfl
  have e7 : holdN f 7 = true := rfl
  generalize (Nat.land f 64 != 0) = b1 at *
  generalize (Nat.land f 1 != 0) = b2 at *
  generalize (Nat.land f 4 != 0) = b3 at *
  generalize (Nat.land f 128 != 0) = b4 at *
  generalize Nat.land f 64 = m1 at *
  generalize Nat.land f 1 = m2 at *
  generalize Nat.land f 4 = m3 at *
  generalize Nat.land f 128 = m4 at *
  rcases hk8 with rfl | rfl | rfl | rfl | rfl | rfl | rfl | rfl
  · rw [e0]
    clear e0 e1 e2 e3 e4 e5 e6 e7
    cases b1
    all_goals
      go_enter Tryz.func114, Tryz.ntmps114
      go_wp2
      go_ret
      exact ⟨rfl, rfl⟩
  · rw [e1]
    clear e0 e1 e2 e3 e4 e5 e6 e7
    cases b1
    all_goals
      go_enter Tryz.func114, Tryz.ntmps114
      go_wp2
      go_ret
      exact ⟨rfl, rfl⟩
  · rw [e2]
    clear e0 e1 e2 e3 e4 e5 e6 e7
    cases b2
    all_goals
      go_enter Tryz.func114, Tryz.ntmps114
      go_wp2
      go_ret
      exact ⟨rfl, rfl⟩
  · rw [e3]
    clear e0 e1 e2 e3 e4 e5 e6 e7
    cases b2
    all_goals
      go_enter Tryz.func114, Tryz.ntmps114
      go_wp2
      go_ret
      exact ⟨rfl, rfl⟩
  · rw [e4]
    clear e0 e1 e2 e3 e4 e5 e6 e7
    cases b3
    all_goals
      go_enter Tryz.func114, Tryz.ntmps114
      go_wp2
      go_ret
      exact ⟨rfl, rfl⟩
  · rw [e5]
    clear e0 e1 e2 e3 e4 e5 e6 e7
    cases b3
    all_goals
      go_enter Tryz.func114, Tryz.ntmps114
      go_wp2
      go_ret
      exact ⟨rfl, rfl⟩
  · rw [e6]
    clear e0 e1 e2 e3 e4 e5 e6 e7
    cases b4
    all_goals
      go_enter Tryz.func114, Tryz.ntmps114
      go_wp2
      go_ret
      exact ⟨rfl, rfl⟩
  · rw [e7]
    clear e0 e1 e2 e3 e4 e5 e6 e7
    go_enter Tryz.func114, Tryz.ntmps114
    go_wp2
    go_ret
    exact ⟨rfl, rfl⟩
theorem btN_le (b : Bool) : btN b ≤ 1 := by cases b <;> decide
theorem subF_lt (a b c : Nat) : subF a b c < 256 := by
  have h0 : szN (subV a b c) < 2 ^ 8 := szN_lt _ (subV_lt a b c)
  unfold subF
  refine Nat.or_lt_two_pow (n := 8) (Nat.or_lt_two_pow (Nat.or_lt_two_pow (Nat.or_lt_two_pow h0 (by decide)) ?_) ?_) ?_
  · have := btN_le (Nat.ble (Nat.add a 1) (Nat.add b c)); omega
  · have := btN_le (Nat.ble (Nat.add (Nat.land a 15) 1) (Nat.add (Nat.land b 15) c)); show 16 * _ < _; omega
  · have := btN_le (and (not (Nat.beq (Nat.land (Nat.xor a b) 128) 0)) (not (Nat.beq (Nat.land (Nat.xor a (subV a b c)) 128) 0))); show 4 * _ < _; omega
theorem andNot40 (f : Nat) (hf : f < 256) : bits .andNot .i64 (f : Int) 40 = ((Nat.land f 215 : Nat) : Int) := by
  have h : ∀ f : Nat, f < 256 → bits .andNot .i64 (f : Int) 40 = ((Nat.land f 215 : Nat) : Int) := by decide +kernel
  exact h f hf
set_option maxRecDepth 100000 in
set_option maxHeartbeats 2000000 in
theorem alu_spec (op b : Nat) (w : Bs) (W : World) (X : Nat) (x : Mx) (n : Nat) (vr vm cv : Value) (h : NSt w W X x n vr vm cv) (ha : x.c.a < 256) (hf : x.c.f < 256) (hb : b < 256) (ho : op < 8) :
    Calls Tryz.prog 108 #[.pointer (some ⟨X, 0, none⟩), .int .i64 (op : Int), .int .i64 (b : Int)] W fun e W' => e = .returned (.tuple #[]) ∧ NSt w W' X (x.alu op b) n vr vm cv := by
  have x0 := h.blk.cell
  have f0 := h.blk.frozen
  have z0 := h.blk.lt
  have hp : Hid (∀ V F : Nat, NSt w ((W.setCell ⟨X, 7, none⟩ (.int .i64 (V : Int))).setCell ⟨X, 8, none⟩ (.int .i64 (F : Int))) X { x with c := { x.c with a := V, f := F } } n vr vm cv) := fun V F => ((h.put 7 (.int .i64 (V : Int)) { x.c with a := V } rfl).put 8 (.int .i64 (F : Int)) { x.c with a := V, f := F } rfl)
  clear h
  have r2 : bits .and .i64 (x.c.f : Int) 1 = ((Nat.land x.c.f 1 : Nat) : Int) := bAnd x.c.f 1 (by omega) (by omega)
  have hc : Nat.land x.c.f 1 < 2 := Nat.and_lt_two_pow (n := 1) _ (by decide)
  have r40 : bits .and .i64 (b : Int) 40 = ((Nat.land b 40 : Nat) : Int) := bAnd b 40 (by omega) (by omega)
  have hb40 : Nat.land b 40 < 2 ^ 8 := Nat.and_lt_two_pow (n := 8) _ (by decide)
  have hS : x.alu op b = { x with c := { x.c with a := aluV op x.c.a b x.c.f, f := aluF op x.c.a b x.c.f } } := rfl
  rw [hS]
  clear hS
  have sF := subF_lt x.c.a b 0
  have hn40 := andNot40 (subF x.c.a b 0) sF
  have hl215 : Nat.land (subF x.c.a b 0) 215 < 2 ^ 8 := Nat.and_lt_two_pow (n := 8) _ (by decide)
  have hor := bOr (Nat.land (subF x.c.a b 0) 215) (Nat.land b 40) (by omega) (by omega)
  have ho8 : op = 0 ∨ op = 1 ∨ op = 2 ∨ op = 3 ∨ op = 4 ∨ op = 5 ∨ op = 6 ∨ op = 7 := by omega
  have q0 : bits .and .i64 (0 : Int) 1 = 0 := by decide
  have q1 : bits .and .i64 (1 : Int) 1 = 1 := by decide
  have q2 : bits .and .i64 (2 : Int) 1 = 0 := by decide
  have q3 : bits .and .i64 (3 : Int) 1 = 1 := by decide
  have q4 : bits .and .i64 (4 : Int) 1 = 0 := by decide
  have q5 : bits .and .i64 (5 : Int) 1 = 1 := by decide
  have q6 : bits .and .i64 (6 : Int) 1 = 0 := by decide
  have q7 : bits .and .i64 (7 : Int) 1 = 1 := by decide
  rcases ho8 with rfl | rfl | rfl | rfl | rfl | rfl | rfl | rfl
  · skip
    have eV : aluV 0 x.c.a b x.c.f = addV x.c.a b 0 := rfl
    have eF : aluF 0 x.c.a b x.c.f = addF x.c.a b 0 := rfl
    rw [eV, eF]
    clear eV eF
    generalize Nat.land x.c.f 1 = C at *
    clear hor hn40 hl215 sF r40 hb40
    obtain ⟨V, hV⟩ : ∃ V, addV x.c.a b 0 = V := ⟨_, rfl⟩
    obtain ⟨F, hF⟩ : ∃ F, addF x.c.a b 0 = F := ⟨_, rfl⟩
    rw [hV, hF]
    replace hV := hid hV
    replace hF := hid hF
    go_enter Tryz.func108, Tryz.ntmps108
    go_wp2_with fail
    refine (add_spec x.c.a b 0 _ ha hb (by omega)).mono ?_
    rintro e w' ⟨rfl, hww⟩
    obtain rfl := hww.symm
    rw [hV.out, hF.out]
    clear hV hF
    go_wp2
    exact bodyPost_end (v := .tuple #[]) (by simp [results, Tryz.results108]) rfl ⟨rfl, hp.out V F⟩
  · skip
    have eV : aluV 1 x.c.a b x.c.f = addV x.c.a b (Nat.land x.c.f 1) := rfl
    have eF : aluF 1 x.c.a b x.c.f = addF x.c.a b (Nat.land x.c.f 1) := rfl
    rw [eV, eF]
    clear eV eF
    generalize Nat.land x.c.f 1 = C at *
    clear hor hn40 hl215 sF r40 hb40
    obtain ⟨V, hV⟩ : ∃ V, addV x.c.a b C = V := ⟨_, rfl⟩
    obtain ⟨F, hF⟩ : ∃ F, addF x.c.a b C = F := ⟨_, rfl⟩
    rw [hV, hF]
    replace hV := hid hV
    replace hF := hid hF
    go_enter Tryz.func108, Tryz.ntmps108
    go_wp2_with fail
    refine (add_spec x.c.a b C _ ha hb hc).mono ?_
    rintro e w' ⟨rfl, hww⟩
    obtain rfl := hww.symm
    rw [hV.out, hF.out]
    clear hV hF
    go_wp2
    exact bodyPost_end (v := .tuple #[]) (by simp [results, Tryz.results108]) rfl ⟨rfl, hp.out V F⟩
  · skip
    have eV : aluV 2 x.c.a b x.c.f = subV x.c.a b 0 := rfl
    have eF : aluF 2 x.c.a b x.c.f = subF x.c.a b 0 := rfl
    rw [eV, eF]
    clear eV eF
    generalize Nat.land x.c.f 1 = C at *
    clear hor hn40 hl215 sF r40 hb40
    obtain ⟨V, hV⟩ : ∃ V, subV x.c.a b 0 = V := ⟨_, rfl⟩
    obtain ⟨F, hF⟩ : ∃ F, subF x.c.a b 0 = F := ⟨_, rfl⟩
    rw [hV, hF]
    replace hV := hid hV
    replace hF := hid hF
    go_enter Tryz.func108, Tryz.ntmps108
    go_wp2_with fail
    refine (sub_spec x.c.a b 0 _ ha hb (by omega)).mono ?_
    rintro e w' ⟨rfl, hww⟩
    obtain rfl := hww.symm
    rw [hV.out, hF.out]
    clear hV hF
    go_wp2
    exact bodyPost_end (v := .tuple #[]) (by simp [results, Tryz.results108]) rfl ⟨rfl, hp.out V F⟩
  · skip
    have eV : aluV 3 x.c.a b x.c.f = subV x.c.a b (Nat.land x.c.f 1) := rfl
    have eF : aluF 3 x.c.a b x.c.f = subF x.c.a b (Nat.land x.c.f 1) := rfl
    rw [eV, eF]
    clear eV eF
    generalize Nat.land x.c.f 1 = C at *
    clear hor hn40 hl215 sF r40 hb40
    obtain ⟨V, hV⟩ : ∃ V, subV x.c.a b C = V := ⟨_, rfl⟩
    obtain ⟨F, hF⟩ : ∃ F, subF x.c.a b C = F := ⟨_, rfl⟩
    rw [hV, hF]
    replace hV := hid hV
    replace hF := hid hF
    go_enter Tryz.func108, Tryz.ntmps108
    go_wp2_with fail
    refine (sub_spec x.c.a b C _ ha hb hc).mono ?_
    rintro e w' ⟨rfl, hww⟩
    obtain rfl := hww.symm
    rw [hV.out, hF.out]
    clear hV hF
    go_wp2
    exact bodyPost_end (v := .tuple #[]) (by simp [results, Tryz.results108]) rfl ⟨rfl, hp.out V F⟩
  · skip
    have eV : aluV 4 x.c.a b x.c.f = logV 0 x.c.a b := rfl
    have eF : aluF 4 x.c.a b x.c.f = logF 0 x.c.a b := rfl
    rw [eV, eF]
    clear eV eF
    generalize Nat.land x.c.f 1 = C at *
    clear hor hn40 hl215 sF r40 hb40
    obtain ⟨V, hV⟩ : ∃ V, logV 0 x.c.a b = V := ⟨_, rfl⟩
    obtain ⟨F, hF⟩ : ∃ F, logF 0 x.c.a b = F := ⟨_, rfl⟩
    rw [hV, hF]
    replace hV := hid hV
    replace hF := hid hF
    go_enter Tryz.func108, Tryz.ntmps108
    go_wp2_with fail
    refine (logic_spec 0 x.c.a b _ (by omega) ha hb).mono ?_
    rintro e w' ⟨rfl, hww⟩
    obtain rfl := hww.symm
    rw [hV.out, hF.out]
    clear hV hF
    go_wp2
    exact bodyPost_end (v := .tuple #[]) (by simp [results, Tryz.results108]) rfl ⟨rfl, hp.out V F⟩
  · skip
    have eV : aluV 5 x.c.a b x.c.f = logV 1 x.c.a b := rfl
    have eF : aluF 5 x.c.a b x.c.f = logF 1 x.c.a b := rfl
    rw [eV, eF]
    clear eV eF
    generalize Nat.land x.c.f 1 = C at *
    clear hor hn40 hl215 sF r40 hb40
    obtain ⟨V, hV⟩ : ∃ V, logV 1 x.c.a b = V := ⟨_, rfl⟩
    obtain ⟨F, hF⟩ : ∃ F, logF 1 x.c.a b = F := ⟨_, rfl⟩
    rw [hV, hF]
    replace hV := hid hV
    replace hF := hid hF
    go_enter Tryz.func108, Tryz.ntmps108
    go_wp2_with fail
    refine (logic_spec 1 x.c.a b _ (by omega) ha hb).mono ?_
    rintro e w' ⟨rfl, hww⟩
    obtain rfl := hww.symm
    rw [hV.out, hF.out]
    clear hV hF
    go_wp2
    exact bodyPost_end (v := .tuple #[]) (by simp [results, Tryz.results108]) rfl ⟨rfl, hp.out V F⟩
  · skip
    have eV : aluV 6 x.c.a b x.c.f = logV 2 x.c.a b := rfl
    have eF : aluF 6 x.c.a b x.c.f = logF 2 x.c.a b := rfl
    rw [eV, eF]
    clear eV eF
    generalize Nat.land x.c.f 1 = C at *
    clear hor hn40 hl215 sF r40 hb40
    obtain ⟨V, hV⟩ : ∃ V, logV 2 x.c.a b = V := ⟨_, rfl⟩
    obtain ⟨F, hF⟩ : ∃ F, logF 2 x.c.a b = F := ⟨_, rfl⟩
    rw [hV, hF]
    replace hV := hid hV
    replace hF := hid hF
    go_enter Tryz.func108, Tryz.ntmps108
    go_wp2_with fail
    refine (logic_spec 2 x.c.a b _ (by omega) ha hb).mono ?_
    rintro e w' ⟨rfl, hww⟩
    obtain rfl := hww.symm
    rw [hV.out, hF.out]
    clear hV hF
    go_wp2
    exact bodyPost_end (v := .tuple #[]) (by simp [results, Tryz.results108]) rfl ⟨rfl, hp.out V F⟩
  · skip
    have eV : aluV 7 x.c.a b x.c.f = x.c.a := rfl
    have eF : aluF 7 x.c.a b x.c.f = Nat.lor (Nat.land (subF x.c.a b 0) 215) (Nat.land b 40) := rfl
    rw [eV, eF]
    clear eV eF
    generalize Nat.land x.c.f 1 = C at *
    generalize hG : Nat.lor (Nat.land (subF x.c.a b 0) 215) (Nat.land b 40) = F at *
    clear hG
    generalize Nat.land (subF x.c.a b 0) 215 = F1 at *
    generalize Nat.land b 40 = B4 at *
    obtain ⟨SF, hSF⟩ : ∃ F, subF x.c.a b 0 = F := ⟨_, rfl⟩
    rw [hSF] at hn40 sF
    replace hSF := hid hSF
    go_enter Tryz.func108, Tryz.ntmps108
    go_wp2_with fail
    refine (sub_spec x.c.a b 0 _ ha hb (by omega)).mono ?_
    rintro e w' ⟨rfl, hww⟩
    obtain rfl := hww.symm
    rw [hSF.out]
    generalize subV x.c.a b 0 = V0 at *
    go_wp2
    exact bodyPost_end (v := .tuple #[]) (by simp [results, Tryz.results108]) rfl ⟨rfl, hp.out _ F⟩
end Go.Proofs.YtgpmpfikeindfaaGreatDoor
