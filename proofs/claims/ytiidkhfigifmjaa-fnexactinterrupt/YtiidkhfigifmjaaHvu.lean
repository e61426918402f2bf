/- What the specification's interrupt does. -/
import Derived.Test.YtiidkhfigifmjaaU17
namespace Go.Proofs.Ytiidkhfigifmjaa
open Go.ChangeShapes Go.WideShapes Go.ChangeAt Go.RowKit
set_option linter.unusedVariables false
set_option linter.unusedSimpArgs false
theorem NSt.toW {b : Bs} {W V : World} {X : Nat} {x : Mx} {n : Nat} {vr vm cv : Value} (h : NSt b W X x n vr vm cv) (e : W = V) : NSt b V X x n vr vm cv := e ▸ h
set_option maxRecDepth 100000 in
set_option maxHeartbeats 4000000 in
theorem cint_spec (c : Cp) (v : Value) (M : Mem) (w : World) (h : MemR w v M) (hk : okM M = true) (hc : c.ok) :
    Calls Try.prog 32 #[cpV c, v] w fun e w' => ∃ vr vm cv, e = .returned (.tuple #[cpV (intM c M).c, memV vr vm (intM c M).m.page (intM c M).m.screen (intM c M).m.locked, cv]) ∧ Out w w' (intM c M) vr vm cv := by
  obtain ⟨a1, p1, a2, p2, rfl, _, _⟩ := h.form
  obtain ⟨hB4, hz4, hb4⟩ := four_new w (cpA c) #[.slice a1 M.rom.length p1, .slice a2 M.ram.length p2, .int .i64 M.page, .int .i64 M.screen, .bool M.locked] zC zM 25 30 25 30
  have N0 := NSt.start (vr := .slice a1 M.rom.length p1) (vm := .slice a2 M.ram.length p2) hB4 hb4 h c 0 102
  rw [hz4] at N0
  clear hB4 hz4 hb4
  replace N0 := hid N0
  go_enter Try.func32, Try.ntmps32
  go_upto_region 2 with fail
  obtain ⟨V, hV⟩ : ∃ V, ((((((w.alloc (.cells (cpA c) 25)).alloc (.cells #[.slice a1 M.rom.length p1, .slice a2 M.ram.length p2, .int .i64 M.page, .int .i64 M.screen, .bool M.locked] 30)).alloc (.cells zC 25)).alloc (.cells zM 30)).alloc (.cells #[] 64)).alloc (.cells #[.int .i64 (c.b : Int), .int .i64 (c.c : Int), .int .i64 (c.d : Int), .int .i64 (c.e : Int), .int .i64 (c.h : Int), .int .i64 (c.l : Int), .int .i64 0, .int .i64 (c.a : Int), .int .i64 (c.f : Int), .int .i64 (c.sp : Int), .int .i64 (c.pc : Int), .bool c.iff, .bool c.ei, .bool c.halt, .slice a1 M.rom.length p1, .slice a2 M.ram.length p2, .int .i64 M.page, .int .i64 M.screen, .bool M.locked, .slice (some ⟨w.heap.size + 1 + 1 + 1 + 1, 0, none⟩) 0 0, .int .i64 0] 102)) = V := ⟨_, rfl⟩
  rw [hV]
  replace N0 := hid (N0.out.toW hV)
  clear hV
  obtain ⟨X, hX⟩ : ∃ X, w.heap.size + 1 + 1 + 1 + 1 + 1 = X := ⟨_, rfl⟩
  rw [hX] at N0 ⊢
  clear hX
  have N1 := N0.out.drew
  clear N0
  replace N1 := hid N1
  replace h := hid h
  have hcp : c.pc < 256 := hc.2.2.2.2.2.2.2.2.2
  refine wp_region_held_drew (S := (fun w' => w'.cell? ⟨w.heap.size, 10, none⟩ = some (.int .i64 (c.pc : Int)) ∧ w'.cell? ⟨w.heap.size + 1, 0, none⟩ = some (.slice a1 M.rom.length p1) ∧ w'.cell? ⟨w.heap.size + 1, 1, none⟩ = some (.slice a2 M.ram.length p2) ∧ w'.cell? ⟨w.heap.size + 1, 2, none⟩ = some (.int .i64 M.page) ∧ w'.cell? ⟨w.heap.size + 1, 3, none⟩ = some (.int .i64 M.screen) ∧ w'.cell? ⟨w.heap.size + 1, 4, none⟩ = some (.bool M.locked))) (by kernel_rfl) (N1.out.heldC) (fun hHeld => ?_)
  refine wpAnyH_take (i := 0) (oi := ({ dst := some 13, op := Op.move (Operand.tmp 7), type := 100, pos := "l06_cpu.go:250", after := #[], guard := none } : Oper)) (v := ?_) rfl (by kernel_rfl) (by kernel_rfl) (by kernel_rfl) (fun _ _ _ h => h) (Or.inl ⟨by rfl, ?_⟩) (by assumption) ?_
  rotate_left
  · intro w hSw
    (try dsimp only at hSw)
    go_simp
    (try with_reducible rfl)
  (try simp only [Act.put, List.setIfInBounds_toArray, List.set_cons_zero, List.set_cons_succ])
  refine wpAnyH_take (i := 1) (oi := ({ dst := some 14, op := Op.fieldAddr 25 (Operand.tmp 2) 3, type := 0, pos := "l06_cpu.go:250", after := #[], guard := none } : Oper)) (v := ?_) rfl (by kernel_rfl) (by kernel_rfl) (by kernel_rfl) (fun _ _ _ h => h) (Or.inl ⟨by rfl, ?_⟩) (by assumption) ?_
  rotate_left
  · intro w hSw
    (try dsimp only at hSw)
    go_simp
    (try with_reducible rfl)
  (try simp only [Act.put, List.setIfInBounds_toArray, List.set_cons_zero, List.set_cons_succ])
  refine wpAnyH_take (i := 2) (oi := ({ dst := some 15, op := Op.load 3 (Operand.tmp 14), type := 3, pos := "l06_cpu.go:250", after := #[{ on := 1, ground := Ground.data }], guard := none } : Oper)) (v := ?_) rfl (by kernel_rfl) (by kernel_rfl) (by kernel_rfl) (fun _ _ _ h => h) (Or.inl ⟨by rfl, ?_⟩) (by assumption) ?_
  rotate_left
  · intro w hSw
    (try dsimp only at hSw)
    go_simp
    (try with_reducible rfl)
  (try simp only [Act.put, List.setIfInBounds_toArray, List.set_cons_zero, List.set_cons_succ])
  refine wpAnyH_take (i := 3) (oi := ({ dst := some 16, op := Op.load 30 (Operand.tmp 3), type := 30, pos := "l06_cpu.go:250", after := #[], guard := none } : Oper)) (v := ?_) rfl (by kernel_rfl) (by kernel_rfl) (by kernel_rfl) (fun _ _ _ h => h) (Or.inl ⟨by rfl, ?_⟩) (by assumption) ?_
  rotate_left
  · intro w hSw
    (try dsimp only at hSw)
    go_simp
    (try with_reducible rfl)
  (try simp only [Act.put, List.setIfInBounds_toArray, List.set_cons_zero, List.set_cons_succ])
  refine wpAnyH_take (i := 4) (oi := ({ dst := some 17, op := Op.fieldAddr 25 (Operand.tmp 2) 3, type := 0, pos := "l06_cpu.go:250", after := #[], guard := none } : Oper)) (v := ?_) rfl (by kernel_rfl) (by kernel_rfl) (by kernel_rfl) (fun _ _ _ h => h) (Or.inl ⟨by rfl, ?_⟩) (by assumption) ?_
  rotate_left
  · intro w hSw
    (try dsimp only at hSw)
    go_simp
    (try with_reducible rfl)
  (try simp only [Act.put, List.setIfInBounds_toArray, List.set_cons_zero, List.set_cons_succ])
  refine wpAnyH_take (i := 5) (oi := ({ dst := some 18, op := Op.load 3 (Operand.tmp 17), type := 3, pos := "l06_cpu.go:250", after := #[{ on := 4, ground := Ground.data }], guard := none } : Oper)) (v := ?_) rfl (by kernel_rfl) (by kernel_rfl) (by kernel_rfl) (fun _ _ _ h => h) (Or.inl ⟨by rfl, ?_⟩) (by assumption) ?_
  rotate_left
  · intro w hSw
    (try dsimp only at hSw)
    go_simp
    (try with_reducible rfl)
  (try simp only [Act.put, List.setIfInBounds_toArray, List.set_cons_zero, List.set_cons_succ])
  refine wpAnyH_ready (rs := [6]) (by kernel_rfl) (by simp) ?_
  refine AllReadyH.cons (o := ({ dst := some 19, op := Op.call { callee := Callee.value (Operand.func 64), args := #[Operand.tmp 16, Operand.tmp 18], argTypes := #[30, 3] }, type := 3, pos := "l06_cpu.go:250", after := #[{ on := 3, ground := Ground.data }, { on := 5, ground := Ground.data }], guard := none } : Oper)) rfl (fun K hK => ?_) AllReadyH.nil
  go_simp
  go_at_call 64
  refine (peekN_spec _ M c.pc _ (h.out.below N1.out.bel) hk hcp).mono ?_
  rintro e w1 ⟨rfl, hb⟩
  have N2 := hid (N1.out.below hb)
  clear hb
  refine hK.out _ _ N2.out.heldC (fun hHeld => ?_)
  clear hK K
  (try simp only [Act.put, List.setIfInBounds_toArray, List.set_cons_zero, List.set_cons_succ])
  refine wpAnyH_ready (rs := [7]) (by kernel_rfl) (by simp) ?_
  refine AllReadyH.cons (o := ({ dst := some 20, op := Op.call { callee := Callee.value (Operand.func 63), args := #[Operand.tmp 13, Operand.const (Value.int IntKind.i64 1), Operand.tmp 15, Operand.tmp 19], argTypes := #[100, 3, 3, 3] }, type := 0, pos := "l06_cpu.go:250", after := #[{ on := 0, ground := Ground.data }, { on := 2, ground := Ground.data }, { on := 6, ground := Ground.data }, { on := 6, ground := Ground.chain }], guard := none } : Oper)) rfl (fun K hK => ?_) AllReadyH.nil
  go_simp
  go_at_call 63
  refine (note_spec 1 c.pc (peekN M c.pc) _ w1 X _ 0 _ _ _ N2.out (by simp)).mono ?_
  rintro e w2 ⟨rfl, cv2, N3⟩
  replace N3 := hid N3
  refine hK.out _ _ N3.out.heldC (fun hHeld => ?_)
  clear hK K
  (try simp only [Act.put, List.setIfInBounds_toArray, List.set_cons_zero, List.set_cons_succ])
  refine wpAnyH_done (by kernel_rfl) ?_ _
  have hP : (⟨c, M, []⟩ : Mx).note 1 c.pc (peekN M c.pc) = ⟨c, M, [(1, c.pc, peekN M c.pc)]⟩ := rfl
  rw [hP] at N3
  clear hP hHeld N1 N2
  have x3 := N3.out.blk.cell
  have f3 := N3.out.blk.frozen
  have z3 := N3.out.blk.lt
  go_upto_region 4 with fail
  have N4 := N3.out.put 13 (.bool false) { c with halt := false } rfl
  obtain ⟨V4, hV4⟩ : ∃ V4, w2.setCell ⟨X, 13, none⟩ (.bool false) = V4 := ⟨_, rfl⟩
  rw [hV4] at N4 ⊢
  clear hV4 x3 f3 z3 N3
  have x4 := N4.blk.cell
  have f4 := N4.blk.frozen
  have z4 := N4.blk.lt
  replace N4 := hid N4
  go_upto_region 5 with fail
  have N5 := N4.out.put 11 (.bool false) { c with halt := false, iff := false } rfl
  obtain ⟨V5, hV5⟩ : ∃ V5, V4.setCell ⟨X, 11, none⟩ (.bool false) = V5 := ⟨_, rfl⟩
  rw [hV5] at N5 ⊢
  clear hV5 x4 f4 z4 N4
  have x5 := N5.blk.cell
  replace N5 := hid (show NSt _ V5 X (intP c M) 0 _ _ _ from N5)
  have hsp : (intP c M).c.sp < 256 := hc.2.2.2.2.2.2.2.2.1
  have hS : intM c M = { (intP c M).push c.pc with c := { ((intP c M).push c.pc).c with pc := 56 } } := rfl
  replace hS := hid hS
  go_wp2_with fail
  refine (push_spec c.pc _ V5 X (intP c M) 0 _ _ _ N5.out (by simp [intP]) hk hsp).mono ?_
  rintro e w7 ⟨rfl, vr9, vm9, cv9, N7⟩
  generalize (intP c M).push c.pc = y at *
  have x7 := N7.blk.cell
  have f7 := N7.blk.frozen
  have z7 := N7.blk.lt
  replace N7 := hid N7
  clear N5 x5 hsp
  go_upto_region 7 with fail
  have N9 := N7.out.put 10 (.int .i64 56) { y.c with pc := 56 } rfl
  obtain ⟨w9, hV9⟩ : ∃ w9, w7.setCell ⟨X, 10, none⟩ (.int .i64 56) = w9 := ⟨_, rfl⟩
  rw [hV9] at N9 ⊢
  clear hV9 x7 f7 z7 N7
  rw [← hS.out] at N9
  obtain ⟨z, hz⟩ : ∃ z, intM c M = z := ⟨_, rfl⟩
  rw [hz] at N9
  replace hz := hid hz
  clear hS
  obtain ⟨e1, p3, e2, p4, rfl, rfl⟩ := N9.form
  replace N9 := hid N9
  skip
  have xF := N9.out.blk.cell
  have yF := (N9.out.keep (w.heap.size + 1 + 1) zC (by simp)).1
  have zF := (N9.out.keep (w.heap.size + 1 + 1 + 1) zM (by simp)).1
  have yc := yF.cell
  have yf := yF.frozen
  have yz := yF.lt
  have zc := zF.cell
  have zf := zF.frozen
  have zz := zF.lt
  obtain ⟨ca, cb, O⟩ := N9.out.fin2 (b := w.heap.size + 1 + 1) (g := w.heap.size + 1 + 1 + 1) (by simp) (by simp) (by omega) (by omega) (by omega)
  simp only [sets, cpuL, meL, Nat.zero_add, Nat.reduceAdd] at ca cb O
  replace O := hid O
  replace ca := hid ca
  replace cb := hid cb
  clear yF zF
  go_upto_region 7 with fail
  go_region
  obtain ⟨WF, hWF⟩ : ∃ WF, (((((((((((((((((((w9.setCell ⟨w.heap.size + 1 + 1, 0, none⟩ (.int .i64 (z.c.b : Int))).setCell ⟨w.heap.size + 1 + 1, 1, none⟩ (.int .i64 (z.c.c : Int))).setCell ⟨w.heap.size + 1 + 1, 2, none⟩ (.int .i64 (z.c.d : Int))).setCell ⟨w.heap.size + 1 + 1, 3, none⟩ (.int .i64 (z.c.e : Int))).setCell ⟨w.heap.size + 1 + 1, 4, none⟩ (.int .i64 (z.c.h : Int))).setCell ⟨w.heap.size + 1 + 1, 5, none⟩ (.int .i64 (z.c.l : Int))).setCell ⟨w.heap.size + 1 + 1, 6, none⟩ (.int .i64 0)).setCell ⟨w.heap.size + 1 + 1, 7, none⟩ (.int .i64 (z.c.a : Int))).setCell ⟨w.heap.size + 1 + 1, 8, none⟩ (.int .i64 (z.c.f : Int))).setCell ⟨w.heap.size + 1 + 1, 9, none⟩ (.int .i64 (z.c.sp : Int))).setCell ⟨w.heap.size + 1 + 1, 10, none⟩ (.int .i64 (z.c.pc : Int))).setCell ⟨w.heap.size + 1 + 1, 11, none⟩ (.bool z.c.iff)).setCell ⟨w.heap.size + 1 + 1, 12, none⟩ (.bool z.c.ei)).setCell ⟨w.heap.size + 1 + 1, 13, none⟩ (.bool z.c.halt)).setCell ⟨w.heap.size + 1 + 1 + 1, 0, none⟩ ((.slice e1 z.m.rom.length p3))).setCell ⟨w.heap.size + 1 + 1 + 1, 1, none⟩ ((.slice e2 z.m.ram.length p4))).setCell ⟨w.heap.size + 1 + 1 + 1, 2, none⟩ (.int .i64 z.m.page)).setCell ⟨w.heap.size + 1 + 1 + 1, 3, none⟩ (.int .i64 z.m.screen)).setCell ⟨w.heap.size + 1 + 1 + 1, 4, none⟩ (.bool z.m.locked)).drew = WF := ⟨_, rfl⟩
  rw [hWF] at ca cb O ⊢
  clear hWF xF yc yf yz zc zf zz
  replace ca := ca.out
  replace cb := cb.out
  go_wp2
  refine bodyPost_ret (v := .tuple #[cpV z.c, memV (.slice e1 z.m.rom.length p3) (.slice e2 z.m.ram.length p4) z.m.page z.m.screen z.m.locked, cv9]) (by simp [results, Try.results32, go_sem, ca, cb]) rfl ⟨(.slice e1 z.m.rom.length p3), (.slice e2 z.m.ram.length p4), cv9, by rw [hz.out], by rw [hz.out]; exact O.out⟩
end Go.Proofs.Ytiidkhfigifmjaa
