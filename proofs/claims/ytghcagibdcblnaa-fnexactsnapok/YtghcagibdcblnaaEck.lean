/- Snapshots as values; what the specification says of a right one. -/
import Derived.Test.YtghcagibdcblnaaEbk
import Derived.Test.YtghcagibdcblnaaObk
import Derived.Deep.MidRow
namespace Go.Proofs.Ytghcagibdcblnaa
open Go.ChangeShapes Go.WideShapes Go.ChangeAt Go.RowKit
set_option linter.unusedVariables false
set_option linter.unusedSimpArgs false

abbrev snA (s : Sn) (vr vm : Value) : Array Value := #[.int .i64 s.c.r0, .int .i64 s.c.r1, .int .i64 s.c.r2, .int .i64 s.c.r3, .int .i64 s.c.r4, .int .i64 s.c.r5, .int .i64 s.c.r6, .int .i64 s.c.r7, .int .i64 s.c.f, .int .i64 s.c.sp, .int .i64 s.c.pc, .bool s.c.iff, .bool s.c.ei, .bool s.c.halt,
  vr, vm, .int .i64 s.m.page, .int .i64 s.m.screen, .bool s.m.locked,
  .int .i64 s.p.k0, .int .i64 s.p.k1, .int .i64 s.p.k2, .int .i64 s.p.k3, .int .i64 s.p.k4, .int .i64 s.p.k5, .int .i64 s.p.k6, .int .i64 s.p.k7, .int .i64 s.p.joy, .int .i64 s.p.border, .bool s.p.mic, .bool s.p.beep]
/-- a snapshot that can be read in this world -/
def SnR (w : World) (v : Value) (s : Sn) : Prop := ∃ vr vm, v = .agg (snA s vr vm) ∧ MemR w (memV vr vm s.m.page s.m.screen s.m.locked) s.m
def okSn (s : Sn) : Bool := okC s.c && okM s.m && okPo s.p
theorem SnR.below {w w' : World} {v : Value} {s : Sn} (h : SnR w v s) (hb : Below w.heap.size w w') : SnR w' v s := by
  obtain ⟨vr, vm, e, h1⟩ := h
  exact ⟨vr, vm, e, h1.below hb⟩
theorem blk_range {W : World} {b : Nat} {A : Array Value} (h : Blk W b A) (X cs Y : List Value) (e : A.toList = X ++ cs ++ Y) : W.rangeAt b X.length cs := fun j v hv => by
  rw [h.cell, ← Array.getElem?_toList, e, List.append_assoc, List.getElem?_append_right (by omega), Nat.add_sub_cancel_left, List.getElem?_append_left (List.getElem?_eq_some_iff.1 hv).1]
  exact hv
theorem sn_cpu {W : World} {b : Nat} {s : Sn} {vr vm : Value} (h : Blk W b (snA s vr vm)) : W.rangeAt b 0 (cuA s.c).toList := blk_range h [] _ _ rfl
theorem sn_mem {W : World} {b : Nat} {s : Sn} {vr vm : Value} (h : Blk W b (snA s vr vm)) : W.rangeAt b 14 [vr, vm, .int .i64 s.m.page, .int .i64 s.m.screen, .bool s.m.locked] := blk_range h (cuA s.c).toList _ (poA s.p).toList rfl
theorem sn_po {W : World} {b : Nat} {s : Sn} {vr vm : Value} (h : Blk W b (snA s vr vm)) : W.rangeAt b 19 (poA s.p).toList := blk_range h ((cuA s.c).toList ++ [vr, vm, .int .i64 s.m.page, .int .i64 s.m.screen, .bool s.m.locked]) _ [] rfl
theorem ld_want {ops : Array Oper} {rest : List Oper} {op : Oper} {a : Act} {w : World} {Q : Exit → Act → World → Prop} (ty : TypeId) (x : Operand) (ho : op.op = .load ty x)
    (b o : Nat) (hx : a.eval x = .pointer (some ⟨b, o, none⟩)) (hw : Region.wanted op (yielded ops a.tmps) = true) (cs : List Value) (d : TypeDesc) (hc : w.rangeAt b o cs)
    (hu : Try.prog.underlying ty = some d) (hd : d.isRow = true) (hi : (Try.prog.info? ty).map (·.size) = some cs.length)
    (h : wpList Try.prog ops Q rest (a.put op.dst (.agg cs.toArray)) w) : wpList Try.prog ops Q (op :: rest) a w :=
  wpList_step fun _ hK => by
    rw [if_pos hw]
    exact wp_load_mid ty x ho b o hx cs d hc hu hd hi (hK _ _ h)
theorem szC (c : Cu) : (Try.prog.info? 35).map (·.size) = some (cuA c).toList.length := by
  show _ = some 14
  kernel_rfl
theorem szM (vr vm a b c : Value) : (Try.prog.info? 36).map (·.size) = some [vr, vm, a, b, c].length := by
  show _ = some 5
  kernel_rfl
theorem szP (p : Po) : (Try.prog.info? 37).map (·.size) = some (poA p).toList.length := by
  show _ = some 12
  kernel_rfl
set_option maxRecDepth 100000 in
theorem snok_spec (v : Value) (s : Sn) (w : World) (h : SnR w v s) (hl : s.m.rom.length ≤ 1000000000) (hm : s.m.ram.length ≤ 1000000000) (hr : ∀ i, i < s.m.ram.length → (s.m.ram.getD i []).length ≤ 1000000000) :
    Calls Try.prog 7 #[v] w fun e w' => e = .returned (.bool (okSn s)) ∧ Below w.heap.size w w' := by
  obtain ⟨vr, vm, rfl, hv⟩ := h
  have hB := hid ((Below.refl w.heap.size w).alloc (Nat.le_refl _) (.cells (snA s vr vm) 39))
  have q := hid (Blk.new w (snA s vr vm) 39)
  have hE : okSn s = (okC s.c && okM s.m && okPo s.p) := rfl
  have hC := hid (fun w1 => cpuok_spec s.c w1)
  have hM := hid (fun w1 (b1 : Below w.heap.size w w1) => ok_spec (memV vr vm s.m.page s.m.screen s.m.locked) s.m w1 (hv.below b1) hl hm hr)
  have hP := hid (fun w1 => pok_spec s.p w1)
  rw [hE]
  cases h1 : okC s.c
  · rw [h1] at hC
    go_enter Try.func7, Try.ntmps7
    go_upto_region 1 with fail
    obtain ⟨V, hV⟩ : ∃ V, w.alloc (Obj.cells (snA s vr vm) 39) = V := ⟨_, rfl⟩
    rw [hV] at hB q ⊢
    clear hV hM hP hE hv
    have x1 := hid (sn_cpu q.out)
    go_wp2_with (refine wpList_load_mid rfl 35 _ rfl w.heap.size 0 rfl (cuA s.c).toList _ x1.out Try.underlying35 rfl (szC s.c) ?_)
    refine (hC.out _).mono ?_
    rintro e w1 ⟨rfl, hb⟩
    have hB1 := hid (new_trans hB.out hb)
    clear hb hB q x1
    go_wp2_with fail
    go_ret
    exact ⟨rfl, hB1.out⟩
  · rw [h1] at hC
    cases h2 : okM s.m
    · rw [h2] at hM
      go_enter Try.func7, Try.ntmps7
      go_upto_region 1 with fail
      obtain ⟨V, hV⟩ : ∃ V, w.alloc (Obj.cells (snA s vr vm) 39) = V := ⟨_, rfl⟩
      rw [hV] at hB q ⊢
      clear hV hE hv hP
      have x1 := hid (sn_cpu q.out)
      go_wp2_with (refine wpList_load_mid rfl 35 _ rfl w.heap.size 0 rfl (cuA s.c).toList _ x1.out Try.underlying35 rfl (szC s.c) ?_)
      refine (hC.out _).mono ?_
      rintro e w1 ⟨rfl, hb⟩
      have hB1 := hid (new_trans hB.out hb)
      have q1 := hid (q.out.below hb q.out.lt)
      clear hb hB q x1
      have x2 := hid (sn_mem q1.out)
      go_wp2_with (first | (guard_target = wpList _ _ _ (Oper.mk _ (Op.load 36 _) _ _ _ (some _) :: _) _ _; refine ld_want 36 _ rfl w.heap.size 14 rfl (by kernel_rfl) [vr, vm, .int .i64 s.m.page, .int .i64 s.m.screen, .bool s.m.locked] _ x2.out Try.underlying36 rfl (szM _ _ _ _ _) ?_; simp only [Act.put, List.setIfInBounds_toArray, List.set_cons_zero, List.set_cons_succ]) | (guard_target = wpList _ _ _ (Oper.mk _ _ _ _ _ (some _) :: _) _ _; refine wpList_step (fun _ _ => ?_); rw [if_pos (by kernel_rfl)]; go_simp))
      refine (hM.out _ hB1.out).mono ?_
      rintro e w2 ⟨rfl, hb⟩
      have hB2 := hid (new_trans hB1.out hb)
      have q2 := hid (q1.out.below hb q1.out.lt)
      clear hb hB1 q1 x2
      clear q2
      go_wp2_with fail
      go_ret
      exact ⟨rfl, hB2.out⟩
    · rw [h2] at hM
      generalize okPo s.p = Q at *
      go_enter Try.func7, Try.ntmps7
      go_upto_region 1 with fail
      obtain ⟨V, hV⟩ : ∃ V, w.alloc (Obj.cells (snA s vr vm) 39) = V := ⟨_, rfl⟩
      rw [hV] at hB q ⊢
      clear hV hE hv 
      have x1 := hid (sn_cpu q.out)
      go_wp2_with (refine wpList_load_mid rfl 35 _ rfl w.heap.size 0 rfl (cuA s.c).toList _ x1.out Try.underlying35 rfl (szC s.c) ?_)
      refine (hC.out _).mono ?_
      rintro e w1 ⟨rfl, hb⟩
      have hB1 := hid (new_trans hB.out hb)
      have q1 := hid (q.out.below hb q.out.lt)
      clear hb hB q x1
      have x2 := hid (sn_mem q1.out)
      go_wp2_with (first | (guard_target = wpList _ _ _ (Oper.mk _ (Op.load 36 _) _ _ _ (some _) :: _) _ _; refine ld_want 36 _ rfl w.heap.size 14 rfl (by kernel_rfl) [vr, vm, .int .i64 s.m.page, .int .i64 s.m.screen, .bool s.m.locked] _ x2.out Try.underlying36 rfl (szM _ _ _ _ _) ?_; simp only [Act.put, List.setIfInBounds_toArray, List.set_cons_zero, List.set_cons_succ]) | (guard_target = wpList _ _ _ (Oper.mk _ _ _ _ _ (some _) :: _) _ _; refine wpList_step (fun _ _ => ?_); rw [if_pos (by kernel_rfl)]; go_simp))
      refine (hM.out _ hB1.out).mono ?_
      rintro e w2 ⟨rfl, hb⟩
      have hB2 := hid (new_trans hB1.out hb)
      have q2 := hid (q1.out.below hb q1.out.lt)
      clear hb hB1 q1 x2
      have x3 := hid (sn_po q2.out)
      go_wp2_with (first | (guard_target = wpList _ _ _ (Oper.mk _ (Op.load 37 _) _ _ _ (some _) :: _) _ _; refine ld_want 37 _ rfl w.heap.size 19 rfl (by kernel_rfl) (poA s.p).toList _ x3.out Try.underlying37 rfl (szP s.p) ?_; simp only [Act.put, List.setIfInBounds_toArray, List.set_cons_zero, List.set_cons_succ]) | (guard_target = wpList _ _ _ (Oper.mk _ _ _ _ _ (some _) :: _) _ _; refine wpList_step (fun _ _ => ?_); rw [if_pos (by kernel_rfl)]; go_simp))
      refine (hP.out _).mono ?_
      rintro e w3 ⟨rfl, hb⟩
      have hB3 := hid (new_trans hB2.out hb)
      clear hb hB2 q2 x3
      go_wp2_with fail
      go_ret
      exact ⟨rfl, hB3.out⟩
end Go.Proofs.Ytghcagibdcblnaa
