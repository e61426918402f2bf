/- Whether a snapshot is right: the program. -/
import Derived.Test.YtghcagibdcblnaaEhk
import Derived.Test.YtghcagibdcblnaaCpfk
import Derived.Test.YtghcagibdcblnaaBbk
namespace Go.Proofs.Ytghcagibdcblnaa
open Go.ChangeShapes Go.WideShapes Go.ChangeAt Go.RowKit
set_option linter.unusedVariables false
set_option linter.unusedSimpArgs false

set_option maxRecDepth 100000 in
theorem isright_impl (v : Value) (s : Sn) (w : World) (h : SnR w v s) (hl : s.m.rom.length ≤ 1000000000) (hm : s.m.ram.length ≤ 1000000000) (hr : ∀ i, i < s.m.ram.length → (s.m.ram.getD i []).length ≤ 1000000000) :
    Calls Try.prog 22 #[v] w fun e w' => e = .returned (.bool (okSn s)) ∧ Below w.heap.size w w' := by
  obtain ⟨vr, vm, rfl, hv⟩ := h
  have hB := hid ((Below.refl w.heap.size w).alloc (Nat.le_refl _) (.cells (snA s vr vm) 39))
  have q := hid (Blk.new w (snA s vr vm) 39)
  have hE : okSn s = (okC s.c && okM s.m && okPo s.p) := rfl
  have hC := hid (fun w1 => cpuok_impl s.c w1)
  have hM := hid (fun w1 (b1 : Below w.heap.size w w1) => ok_impl (memV vr vm s.m.page s.m.screen s.m.locked) s.m w1 (hv.below b1) hl hm hr)
  have hP := hid (fun w1 => pok_impl s.p w1)
  rw [hE]
  cases h1 : okC s.c
  · rw [h1] at hC
    go_enter Try.func22, Try.ntmps22
    go_upto_region 1 with fail
    obtain ⟨V, hV⟩ : ∃ V, w.alloc (Obj.cells (snA s vr vm) 39) = V := ⟨_, rfl⟩
    rw [hV] at hB q ⊢
    clear hV hM hP hE hv
    have x1 := hid (sn_cpu q.out)
    go_wp2_with (refine wpList_load_mid rfl 35 _ rfl w.heap.size 0 rfl (cuA s.c).toList _ x1.out Try.underlying35 rfl (szC s.c) ?_)
    refine (hC.out _).mono ?_
    rintro e w1 ⟨rfl, hb⟩
    have hB1 := hid (new_trans hB.out hb)
    clear hb hB q x1
    go_wp2_with fail
    go_ret
    exact ⟨rfl, hB1.out⟩
  · rw [h1] at hC
    cases h2 : okM s.m
    · rw [h2] at hM
      go_enter Try.func22, Try.ntmps22
      go_upto_region 1 with fail
      obtain ⟨V, hV⟩ : ∃ V, w.alloc (Obj.cells (snA s vr vm) 39) = V := ⟨_, rfl⟩
      rw [hV] at hB q ⊢
      clear hV hE hv hP
      have x1 := hid (sn_cpu q.out)
      go_wp2_with (refine wpList_load_mid rfl 35 _ rfl w.heap.size 0 rfl (cuA s.c).toList _ x1.out Try.underlying35 rfl (szC s.c) ?_)
      refine (hC.out _).mono ?_
      rintro e w1 ⟨rfl, hb⟩
      have hB1 := hid (new_trans hB.out hb)
      have q1 := hid (q.out.below hb q.out.lt)
      clear hb hB q x1
      have x2 := hid (sn_mem q1.out)
      go_wp2_with (first | (guard_target = wpList _ _ _ (Oper.mk _ (Op.load 36 _) _ _ _ (some _) :: _) _ _; refine ld_want 36 _ rfl w.heap.size 14 rfl (by kernel_rfl) [vr, vm, .int .i64 s.m.page, .int .i64 s.m.screen, .bool s.m.locked] _ x2.out Try.underlying36 rfl (szM _ _ _ _ _) ?_; simp only [Act.put, List.setIfInBounds_toArray, List.set_cons_zero, List.set_cons_succ]) | (guard_target = wpList _ _ _ (Oper.mk _ _ _ _ _ (some _) :: _) _ _; refine wpList_step (fun _ _ => ?_); rw [if_pos (by kernel_rfl)]; go_simp))
      refine (hM.out _ hB1.out).mono ?_
      rintro e w2 ⟨rfl, hb⟩
      have hB2 := hid (new_trans hB1.out hb)
      have q2 := hid (q1.out.below hb q1.out.lt)
      clear hb hB1 q1 x2
      clear q2
      go_wp2_with fail
      go_ret
      exact ⟨rfl, hB2.out⟩
    · rw [h2] at hM
      generalize okPo s.p = Q at *
      go_enter Try.func22, Try.ntmps22
      go_upto_region 1 with fail
      obtain ⟨V, hV⟩ : ∃ V, w.alloc (Obj.cells (snA s vr vm) 39) = V := ⟨_, rfl⟩
      rw [hV] at hB q ⊢
      clear hV hE hv 
      have x1 := hid (sn_cpu q.out)
      go_wp2_with (refine wpList_load_mid rfl 35 _ rfl w.heap.size 0 rfl (cuA s.c).toList _ x1.out Try.underlying35 rfl (szC s.c) ?_)
      refine (hC.out _).mono ?_
      rintro e w1 ⟨rfl, hb⟩
      have hB1 := hid (new_trans hB.out hb)
      have q1 := hid (q.out.below hb q.out.lt)
      clear hb hB q x1
      have x2 := hid (sn_mem q1.out)
      go_wp2_with (first | (guard_target = wpList _ _ _ (Oper.mk _ (Op.load 36 _) _ _ _ (some _) :: _) _ _; refine ld_want 36 _ rfl w.heap.size 14 rfl (by kernel_rfl) [vr, vm, .int .i64 s.m.page, .int .i64 s.m.screen, .bool s.m.locked] _ x2.out Try.underlying36 rfl (szM _ _ _ _ _) ?_; simp only [Act.put, List.setIfInBounds_toArray, List.set_cons_zero, List.set_cons_succ]) | (guard_target = wpList _ _ _ (Oper.mk _ _ _ _ _ (some _) :: _) _ _; refine wpList_step (fun _ _ => ?_); rw [if_pos (by kernel_rfl)]; go_simp))
      refine (hM.out _ hB1.out).mono ?_
      rintro e w2 ⟨rfl, hb⟩
      have hB2 := hid (new_trans hB1.out hb)
      have q2 := hid (q1.out.below hb q1.out.lt)
      clear hb hB1 q1 x2
      have x3 := hid (sn_po q2.out)
      go_wp2_with (first | (guard_target = wpList _ _ _ (Oper.mk _ (Op.load 37 _) _ _ _ (some _) :: _) _ _; refine ld_want 37 _ rfl w.heap.size 19 rfl (by kernel_rfl) (poA s.p).toList _ x3.out Try.underlying37 rfl (szP s.p) ?_; simp only [Act.put, List.setIfInBounds_toArray, List.set_cons_zero, List.set_cons_succ]) | (guard_target = wpList _ _ _ (Oper.mk _ _ _ _ _ (some _) :: _) _ _; refine wpList_step (fun _ _ => ?_); rw [if_pos (by kernel_rfl)]; go_simp))
      refine (hP.out _).mono ?_
      rintro e w3 ⟨rfl, hb⟩
      have hB3 := hid (new_trans hB2.out hb)
      clear hb hB2 q2 x3
      go_wp2_with fail
      go_ret
      exact ⟨rfl, hB3.out⟩
set_option maxRecDepth 100000 in
theorem snok_impl (v : Value) (s : Sn) (w : World) (h : SnR w v s) (hs : SmallS s) : Calls Try.prog 9 #[v] w fun e w' => e = .returned (.bool (okSn s)) ∧ Below w.heap.size w w' := by
  have hS := h
  obtain ⟨vr, vm, rfl, hv⟩ := h
  have hB := hid ((Below.refl w.heap.size w).alloc (Nat.le_refl _) (.cells (snA s vr vm) 39))
  have q := hid (Blk.new w (snA s vr vm) 39)
  have hO := hid (fun w1 (hb : Below w.heap.size w w1) => isright_impl (.agg (snA s vr vm)) s w1 (hS.below hb) hs.1 hs.2.1 hs.2.2)
  clear hS hv
  go_enter Try.func9, Try.ntmps9
  go_upto_region 1 with fail
  obtain ⟨V, hV⟩ : ∃ V, w.alloc (Obj.cells (snA s vr vm) 39) = V := ⟨_, rfl⟩
  rw [hV] at hB q ⊢
  clear hV
  have x1 := hid (sn_all q.out)
  go_wp2_with (refine wpList_load_mid rfl 39 _ rfl w.heap.size 0 rfl (snA s vr vm).toList _ x1.out Try.underlying39 rfl (szS s vr vm) ?_)
  refine (hO.out _ hB.out).mono ?_
  rintro e w1 ⟨rfl, hb⟩
  have hB1 := hid (new_trans hB.out hb)
  clear hb hB q x1
  go_wp2_with fail
  go_ret
  exact ⟨rfl, hB1.out⟩
end Go.Proofs.Ytghcagibdcblnaa
