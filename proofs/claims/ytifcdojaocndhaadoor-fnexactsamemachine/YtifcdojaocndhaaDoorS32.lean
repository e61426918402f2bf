/- A machine that is right: what the program says of it. -/
import Derived.Test.YtifcdojaocndhaaDoorWdbs
import Derived.Test.YtifcdojaocndhaaDoorS30
import Derived.Test.YtifcdojaocndhaaDoorWads
import Derived.Test.YtifcdojaocndhaaDoorWaas
import Derived.Test.YtifcdojaocndhaaDoorS05
import Derived.Test.YtifcdojaocndhaaDoorS06
import Derived.Test.YtifcdojaocndhaaDoorS08
import Derived.Test.YtifcdojaocndhaaDoorS18
import Derived.Test.YtifcdojaocndhaaDoorS14
namespace Go.Proofs.YtifcdojaocndhaaDoor
open Go.ChangeShapes Go.WideShapes Go.ChangeAt Go.RowKit
set_option linter.unusedVariables false
set_option linter.unusedSimpArgs false

abbrev snZ : Array Value := #[.int .i64 0, .int .i64 0, .int .i64 0, .int .i64 0, .int .i64 0, .int .i64 0, .int .i64 0, .int .i64 0, .int .i64 0, .int .i64 0, .int .i64 0, .bool false, .bool false, .bool false, .slice none 0 0, .slice none 0 0, .int .i64 0, .int .i64 0, .bool false, .int .i64 0, .int .i64 0, .int .i64 0, .int .i64 0, .int .i64 0, .int .i64 0, .int .i64 0, .int .i64 0, .int .i64 0, .int .i64 0, .bool false, .bool false]
theorem szSnA (s : Sn) (vr vm : Value) : (Tryd.prog.info? 153).map (·.size) = some (snA s vr vm).size := by
  show _ = some 31
  kernel_rfl
theorem snA_one {vr vm : Value} (s : Sn) (h1 : vr.oneCell' = true) (h2 : vm.oneCell' = true) : (snA s vr vm).all (·.oneCell') = true := by
  simp [Value.oneCell']
  exact ⟨h1, h2⟩
theorem snZ_lay {W : World} {b : Nat} (h : Blk W b snZ) (s : Sn) (vr vm : Value) : Blk (W.setCells b 0 (snA s vr vm).toList) b (snA s vr vm) := by
  have q := lay_blk b (snA s vr vm).toList W 0 snZ h
  have e : layB 0 (snA s vr vm).toList snZ = snA s vr vm := by
    simp only [layB, List.setIfInBounds_toArray, List.set_cons_zero, List.set_cons_succ, Nat.zero_add, Nat.reduceAdd]
  rw [e] at q
  exact q
set_option maxRecDepth 100000 in
set_option maxHeartbeats 2000000 in
theorem snapM_impl (x : Mc) (vr vm vd ve : Value) (w : World) (o1 : vr.oneCell' = true) (o2 : vm.oneCell' = true) : Calls Tryd.prog 109 #[mcV x vr vm vd ve] w fun r w' => r = .returned (.agg (snA ⟨x.c, x.m, x.p⟩ vr vm)) ∧ Below w.heap.size w w' := by
  have q := Blk.new w (mcA x vr vm vd ve) 41
  have r1 := Blk.new (w.alloc (.cells (mcA x vr vm vd ve) 41)) snZ 153
  rw [World.size_alloc] at r1
  have hB := hid (((Below.refl w.heap.size w).alloc (Nat.le_refl _) (.cells (mcA x vr vm vd ve) 41)).alloc (by simp) (.cells snZ 153))
  replace q := q.alloc (.cells snZ 153)
  have x1 := hid (mc_cpu q)
  have x2 := hid (mc_mem q)
  have x3 := hid (mc_po q)
  clear q
  go_enter Tryd.func109, Tryd.ntmps109
  go_upto_region 1 with fail
  obtain ⟨V, hV⟩ : ∃ V, (w.alloc (.cells (mcA x vr vm vd ve) 41)).alloc (.cells snZ 153) = V := ⟨_, rfl⟩
  rw [hV] at r1 hB x1 x2 x3 ⊢
  clear hV
  have hth := hid (mc_there r1 (o := 0) (n := (snA ⟨x.c, x.m, x.p⟩ vr vm).size) (by show 0 + 31 ≤ 31; omega))
  have hso := snA_one ⟨x.c, x.m, x.p⟩ o1 o2
  obtain ⟨W2, hW2⟩ : ∃ W2, V.setCells (w.heap.size + 1) 0 (snA ⟨x.c, x.m, x.p⟩ vr vm).toList = W2 := ⟨_, rfl⟩
  have p2 := snZ_lay r1 ⟨x.c, x.m, x.p⟩ vr vm
  have hB2 : Below w.heap.size w (V.setCells (w.heap.size + 1) 0 (snA ⟨x.c, x.m, x.p⟩ vr vm).toList) := lay_below _ 0 _ (by omega) hB.out
  rw [hW2] at p2 hB2
  replace hW2 := hid hW2
  replace p2 := hid p2
  replace hB2 := hid hB2
  clear r1 hB
  go_wp2_with (first | (refine wpList_load_mid rfl 26 _ rfl w.heap.size 0 rfl (cuA x.c).toList _ x1.out Tryd.underlying26 rfl (szCu x.c) ?_) | (refine wpList_load_mid rfl 30 _ rfl w.heap.size 14 rfl (mcC vr vm x.m) _ x2.out Tryd.underlying30 rfl (szMe _ _ _) ?_) | (refine wpList_load_mid rfl 32 _ rfl w.heap.size 19 rfl (poA x.p).toList _ x3.out Tryd.underlying32 rfl (szPo _) ?_) | (guard_target = wpList _ _ _ (Oper.mk _ (Op.store _ _ _) _ _ _ _ :: _) _ _; refine wpList_store_mid rfl 153 _ _ rfl (w.heap.size + 1) 0 (snA ⟨x.c, x.m, x.p⟩ vr vm) rfl rfl hth.out (szSnA _ _ _) hso ?_; rw [hW2.out]))
  obtain ⟨tt, ht⟩ := p2.out
  exact bodyPost_ret (v := .agg (snA ⟨x.c, x.m, x.p⟩ vr vm)) (results_cell_row Tryd.results109 _ _ (w.heap.size + 1) tt (snA ⟨x.c, x.m, x.p⟩ vr vm) (0, 0) _ rfl ht Tryd.underlying153 rfl (szSnA _ _ _)) rfl ⟨rfl, hB2.out⟩
theorem okMc_eq (x : Mc) : okMc x = (okSn ⟨x.c, x.m, x.p⟩ && okS x.g && x.d.ok && inB x.t 0 639 && inB x.fr 0 1000000 && inB x.pt 0 15 && decide (x.sv.size ≤ 1000) && areE x.ev) := by
  unfold okMc okSn areE
  simp only [Bool.and_assoc]
set_option maxRecDepth 100000 in
set_option maxHeartbeats 4000000 in
theorem isrightM_impl {p : Nat → Bool} (x : Mc) (v : Value) (w : World) (h : MacR p w v x) (hf : FitMc x) (hP : PBit w) : Calls Tryd.prog 62 #[v] w fun r w' => r = .returned (.bool (okMc x)) ∧ Below w.heap.size w w' := by
  obtain ⟨vr, vm, vd, ve, rfl, hm, hd, he⟩ := h
  have hL := MLk.start hm (RowR.mono hd (veil_le w p)) he.unveil 41
  rw [okMc_eq]
  have hn1 : Hid (okSn ⟨x.c, x.m, x.p⟩ = false → _) := fun h => show (okSn ⟨x.c, x.m, x.p⟩ && okS x.g && x.d.ok && inB x.t 0 639 && inB x.fr 0 1000000 && inB x.pt 0 15 && decide (x.sv.size ≤ 1000) && areE x.ev) = false by rw [h]; rfl
  have hn2 : Hid (okS x.g = false → _) := fun h => show (okSn ⟨x.c, x.m, x.p⟩ && okS x.g && x.d.ok && inB x.t 0 639 && inB x.fr 0 1000000 && inB x.pt 0 15 && decide (x.sv.size ≤ 1000) && areE x.ev) = false by rw [h, Bool.and_false]; rfl
  have hn3 : Hid (x.d.ok = false → _) := fun h => show (okSn ⟨x.c, x.m, x.p⟩ && okS x.g && x.d.ok && inB x.t 0 639 && inB x.fr 0 1000000 && inB x.pt 0 15 && decide (x.sv.size ≤ 1000) && areE x.ev) = false by rw [h, Bool.and_false]; rfl
  have hn4 : Hid (inB x.t 0 639 = false → _) := fun h => show (okSn ⟨x.c, x.m, x.p⟩ && okS x.g && x.d.ok && inB x.t 0 639 && inB x.fr 0 1000000 && inB x.pt 0 15 && decide (x.sv.size ≤ 1000) && areE x.ev) = false by rw [h, Bool.and_false]; rfl
  have hn5 : Hid (inB x.fr 0 1000000 = false → _) := fun h => show (okSn ⟨x.c, x.m, x.p⟩ && okS x.g && x.d.ok && inB x.t 0 639 && inB x.fr 0 1000000 && inB x.pt 0 15 && decide (x.sv.size ≤ 1000) && areE x.ev) = false by rw [h, Bool.and_false]; rfl
  have hn6 : Hid (inB x.pt 0 15 = false → _) := fun h => show (okSn ⟨x.c, x.m, x.p⟩ && okS x.g && x.d.ok && inB x.t 0 639 && inB x.fr 0 1000000 && inB x.pt 0 15 && decide (x.sv.size ≤ 1000) && areE x.ev) = false by rw [h, Bool.and_false]; rfl
  have hn7 : Hid (decide (x.sv.size ≤ 1000) = false → _) := fun h => show (okSn ⟨x.c, x.m, x.p⟩ && okS x.g && x.d.ok && inB x.t 0 639 && inB x.fr 0 1000000 && inB x.pt 0 15 && decide (x.sv.size ≤ 1000) && areE x.ev) = false by rw [h, Bool.and_false]; rfl
  have hy : Hid (okSn ⟨x.c, x.m, x.p⟩ = true → okS x.g = true → x.d.ok = true → inB x.t 0 639 = true → inB x.fr 0 1000000 = true → inB x.pt 0 15 = true → decide (x.sv.size ≤ 1000) = true → _) := fun h1 h2 h3 h4 h5 h6 h7 => show (okSn ⟨x.c, x.m, x.p⟩ && okS x.g && x.d.ok && inB x.t 0 639 && inB x.fr 0 1000000 && inB x.pt 0 15 && decide (x.sv.size ≤ 1000) && areE x.ev) = areE x.ev by rw [h1, h2, h3, h4, h5, h6, h7]; rfl
  generalize (okSn ⟨x.c, x.m, x.p⟩ && okS x.g && x.d.ok && inB x.t 0 639 && inB x.fr 0 1000000 && inB x.pt 0 15 && decide (x.sv.size ≤ 1000) && areE x.ev) = Q at *
  obtain ⟨a1, c1, rfl, _⟩ := id hd
  obtain ⟨a2, c2, rfl, _⟩ := id he
  obtain ⟨ur, um, e, o1, o2⟩ := mem_one hm
  simp only [memV, Value.agg.injEq, Array.mk.injEq, List.cons.injEq] at e
  obtain ⟨rfl, rfl, _⟩ := e
  replace hL := hid hL
  replace hf := hid hf
  replace hP := hid hP
  clear hm hd he
  go_enter Tryd.func62, Tryd.ntmps62
  go_upto_region 1 with fail
  obtain ⟨V, hV⟩ : ∃ V, w.alloc (Obj.cells (mcA x vr vm (.slice a1 x.d.pulses.length c1) (.slice a2 x.ev.length c2)) 41) = V := ⟨_, rfl⟩
  rw [hV] at hL ⊢
  clear hV
  have x1 := hid (mc_all hL.out.q)
  go_wp2_with (refine wpList_load_mid rfl 41 _ rfl w.heap.size 0 rfl (mcA x vr vm (.slice a1 x.d.pulses.length c1) (.slice a2 x.ev.length c2)).toList _ x1.out Tryd.underlying41 rfl (szMc _ _ _ _ _) ?_)
  refine (snapM_impl x vr vm _ _ _ o1 o2).mono ?_
  rintro r w1 ⟨rfl, hb⟩
  have hL := hid (hL.out.below hb)
  clear hb x1
  go_wp2_with fail
  refine (isright_impl _ ⟨x.c, x.m, x.p⟩ _ ⟨vr, vm, rfl, hL.out.m⟩ hf.out.m.1 hf.out.m.2.1 hf.out.m.2.2).mono ?_
  rintro r w1 ⟨rfl, hb⟩
  have hL := hid (hL.out.below hb)
  clear hb
  cases k1 : okSn ⟨x.c, x.m, x.p⟩
  · clear hy
    go_wp2_with fail
    go_ret
    exact ⟨ret_bool (hn1.out k1).symm, hL.out.bel⟩
  have x1 := hid (mc_sg hL.out.q)
  go_wp2_with (first | (guard_target = wpList _ _ _ (Oper.mk _ (Op.load 36 _) _ _ _ (some _) :: _) _ _; refine ld_wantM 36 _ rfl w.heap.size 31 rfl (by kernel_rfl) (sgA x.g).toList _ x1.out Tryd.underlying36 rfl (szSg x.g) ?_; simp only [Act.put, List.setIfInBounds_toArray, List.set_cons_zero, List.set_cons_succ]) | (guard_target = wpList _ _ _ (Oper.mk _ _ _ _ _ (some _) :: _) _ _; refine wpList_step (fun _ _ => ?_); rw [if_pos (by kernel_rfl)]; go_simp))
  refine (sok_impl x.g _ (hP.out.below hL.out.bel)).mono ?_
  rintro r w1 ⟨rfl, hb⟩
  have hL := hid (hL.out.below hb)
  clear hb x1
  cases k2 : okS x.g
  · clear hy
    go_wp2_with fail
    go_ret
    exact ⟨ret_bool (hn2.out k2).symm, hL.out.bel⟩
  go_wp2_with (first | (guard_target = wpList _ _ _ (Oper.mk _ _ _ _ _ (some _) :: _) _ _; refine wpList_step (fun _ _ => ?_); rw [if_pos (by kernel_rfl)]; go_simp))
  refine (right_implM w.heap.size a1 c1 x.d _ (dk8_of hL.out.q) hL.out.d).mono ?_
  rintro r w1 ⟨rfl, n, rfl⟩
  have hL := hid (hL.out.below (Below.drewN _ n _))
  cases k3 : x.d.ok
  · clear hy
    go_wp2_with fail
    go_ret
    exact ⟨ret_bool (hn3.out k3).symm, hL.out.bel⟩
  have x1 : _ = some (Value.int .i64 x.t) := hL.out.q.cell 53
  go_wp2_with (first | (guard_target = wpList _ _ _ (Oper.mk _ _ _ _ _ (some _) :: _) _ _; refine wpList_step (fun _ _ => ?_); rw [if_pos (by kernel_rfl)]; go_simp))
  refine (frame_impl x.t _).mono ?_
  rintro r w' ⟨rfl, rfl⟩
  clear x1
  cases k4 : inB x.t 0 639
  · clear hy
    go_wp2_with fail
    go_ret
    exact ⟨ret_bool (hn4.out k4).symm, hL.out.bel⟩
  have x1 : _ = some (Value.int .i64 x.fr) := hL.out.q.cell 54
  go_wp2_with (first | (guard_target = wpList _ _ _ (Oper.mk _ _ _ _ _ (some _) :: _) _ _; refine wpList_step (fun _ _ => ?_); rw [if_pos (by kernel_rfl)]; go_simp))
  refine (wi_impl x.fr 0 1000000 _).mono ?_
  rintro r w' ⟨rfl, rfl⟩
  clear x1
  cases k5 : inB x.fr 0 1000000
  · clear hy
    go_wp2_with fail
    go_ret
    exact ⟨ret_bool (hn5.out k5).symm, hL.out.bel⟩
  have x1 : _ = some (Value.int .i64 x.pt) := hL.out.q.cell 55
  go_wp2_with (first | (guard_target = wpList _ _ _ (Oper.mk _ _ _ _ _ (some _) :: _) _ _; refine wpList_step (fun _ _ => ?_); rw [if_pos (by kernel_rfl)]; go_simp))
  refine (wi_impl x.pt 0 15 _).mono ?_
  rintro r w' ⟨rfl, rfl⟩
  clear x1
  cases k6 : inB x.pt 0 15
  · clear hy
    go_wp2_with fail
    go_ret
    exact ⟨ret_bool (hn6.out k6).symm, hL.out.bel⟩
  have x1 : _ = some (Value.string x.sv) := hL.out.q.cell 56
  have x2 : _ = some (Value.slice a2 x.ev.length c2) := hL.out.q.cell 57
  by_cases k7 : x.sv.size ≤ 1000
  · have t9 : decide ((x.sv.size : Int) ≤ 1000) = true := decide_eq_true (by omega)
    have t9n : decide (x.sv.size ≤ 1000) = true := decide_eq_true k7
    have hfin := hid (hy.out k1 k2 k3 k4 k5 k6 t9n)
    replace k7 := hid k7
    go_wp2_with (first | (guard_target = wpList _ _ _ (Oper.mk _ _ _ _ _ (some _) :: _) _ _; refine wpList_step (fun _ _ => ?_); rw [if_pos (by rfl)]; go_simp))
    refine (aree_impl (.slice a2 x.ev.length c2) x.ev _ hL.out.e hf.out.e).mono ?_
    rintro r w1 ⟨rfl, hb⟩
    have hL := hid (hL.out.below hb)
    clear hb x1 x2 hy
    go_wp2_with fail
    go_ret
    exact ⟨ret_bool hfin.out.symm, hL.out.bel⟩
  · have t9 : decide ((x.sv.size : Int) ≤ 1000) = false := decide_eq_false (by omega)
    have t9n : decide (x.sv.size ≤ 1000) = false := decide_eq_false k7
    have hfin := hid (hn7.out t9n)
    clear hy
    go_wp2_with (first | (guard_target = wpList _ _ _ (Oper.mk _ _ _ _ _ (some _) :: _) _ _; refine wpList_step (fun _ _ => ?_); rw [if_pos (by rfl)]; go_simp))
    go_ret
    exact ⟨ret_bool hfin.out.symm, hL.out.bel⟩
end Go.Proofs.YtifcdojaocndhaaDoor

/- Registers of the sound chip that are chosen, written and read: the program. -/
namespace Go.Proofs.YtifcdojaocndhaaDoor
open Go.ChangeShapes Go.WideShapes Go.ChangeAt Go.RowKit
set_option linter.unusedVariables false
set_option linter.unusedSimpArgs false

set_option maxRecDepth 100000 in
set_option maxHeartbeats 4000000 in
theorem rreg_impl (c : Sg) (w : World) (hP : PBit w) : Calls Tryd.prog 124 #[sgV c] w fun e w' => e = .returned (.tuple #[.int .i64 (readS2 c).1, .int .i64 (readS2 c).2]) ∧ Below w.heap.size w w' := by
  have q := hid (Blk.new w (sgA c) 36)
  have hB := hid ((Below.refl w.heap.size w).alloc (Nat.le_refl _) (.cells (sgA c) 36))
  have hrg := hid (sg_range q.out)
  have hP1 := hid (hP.alloc (.cells (sgA c) 36))
  clear hP
  cases hc : okS c
  · have e : readS2 c = (0, 1) := by unfold readS2; rw [hc]; rfl
    rw [e]
    clear e
    go_enter Tryd.func124, Tryd.ntmps124
    go_upto_region 1 with fail
    obtain ⟨V, hV⟩ : ∃ V, w.alloc (.cells (sgA c) 36) = V := ⟨_, rfl⟩
    rw [hV] at q hB hrg hP1 ⊢
    clear hV
    go_wp2_with (refine wpList_load_mid rfl 36 _ rfl w.heap.size 0 rfl (sgA c).toList _ hrg.out Tryd.underlying36 rfl (sg_size c) ?_)
    refine (sok_impl c _ hP1.out).mono ?_
    rintro e w1 ⟨rfl, hb⟩
    rw [hc]
    have hB1 := hid (new_trans hB.out hb)
    skip
    clear hb hB q hrg hP1
    go_wp2_with fail
    go_ret2
    exact ⟨rfl, hB1.out⟩
  · obtain ⟨s, hs, hs8⟩ := okS_sel hc
    have e : readS2 c = (c.reg s, 0) := by unfold readS2; rw [hc, hs]; rfl
    rw [e]
    have h8 : (sgA c)[8]? = some (.int .i64 (s : Int)) := by rw [← hs]; rfl
    have hat := sgA_at c s hs8
    clear e
    replace hs := hid hs
    generalize c.reg s = y at *
    go_enter Tryd.func124, Tryd.ntmps124
    go_upto_region 1 with fail
    obtain ⟨V, hV⟩ : ∃ V, w.alloc (.cells (sgA c) 36) = V := ⟨_, rfl⟩
    rw [hV] at q hB hrg hP1 ⊢
    clear hV
    go_wp2_with (refine wpList_load_mid rfl 36 _ rfl w.heap.size 0 rfl (sgA c).toList _ hrg.out Tryd.underlying36 rfl (sg_size c) ?_)
    refine (sok_impl c _ hP1.out).mono ?_
    rintro e w1 ⟨rfl, hb⟩
    rw [hc]
    have hB1 := hid (new_trans hB.out hb)
    have q1 := q.out.below hb q.out.lt
    have y8 := q1.cell 8
    rw [h8] at y8
    have ys := q1.cell s
    rw [hat] at ys
    clear q1 h8 hat
    clear hb hB q hrg hP1
    go_wp2_with fail
    go_ret2
    exact ⟨rfl, hB1.out⟩
end Go.Proofs.YtifcdojaocndhaaDoor

/- What a port reads of a machine. -/
namespace Go.Proofs.YtifcdojaocndhaaDoor
open Go.ChangeShapes Go.WideShapes Go.ChangeAt Go.RowKit
set_option linter.unusedVariables false
set_option linter.unusedSimpArgs false

theorem fetI_bd {t : Int} (h0 : 0 ≤ t) (h1 : t ≤ 639) (h : fetI t ≠ -1) : 0 ≤ fetI t ∧ fetI t ≤ 63 := by
  revert h
  unfold fetI scrI inB
  split
  · rename_i hh
    obtain ⟨h2, h3⟩ := hh
    simp only [Bool.and_eq_true, decide_eq_true_eq] at h2
    intro _
    omega
  · intro hh; exact absurd rfl hh
theorem kind2_at {n : Nat} (hn : n < 256) : kind2 n = .tuple #[.int .i64 (kindN n : Nat), .int .i64 0] := by
  unfold kind2
  rw [if_pos (by simp [inB]; omega), Int.toNat_natCast]
theorem kindN_lt (n : Nat) : kindN n < 6 := by
  unfold kindN
  cases ptN n 0 <;> cases ptN n 1 <;> cases ptN n 2 <;> cases ptN n 3 <;> cases ptN n 4 <;> simp
theorem sg_regs {W : World} {b : Nat} {x : Mc} {vr vm vd ve : Value} (q : Blk W b (mcA x vr vm vd ve)) (s : Nat) (hs : s < 8) : W.cell? ⟨b, 31 + s, none⟩ = some (.int .i64 (x.g.reg s)) := by
  rcases (by omega : s = 0 ∨ s = 1 ∨ s = 2 ∨ s = 3 ∨ s = 4 ∨ s = 5 ∨ s = 6 ∨ s = 7) with rfl | rfl | rfl | rfl | rfl | rfl | rfl | rfl
  all_goals exact q.cell _
/-- the byte that the screen fetches, where it lies -/
theorem scr_at {W : World} {x : Mc} {vr vm : Value} (h : MemR W (memV vr vm x.m.page x.m.screen x.m.locked) x.m) (hk : okM x.m = true) {k : Nat} (hk64 : k < 64) : ∃ (j : Nat) (b off cap b3 off3 cap3 : Nat) (zz : List Int), x.m.screen = j ∧ j < 4 ∧ x.m.ram.length = 4 ∧ vm = .slice (some ⟨b, off, none⟩) 4 cap ∧ zz.length = 64 ∧ zz = x.m.ram.getD j [] ∧ W.cell? ⟨b, off + j, none⟩ = some (.slice (some ⟨b3, off3, none⟩) 64 cap3) ∧ W.cell? ⟨b3, off3 + k, none⟩ = some (.int .i64 (zz.getD k 0)) := by
  obtain ⟨hp1, hp2, hp3, hp4, hp5⟩ := ok_parts hk
  obtain ⟨ur, um, e, h1, h2⟩ := h
  simp only [memV, Value.agg.injEq, Array.mk.injEq, List.cons.injEq] at e
  obtain ⟨rfl, rfl, _⟩ := e
  obtain ⟨a2, p2, rfl, _⟩ := id h2
  obtain ⟨j, hj⟩ : ∃ j : Nat, x.m.screen = (j : Int) := ⟨x.m.screen.toNat, by omega⟩
  have hj4 : j < x.m.ram.length := by omega
  have hrow := bytes_len (hp5 j hj4)
  obtain ⟨b, off, a3, p3, rfl, c1, hb, r3⟩ := rows_at h2 hj4
  obtain ⟨b3, off3, rfl, c3, hb3⟩ := row_at r3 (k := k) (by omega)
  rw [hrow] at c1
  rw [hp2]
  exact ⟨j, b, off, p2, b3, off3, p3, _, hj, by omega, rfl, rfl, hrow, rfl, c1, c3⟩
theorem portM_0 {x : Mc} {n : Nat} (h : kindN n = 0) : portM x n = ((readN (fun k => (x.p.key k).toNat) x.c.r7.toNat x.d.level : Nat) : Int) := by unfold portM; rw [if_pos h]
theorem portM_1 {x : Mc} {n : Nat} (h : kindN n = 1) : portM x n = x.p.joy := by unfold portM; rw [if_neg (by omega), if_pos h]
theorem portM_3 {x : Mc} {n s : Nat} (h : kindN n = 3) (hs : x.g.sel = s) : portM x n = x.g.reg s := by unfold portM; rw [if_neg (by omega), if_neg (by omega), if_pos h, hs, Int.toNat_natCast]
theorem portM_5 {x : Mc} {n : Nat} (h0 : kindN n ≠ 0) (h1 : kindN n ≠ 1) (h3 : kindN n ≠ 3) (t0 : 0 ≤ x.t) (t1 : x.t ≤ 639) (h : fetI x.t = -1) : portM x n = 255 := by
  unfold portM
  rw [if_neg h0, if_neg h1, if_neg h3, show x.t % 640 = x.t by omega, if_pos h]
theorem portM_6 {x : Mc} {n k j : Nat} (h0 : kindN n ≠ 0) (h1 : kindN n ≠ 1) (h3 : kindN n ≠ 3) (t0 : 0 ≤ x.t) (t1 : x.t ≤ 639) (h : fetI x.t = k) (hj : x.m.screen = j) : portM x n = (x.m.ram.getD j []).getD k 0 := by
  unfold portM
  rw [if_neg h0, if_neg h1, if_neg h3, show x.t % 640 = x.t by omega, if_neg (by omega), h, hj]
  rfl
theorem cu_r7 {c : Cu} (h : okC c = true) : 0 ≤ c.r7 ∧ c.r7 ≤ 255 := by
  have h7 : inB c.r7 0 255 = true := by
    cases hq : inB c.r7 0 255
    · rw [regs_no (k := 7) (by decide) hq] at h; cases h
    · rfl
  simpa [inB] using h7
theorem ret_intM {a b : Int} (h : a = b) : Ending.returned (.int .i64 a) = Ending.returned (.int .i64 b) := by rw [h]
theorem kind_else {n : Nat} (h0 : kindN n ≠ 0) (h1 : kindN n ≠ 1) (h3 : kindN n ≠ 3) : kindN n = 2 ∨ kindN n = 4 ∨ kindN n = 5 := by
  have := kindN_lt n
  omega
set_option maxRecDepth 100000 in
set_option maxHeartbeats 4000000 in
theorem lport_spec {p : Nat → Bool} (x : Mc) (v : Value) (n : Nat) (w : World) (h : MacR p w v x) (hw : WkM x) (ht : x.t ≤ 639) (hn : n < 256) : Calls Tryd.prog 67 #[v, .int .i64 (n : Int)] w fun r w' => r = .returned (.int .i64 (portM x n)) ∧ Below w.heap.size w w' := by
  obtain ⟨vr, vm, vd, ve, rfl, hm, hd, he⟩ := h
  have hL := hid (MLk.start hm (RowR.mono hd (veil_le w p)) he.unveil 41)
  have hK := hid (fun W => (kind_spec (n : Int) W))
  rw [kind2_at hn] at hK
  have ht0 := hw.t.1
  have hkey := hid (fun k (hk : k < 8) => (show x.p.key k = ((fun k => (x.p.key k).toNat) k : Nat) ∧ (fun k => (x.p.key k).toNat) k < 32 from by have := ((okPo_iff x.p).1 hw.p).1 k hk; constructor <;> simp only [] <;> omega))
  have h7 := hid (show x.c.r7 = (x.c.r7.toNat : Nat) ∧ x.c.r7.toNat < 256 from by have := cu_r7 hw.c; constructor <;> omega)
  replace hw := hid hw
  clear hm hd he
  go_enter Tryd.func67, Tryd.ntmps67
  go_upto_region 1 with fail
  obtain ⟨V, hV⟩ : ∃ V, w.alloc (Obj.cells (mcA x vr vm vd ve) 41) = V := ⟨_, rfl⟩
  rw [hV] at hL ⊢
  clear hV
  go_wp2_with fail
  refine (hK.out _).mono ?_
  rintro r w1 ⟨rfl, hb⟩
  have hL := hid (hL.out.below hb)
  clear hb hK
  by_cases k0 : kindN n = 0
  · obtain ⟨z, hz⟩ : ∃ z, x.c.r7.toNat = z := ⟨_, rfl⟩
    have hR := hid (portM_0 (x := x) k0)
    rw [hz] at h7 hR
    clear hz
    rw [k0]
    have x1 := hid (mc_po hL.out.q)
    have x2 : _ = some (Value.int .i64 x.c.r7) := hL.out.q.cell 7
    have x3 : _ = some (Value.bool x.d.level) := hL.out.q.cell 51
    rw [h7.out.1] at x2
    go_wp2_with (refine wpList_load_mid rfl 32 _ rfl w.heap.size 19 rfl (poA x.p).toList _ x1.out Tryd.underlying32 rfl (szPo x.p) ?_)
    refine (keys_spec x.p (fun k => (x.p.key k).toNat) z x.d.level _ hkey.out h7.out.2).mono ?_
    rintro r w2 ⟨rfl, hb⟩
    have hB := hid (new_trans hL.out.bel hb)
    clear hb x1 x2 x3
    go_wp2
    go_ret
    exact ⟨ret_intM hR.out.symm, hB.out⟩
  by_cases k1 : kindN n = 1
  · have hR := hid (portM_1 (x := x) k1)
    rw [k1]
    have x1 : _ = some (Value.int .i64 x.p.joy) := hL.out.q.cell 27
    go_wp2
    go_ret
    exact ⟨ret_intM hR.out.symm, hL.out.bel⟩
  by_cases k3 : kindN n = 3
  · obtain ⟨s, hs, hs8⟩ := okS_sel hw.out.g
    have hR := hid (portM_3 (x := x) k3 hs)
    rw [k3]
    have x1 : _ = some (Value.int .i64 x.g.sel) := hL.out.q.cell 39
    have x2 := sg_regs hL.out.q s hs8
    rw [hs] at x1
    go_wp2
    go_ret
    exact ⟨ret_intM hR.out.symm, hL.out.bel⟩
  have hke := kind_else k0 k1 k3
  have x1 : _ = some (Value.int .i64 x.t) := hL.out.q.cell 53
  by_cases hf : fetI x.t = -1
  · have hR := hid (portM_5 (x := x) k0 k1 k3 ht0 ht hf)
    clear k0 k1 k3
    rcases hke with hke | hke | hke
    all_goals
      rw [hke]
      go_wp2_with fail
      refine (fetch_spec x.t _ ht0 ht).mono ?_
      rintro r w2 ⟨rfl, rfl⟩
      rw [hf]
      go_wp2
      go_ret
      exact ⟨ret_intM hR.out.symm, hL.out.bel⟩
  · have hfb := fetI_bd ht0 ht hf
    obtain ⟨k, hk⟩ : ∃ k : Nat, fetI x.t = (k : Int) := ⟨(fetI x.t).toNat, by omega⟩
    obtain ⟨j, b, off, cap, b3, off3, cap3, zz, hj, hj4, hrl, rfl, hzl, hzz, c1, c3⟩ := scr_at hL.out.m hw.out.m (k := k) (by omega)
    have hR := portM_6 (x := x) k0 k1 k3 ht0 ht hk hj
    rw [← hzz] at hR
    clear hzz k0 k1 k3 hf
    have hk64 : k < 64 := by omega
    have hnk : ¬ ((k : Int) < 0) := by omega
    have x2 : _ = some (Value.int .i64 x.m.screen) := hL.out.q.cell 17
    have x3 : _ = some (Value.slice (some ⟨b, off, none⟩) 4 cap) := hL.out.q.cell 15
    rw [hj] at x2
    generalize zz.getD k 0 = z at *
    replace hR := hid hR
    rcases hke with hke | hke | hke
    all_goals
      rw [hke]
      go_wp2_with fail
      refine (fetch_spec x.t _ ht0 ht).mono ?_
      rintro r w2 ⟨rfl, rfl⟩
      rw [hk]
      go_wp2
      go_ret
      exact ⟨ret_intM hR.out.symm, hL.out.bel⟩
set_option maxRecDepth 100000 in
set_option maxHeartbeats 4000000 in
theorem fetched_impl {p : Nat → Bool} (x : Mc) (v : Value) (w : World) (h : MacR p w v x) (hw : WkM x) (ht : x.t ≤ 639) (hF : FPat w) : Calls Tryd.prog 125 #[v] w fun r w' => r = .returned (.int .i64 (if fetI x.t = -1 then 255 else (x.m.ram.getD x.m.screen.toNat []).getD (fetI x.t).toNat 0)) ∧ Below w.heap.size w w' := by
  obtain ⟨vr, vm, vd, ve, rfl, hm, hd, he⟩ := h
  have hL := hid (MLk.start hm (RowR.mono hd (veil_le w p)) he.unveil 41)
  have ht0 := hw.t.1
  have hI := hid (fun W (hb : Below w.heap.size w W) => fetch_impl x.t W (fpat_below hF hb))
  have h2 : fet2 x.t = .tuple #[.int .i64 (fetI x.t), .int .i64 0] := by
    unfold fet2
    rw [if_pos (by simp [inB]; omega)]
  rw [h2] at hI
  clear hm hd he h2 hF
  generalize hZ : (if fetI x.t = -1 then 255 else (x.m.ram.getD x.m.screen.toNat []).getD (fetI x.t).toNat 0) = Z
  go_enter Tryd.func125, Tryd.ntmps125
  go_upto_region 1 with fail
  obtain ⟨V, hV⟩ : ∃ V, w.alloc (Obj.cells (mcA x vr vm vd ve) 41) = V := ⟨_, rfl⟩
  rw [hV] at hL ⊢
  clear hV
  have x1 : _ = some (Value.int .i64 x.t) := hL.out.q.cell 53
  by_cases hf : fetI x.t = -1
  · rw [if_pos hf] at hZ
    replace hZ := hid hZ
    rw [hf] at hI
    replace hw := hid hw
    clear hf
    go_wp2_with fail
    refine (hI.out _ hL.out.bel).mono ?_
    rintro r w2 ⟨rfl, rfl⟩
    go_wp2
    go_ret
    exact ⟨ret_intM hZ.out, hL.out.bel⟩
  · have hfb := fetI_bd ht0 ht hf
    rw [if_neg hf] at hZ
    obtain ⟨k, hk⟩ : ∃ k : Nat, fetI x.t = (k : Int) := ⟨(fetI x.t).toNat, by omega⟩
    obtain ⟨j, b, off, cap, b3, off3, cap3, zz, hj, hj4, hrl, rfl, hzl, hzz, c1, c3⟩ := scr_at hL.out.m hw.m (k := k) (by omega)
    rw [hk, hj, Int.toNat_natCast, Int.toNat_natCast, ← hzz] at hZ
    rw [hk] at hI
    have hk64 : k < 64 := by omega
    have hnk : ¬ ((k : Int) = -1) := by omega
    have x2 : _ = some (Value.int .i64 x.m.screen) := hL.out.q.cell 17
    have x3 : _ = some (Value.slice (some ⟨b, off, none⟩) 4 cap) := hL.out.q.cell 15
    rw [hj] at x2
    clear hzz hf hfb hk hj hrl hzl hw
    generalize zz.getD k 0 = z at *
    replace hZ := hid hZ
    go_wp2_with fail
    refine (hI.out _ hL.out.bel).mono ?_
    rintro r w2 ⟨rfl, rfl⟩
    clear hI
    go_wp2
    go_ret
    exact ⟨ret_intM hZ.out, hL.out.bel⟩
theorem portM_7 {x : Mc} {n : Nat} (h0 : kindN n ≠ 0) (h1 : kindN n ≠ 1) (h3 : kindN n ≠ 3) (t0 : 0 ≤ x.t) (t1 : x.t ≤ 639) : portM x n = if fetI x.t = -1 then 255 else (x.m.ram.getD x.m.screen.toNat []).getD (fetI x.t).toNat 0 := by
  unfold portM
  rw [if_neg h0, if_neg h1, if_neg h3, show x.t % 640 = x.t by omega]
set_option maxRecDepth 100000 in
set_option maxHeartbeats 4000000 in
theorem port_implM {p : Nat → Bool} (x : Mc) (v : Value) (n : Nat) (w : World) (h : MacR p w v x) (hw : WkM x) (ht : x.t ≤ 639) (hn : n < 256) (hP : PBit w) (hF : FPat w) : Calls Tryd.prog 69 #[v, .int .i64 (n : Int)] w fun r w' => r = .returned (.int .i64 (portM x n)) ∧ Below w.heap.size w w' := by
  obtain ⟨vr, vm, vd, ve, rfl, hm, hd, he⟩ := h
  have hL := hid (MLk.start hm (RowR.mono hd (veil_le w p)) he.unveil 41)
  have hK := hid (fun W => (kind_impl (n : Int) W))
  rw [kind2_at hn] at hK
  have hR0 : Hid (kindN n = 0 → read2 x.p x.c.r7 x.d.level = (portM x n, 0)) := fun k0 => by
    have h7 := cu_r7 hw.c
    rw [portM_0 k0]
    unfold read2
    rw [if_pos hw.p, if_pos (by simp [inB]; omega)]
  have hR3 : Hid (kindN n = 3 → readS2 x.g = (portM x n, 0)) := fun k3 => by
    obtain ⟨s, hs, hs8⟩ := okS_sel hw.g
    rw [portM_3 k3 hs]
    unfold readS2
    rw [if_pos hw.g, hs, Int.toNat_natCast]
  have hKe := hid (fun W (hb : Below w.heap.size w W) => readk_impl x.p x.c.r7 x.d.level W)
  have hSg := hid (fun W (hb : Below w.heap.size w W) => rreg_impl x.g W (PBit.below hP hb))
  have hFe := hid (fun W (hq : MLk w W x vr vm vd ve) => fetched_impl (p := fun _ => false) x (mcV x vr vm vd ve) W ⟨vr, vm, vd, ve, rfl, hq.m, hq.d.mono (fun b i u hu => by rw [veil_cell]; exact hu), hq.e.mono (fun b i u hu => by rw [veil_cell]; exact hu)⟩ hw ht (fpat_below hF hq.bel))
  have ht0 := hw.t.1
  replace hw := hid hw
  clear hm hd he hP hF
  go_enter Tryd.func69, Tryd.ntmps69
  go_upto_region 1 with fail
  obtain ⟨V, hV⟩ : ∃ V, w.alloc (Obj.cells (mcA x vr vm vd ve) 41) = V := ⟨_, rfl⟩
  rw [hV] at hL ⊢
  clear hV
  go_wp2_with fail
  refine (hK.out _).mono ?_
  rintro r w1 ⟨rfl, hb⟩
  have hL := hid (hL.out.below hb)
  clear hb hK
  by_cases k0 : kindN n = 0
  · have hR := hR0.out k0
    rw [hR] at hKe
    clear hR hR3 hSg hFe
    rw [k0]
    have x1 := hid (mc_po hL.out.q)
    have x2 : _ = some (Value.int .i64 x.c.r7) := hL.out.q.cell 7
    have x3 : _ = some (Value.bool x.d.level) := hL.out.q.cell 51
    go_wp2_with (refine wpList_load_mid rfl 32 _ rfl w.heap.size 19 rfl (poA x.p).toList _ x1.out Tryd.underlying32 rfl (szPo x.p) ?_)
    refine (hKe.out _ hL.out.bel).mono ?_
    rintro r w2 ⟨rfl, hb⟩
    have hB := hid (new_trans hL.out.bel hb)
    clear hb x1 x2 x3
    go_wp2
    go_ret
    exact ⟨rfl, hB.out⟩
  by_cases k1 : kindN n = 1
  · have hR := hid (portM_1 (x := x) k1)
    rw [k1]
    have x1 : _ = some (Value.int .i64 x.p.joy) := hL.out.q.cell 27
    go_wp2
    go_ret
    exact ⟨ret_intM hR.out.symm, hL.out.bel⟩
  by_cases k3 : kindN n = 3
  · have hR := hR3.out k3
    rw [hR] at hSg
    clear hR hR0 hKe hFe
    rw [k3]
    have x1 := hid (mc_sg hL.out.q)
    go_wp2_with (refine wpList_load_mid rfl 36 _ rfl w.heap.size 31 rfl (sgA x.g).toList _ x1.out Tryd.underlying36 rfl (szSg x.g) ?_)
    refine (hSg.out _ hL.out.bel).mono ?_
    rintro r w2 ⟨rfl, hb⟩
    have hB := hid (new_trans hL.out.bel hb)
    clear hb x1
    go_wp2
    go_ret
    exact ⟨rfl, hB.out⟩
  have hke := kind_else k0 k1 k3
  have hR := portM_7 (x := x) k0 k1 k3 ht0 ht
  rw [← hR] at hFe
  clear hR hR0 hR3 hKe hSg k0 k1 k3
  have x1 := hid (mc_all hL.out.q)
  rcases hke with hke | hke | hke
  all_goals
    rw [hke]
    go_wp2_with (refine wpList_load_mid rfl 41 _ rfl w.heap.size 0 rfl (mcA x vr vm vd ve).toList _ x1.out Tryd.underlying41 rfl (szMc _ _ _ _ _) ?_)
    refine (hFe.out _ hL.out).mono ?_
    rintro r w2 ⟨rfl, hb⟩
    have hB := hid (new_trans hL.out.bel hb)
    clear hb x1
    go_wp2
    go_ret
    exact ⟨rfl, hB.out⟩
end Go.Proofs.YtifcdojaocndhaaDoor
