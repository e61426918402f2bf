/- A machine that is right: what the program says of it. -/
import Derived.Test.YtifcdojaocndhaaDoorWdbc
import Derived.Test.YtifcdojaocndhaaDoorC32
namespace Go.Proofs.YtifcdojaocndhaaDoor
open Go.ChangeShapes Go.WideShapes Go.ChangeAt Go.RowKit
set_option linter.unusedVariables false
set_option linter.unusedSimpArgs false

abbrev snZ : Array Value := #[.int .i64 0, .int .i64 0, .int .i64 0, .int .i64 0, .int .i64 0, .int .i64 0, .int .i64 0, .int .i64 0, .int .i64 0, .int .i64 0, .int .i64 0, .bool false, .bool false, .bool false, .slice none 0 0, .slice none 0 0, .int .i64 0, .int .i64 0, .bool false, .int .i64 0, .int .i64 0, .int .i64 0, .int .i64 0, .int .i64 0, .int .i64 0, .int .i64 0, .int .i64 0, .int .i64 0, .int .i64 0, .bool false, .bool false]
theorem szSnA (s : Sn) (vr vm : Value) : (Tryd.prog.info? 153).map (·.size) = some (snA s vr vm).size := by
  show _ = some 31
  kernel_rfl
theorem snA_one {vr vm : Value} (s : Sn) (h1 : vr.oneCell' = true) (h2 : vm.oneCell' = true) : (snA s vr vm).all (·.oneCell') = true := by
  simp [Value.oneCell']
  exact ⟨h1, h2⟩
theorem snZ_lay {W : World} {b : Nat} (h : Blk W b snZ) (s : Sn) (vr vm : Value) : Blk (W.setCells b 0 (snA s vr vm).toList) b (snA s vr vm) := by
  have q := lay_blk b (snA s vr vm).toList W 0 snZ h
  have e : layB 0 (snA s vr vm).toList snZ = snA s vr vm := by
    simp only [layB, List.setIfInBounds_toArray, List.set_cons_zero, List.set_cons_succ, Nat.zero_add, Nat.reduceAdd]
  rw [e] at q
  exact q
set_option maxRecDepth 100000 in
set_option maxHeartbeats 2000000 in
theorem snapM_impl (x : Mc) (vr vm vd ve : Value) (w : World) (o1 : vr.oneCell' = true) (o2 : vm.oneCell' = true) : Calls Tryd.prog 109 #[mcV x vr vm vd ve] w fun r w' => r = .returned (.agg (snA ⟨x.c, x.m, x.p⟩ vr vm)) ∧ Below w.heap.size w w' := by
  have q := Blk.new w (mcA x vr vm vd ve) 41
  have r1 := Blk.new (w.alloc (.cells (mcA x vr vm vd ve) 41)) snZ 153
  rw [World.size_alloc] at r1
  have hB := hid (((Below.refl w.heap.size w).alloc (Nat.le_refl _) (.cells (mcA x vr vm vd ve) 41)).alloc (by simp) (.cells snZ 153))
  replace q := q.alloc (.cells snZ 153)
  have x1 := hid (mc_cpu q)
  have x2 := hid (mc_mem q)
  have x3 := hid (mc_po q)
  clear q
  go_enter Tryd.func109, Tryd.ntmps109
  go_upto_region 1 with fail
  obtain ⟨V, hV⟩ : ∃ V, (w.alloc (.cells (mcA x vr vm vd ve) 41)).alloc (.cells snZ 153) = V := ⟨_, rfl⟩
  rw [hV] at r1 hB x1 x2 x3 ⊢
  clear hV
  have hth := hid (mc_there r1 (o := 0) (n := (snA ⟨x.c, x.m, x.p⟩ vr vm).size) (by show 0 + 31 ≤ 31; omega))
  have hso := snA_one ⟨x.c, x.m, x.p⟩ o1 o2
  obtain ⟨W2, hW2⟩ : ∃ W2, V.setCells (w.heap.size + 1) 0 (snA ⟨x.c, x.m, x.p⟩ vr vm).toList = W2 := ⟨_, rfl⟩
  have p2 := snZ_lay r1 ⟨x.c, x.m, x.p⟩ vr vm
  have hB2 : Below w.heap.size w (V.setCells (w.heap.size + 1) 0 (snA ⟨x.c, x.m, x.p⟩ vr vm).toList) := lay_below _ 0 _ (by omega) hB.out
  rw [hW2] at p2 hB2
  replace hW2 := hid hW2
  replace p2 := hid p2
  replace hB2 := hid hB2
  clear r1 hB
  go_wp2_with (first | (refine wpList_load_mid rfl 26 _ rfl w.heap.size 0 rfl (cuA x.c).toList _ x1.out Tryd.underlying26 rfl (szCu x.c) ?_) | (refine wpList_load_mid rfl 30 _ rfl w.heap.size 14 rfl (mcC vr vm x.m) _ x2.out Tryd.underlying30 rfl (szMe _ _ _) ?_) | (refine wpList_load_mid rfl 32 _ rfl w.heap.size 19 rfl (poA x.p).toList _ x3.out Tryd.underlying32 rfl (szPo _) ?_) | (guard_target = wpList _ _ _ (Oper.mk _ (Op.store _ _ _) _ _ _ _ :: _) _ _; refine wpList_store_mid rfl 153 _ _ rfl (w.heap.size + 1) 0 (snA ⟨x.c, x.m, x.p⟩ vr vm) rfl rfl hth.out (szSnA _ _ _) hso ?_; rw [hW2.out]))
  obtain ⟨tt, ht⟩ := p2.out
  exact bodyPost_ret (v := .agg (snA ⟨x.c, x.m, x.p⟩ vr vm)) (results_cell_row Tryd.results109 _ _ (w.heap.size + 1) tt (snA ⟨x.c, x.m, x.p⟩ vr vm) (0, 0) _ rfl ht Tryd.underlying153 rfl (szSnA _ _ _)) rfl ⟨rfl, hB2.out⟩
theorem okMc_eq (x : Mc) : okMc x = (okSn ⟨x.c, x.m, x.p⟩ && okS x.g && x.d.ok && inB x.t 0 639 && inB x.fr 0 1000000 && inB x.pt 0 15 && decide (x.sv.size ≤ 1000) && areE x.ev) := by
  unfold okMc okSn areE
  simp only [Bool.and_assoc]
set_option maxRecDepth 100000 in
set_option maxHeartbeats 4000000 in
theorem isrightM_impl {p : Nat → Bool} (x : Mc) (v : Value) (w : World) (h : MacR p w v x) (hf : FitMc x) (hP : PBit w) : Calls Tryd.prog 62 #[v] w fun r w' => r = .returned (.bool (okMc x)) ∧ Below w.heap.size w w' := by
  obtain ⟨vr, vm, vd, ve, rfl, hm, hd, he⟩ := h
  have hL := MLk.start hm (RowR.mono hd (veil_le w p)) he.unveil 41
  rw [okMc_eq]
  have hn1 : Hid (okSn ⟨x.c, x.m, x.p⟩ = false → _) := fun h => show (okSn ⟨x.c, x.m, x.p⟩ && okS x.g && x.d.ok && inB x.t 0 639 && inB x.fr 0 1000000 && inB x.pt 0 15 && decide (x.sv.size ≤ 1000) && areE x.ev) = false by rw [h]; rfl
  have hn2 : Hid (okS x.g = false → _) := fun h => show (okSn ⟨x.c, x.m, x.p⟩ && okS x.g && x.d.ok && inB x.t 0 639 && inB x.fr 0 1000000 && inB x.pt 0 15 && decide (x.sv.size ≤ 1000) && areE x.ev) = false by rw [h, Bool.and_false]; rfl
  have hn3 : Hid (x.d.ok = false → _) := fun h => show (okSn ⟨x.c, x.m, x.p⟩ && okS x.g && x.d.ok && inB x.t 0 639 && inB x.fr 0 1000000 && inB x.pt 0 15 && decide (x.sv.size ≤ 1000) && areE x.ev) = false by rw [h, Bool.and_false]; rfl
  have hn4 : Hid (inB x.t 0 639 = false → _) := fun h => show (okSn ⟨x.c, x.m, x.p⟩ && okS x.g && x.d.ok && inB x.t 0 639 && inB x.fr 0 1000000 && inB x.pt 0 15 && decide (x.sv.size ≤ 1000) && areE x.ev) = false by rw [h, Bool.and_false]; rfl
  have hn5 : Hid (inB x.fr 0 1000000 = false → _) := fun h => show (okSn ⟨x.c, x.m, x.p⟩ && okS x.g && x.d.ok && inB x.t 0 639 && inB x.fr 0 1000000 && inB x.pt 0 15 && decide (x.sv.size ≤ 1000) && areE x.ev) = false by rw [h, Bool.and_false]; rfl
  have hn6 : Hid (inB x.pt 0 15 = false → _) := fun h => show (okSn ⟨x.c, x.m, x.p⟩ && okS x.g && x.d.ok && inB x.t 0 639 && inB x.fr 0 1000000 && inB x.pt 0 15 && decide (x.sv.size ≤ 1000) && areE x.ev) = false by rw [h, Bool.and_false]; rfl
  have hn7 : Hid (decide (x.sv.size ≤ 1000) = false → _) := fun h => show (okSn ⟨x.c, x.m, x.p⟩ && okS x.g && x.d.ok && inB x.t 0 639 && inB x.fr 0 1000000 && inB x.pt 0 15 && decide (x.sv.size ≤ 1000) && areE x.ev) = false by rw [h, Bool.and_false]; rfl
  have hy : Hid (okSn ⟨x.c, x.m, x.p⟩ = true → okS x.g = true → x.d.ok = true → inB x.t 0 639 = true → inB x.fr 0 1000000 = true → inB x.pt 0 15 = true → decide (x.sv.size ≤ 1000) = true → _) := fun h1 h2 h3 h4 h5 h6 h7 => show (okSn ⟨x.c, x.m, x.p⟩ && okS x.g && x.d.ok && inB x.t 0 639 && inB x.fr 0 1000000 && inB x.pt 0 15 && decide (x.sv.size ≤ 1000) && areE x.ev) = areE x.ev by rw [h1, h2, h3, h4, h5, h6, h7]; rfl
  generalize (okSn ⟨x.c, x.m, x.p⟩ && okS x.g && x.d.ok && inB x.t 0 639 && inB x.fr 0 1000000 && inB x.pt 0 15 && decide (x.sv.size ≤ 1000) && areE x.ev) = Q at *
  obtain ⟨a1, c1, rfl, _⟩ := id hd
  obtain ⟨a2, c2, rfl, _⟩ := id he
  obtain ⟨ur, um, e, o1, o2⟩ := mem_one hm
  simp only [memV, Value.agg.injEq, Array.mk.injEq, List.cons.injEq] at e
  obtain ⟨rfl, rfl, _⟩ := e
  replace hL := hid hL
  replace hf := hid hf
  replace hP := hid hP
  clear hm hd he
  go_enter Tryd.func62, Tryd.ntmps62
  go_upto_region 1 with fail
  obtain ⟨V, hV⟩ : ∃ V, w.alloc (Obj.cells (mcA x vr vm (.slice a1 x.d.pulses.length c1) (.slice a2 x.ev.length c2)) 41) = V := ⟨_, rfl⟩
  rw [hV] at hL ⊢
  clear hV
  have x1 := hid (mc_all hL.out.q)
  go_wp2_with (refine wpList_load_mid rfl 41 _ rfl w.heap.size 0 rfl (mcA x vr vm (.slice a1 x.d.pulses.length c1) (.slice a2 x.ev.length c2)).toList _ x1.out Tryd.underlying41 rfl (szMc _ _ _ _ _) ?_)
  refine (snapM_impl x vr vm _ _ _ o1 o2).mono ?_
  rintro r w1 ⟨rfl, hb⟩
  have hL := hid (hL.out.below hb)
  clear hb x1
  go_wp2_with fail
  refine (isright_impl _ ⟨x.c, x.m, x.p⟩ _ ⟨vr, vm, rfl, hL.out.m⟩ hf.out.m.1 hf.out.m.2.1 hf.out.m.2.2).mono ?_
  rintro r w1 ⟨rfl, hb⟩
  have hL := hid (hL.out.below hb)
  clear hb
  cases k1 : okSn ⟨x.c, x.m, x.p⟩
  · clear hy
    go_wp2_with fail
    go_ret
    exact ⟨ret_bool (hn1.out k1).symm, hL.out.bel⟩
  have x1 := hid (mc_sg hL.out.q)
  go_wp2_with (first | (guard_target = wpList _ _ _ (Oper.mk _ (Op.load 36 _) _ _ _ (some _) :: _) _ _; refine ld_wantM 36 _ rfl w.heap.size 31 rfl (by kernel_rfl) (sgA x.g).toList _ x1.out Tryd.underlying36 rfl (szSg x.g) ?_; simp only [Act.put, List.setIfInBounds_toArray, List.set_cons_zero, List.set_cons_succ]) | (guard_target = wpList _ _ _ (Oper.mk _ _ _ _ _ (some _) :: _) _ _; refine wpList_step (fun _ _ => ?_); rw [if_pos (by kernel_rfl)]; go_simp))
  refine (sok_impl x.g _ (hP.out.below hL.out.bel)).mono ?_
  rintro r w1 ⟨rfl, hb⟩
  have hL := hid (hL.out.below hb)
  clear hb x1
  cases k2 : okS x.g
  · clear hy
    go_wp2_with fail
    go_ret
    exact ⟨ret_bool (hn2.out k2).symm, hL.out.bel⟩
  go_wp2_with (first | (guard_target = wpList _ _ _ (Oper.mk _ _ _ _ _ (some _) :: _) _ _; refine wpList_step (fun _ _ => ?_); rw [if_pos (by kernel_rfl)]; go_simp))
  refine (right_implM w.heap.size a1 c1 x.d _ (dk8_of hL.out.q) hL.out.d).mono ?_
  rintro r w1 ⟨rfl, n, rfl⟩
  have hL := hid (hL.out.below (Below.drewN _ n _))
  cases k3 : x.d.ok
  · clear hy
    go_wp2_with fail
    go_ret
    exact ⟨ret_bool (hn3.out k3).symm, hL.out.bel⟩
  have x1 : _ = some (Value.int .i64 x.t) := hL.out.q.cell 53
  go_wp2_with (first | (guard_target = wpList _ _ _ (Oper.mk _ _ _ _ _ (some _) :: _) _ _; refine wpList_step (fun _ _ => ?_); rw [if_pos (by kernel_rfl)]; go_simp))
  refine (frame_impl x.t _).mono ?_
  rintro r w' ⟨rfl, rfl⟩
  clear x1
  cases k4 : inB x.t 0 639
  · clear hy
    go_wp2_with fail
    go_ret
    exact ⟨ret_bool (hn4.out k4).symm, hL.out.bel⟩
  have x1 : _ = some (Value.int .i64 x.fr) := hL.out.q.cell 54
  go_wp2_with (first | (guard_target = wpList _ _ _ (Oper.mk _ _ _ _ _ (some _) :: _) _ _; refine wpList_step (fun _ _ => ?_); rw [if_pos (by kernel_rfl)]; go_simp))
  refine (wi_impl x.fr 0 1000000 _).mono ?_
  rintro r w' ⟨rfl, rfl⟩
  clear x1
  cases k5 : inB x.fr 0 1000000
  · clear hy
    go_wp2_with fail
    go_ret
    exact ⟨ret_bool (hn5.out k5).symm, hL.out.bel⟩
  have x1 : _ = some (Value.int .i64 x.pt) := hL.out.q.cell 55
  go_wp2_with (first | (guard_target = wpList _ _ _ (Oper.mk _ _ _ _ _ (some _) :: _) _ _; refine wpList_step (fun _ _ => ?_); rw [if_pos (by kernel_rfl)]; go_simp))
  refine (wi_impl x.pt 0 15 _).mono ?_
  rintro r w' ⟨rfl, rfl⟩
  clear x1
  cases k6 : inB x.pt 0 15
  · clear hy
    go_wp2_with fail
    go_ret
    exact ⟨ret_bool (hn6.out k6).symm, hL.out.bel⟩
  have x1 : _ = some (Value.string x.sv) := hL.out.q.cell 56
  have x2 : _ = some (Value.slice a2 x.ev.length c2) := hL.out.q.cell 57
  by_cases k7 : x.sv.size ≤ 1000
  · have t9 : decide ((x.sv.size : Int) ≤ 1000) = true := decide_eq_true (by omega)
    have t9n : decide (x.sv.size ≤ 1000) = true := decide_eq_true k7
    have hfin := hid (hy.out k1 k2 k3 k4 k5 k6 t9n)
    replace k7 := hid k7
    go_wp2_with (first | (guard_target = wpList _ _ _ (Oper.mk _ _ _ _ _ (some _) :: _) _ _; refine wpList_step (fun _ _ => ?_); rw [if_pos (by rfl)]; go_simp))
    refine (aree_impl (.slice a2 x.ev.length c2) x.ev _ hL.out.e hf.out.e).mono ?_
    rintro r w1 ⟨rfl, hb⟩
    have hL := hid (hL.out.below hb)
    clear hb x1 x2 hy
    go_wp2_with fail
    go_ret
    exact ⟨ret_bool hfin.out.symm, hL.out.bel⟩
  · have t9 : decide ((x.sv.size : Int) ≤ 1000) = false := decide_eq_false (by omega)
    have t9n : decide (x.sv.size ≤ 1000) = false := decide_eq_false k7
    have hfin := hid (hn7.out t9n)
    clear hy
    go_wp2_with (first | (guard_target = wpList _ _ _ (Oper.mk _ _ _ _ _ (some _) :: _) _ _; refine wpList_step (fun _ _ => ?_); rw [if_pos (by rfl)]; go_simp))
    go_ret
    exact ⟨ret_bool hfin.out.symm, hL.out.bel⟩
end Go.Proofs.YtifcdojaocndhaaDoor

/- Registers of the sound chip that are chosen, written and read: the program. -/
namespace Go.Proofs.YtifcdojaocndhaaDoor
open Go.ChangeShapes Go.WideShapes Go.ChangeAt Go.RowKit
set_option linter.unusedVariables false
set_option linter.unusedSimpArgs false

set_option maxRecDepth 100000 in
set_option maxHeartbeats 4000000 in
theorem rreg_impl (c : Sg) (w : World) (hP : PBit w) : Calls Tryd.prog 124 #[sgV c] w fun e w' => e = .returned (.tuple #[.int .i64 (readS2 c).1, .int .i64 (readS2 c).2]) ∧ Below w.heap.size w w' := by
  have q := hid (Blk.new w (sgA c) 36)
  have hB := hid ((Below.refl w.heap.size w).alloc (Nat.le_refl _) (.cells (sgA c) 36))
  have hrg := hid (sg_range q.out)
  have hP1 := hid (hP.alloc (.cells (sgA c) 36))
  clear hP
  cases hc : okS c
  · have e : readS2 c = (0, 1) := by unfold readS2; rw [hc]; rfl
    rw [e]
    clear e
    go_enter Tryd.func124, Tryd.ntmps124
    go_upto_region 1 with fail
    obtain ⟨V, hV⟩ : ∃ V, w.alloc (.cells (sgA c) 36) = V := ⟨_, rfl⟩
    rw [hV] at q hB hrg hP1 ⊢
    clear hV
    go_wp2_with (refine wpList_load_mid rfl 36 _ rfl w.heap.size 0 rfl (sgA c).toList _ hrg.out Tryd.underlying36 rfl (sg_size c) ?_)
    refine (sok_impl c _ hP1.out).mono ?_
    rintro e w1 ⟨rfl, hb⟩
    rw [hc]
    have hB1 := hid (new_trans hB.out hb)
    skip
    clear hb hB q hrg hP1
    go_wp2_with fail
    go_ret2
    exact ⟨rfl, hB1.out⟩
  · obtain ⟨s, hs, hs8⟩ := okS_sel hc
    have e : readS2 c = (c.reg s, 0) := by unfold readS2; rw [hc, hs]; rfl
    rw [e]
    have h8 : (sgA c)[8]? = some (.int .i64 (s : Int)) := by rw [← hs]; rfl
    have hat := sgA_at c s hs8
    clear e
    replace hs := hid hs
    generalize c.reg s = y at *
    go_enter Tryd.func124, Tryd.ntmps124
    go_upto_region 1 with fail
    obtain ⟨V, hV⟩ : ∃ V, w.alloc (.cells (sgA c) 36) = V := ⟨_, rfl⟩
    rw [hV] at q hB hrg hP1 ⊢
    clear hV
    go_wp2_with (refine wpList_load_mid rfl 36 _ rfl w.heap.size 0 rfl (sgA c).toList _ hrg.out Tryd.underlying36 rfl (sg_size c) ?_)
    refine (sok_impl c _ hP1.out).mono ?_
    rintro e w1 ⟨rfl, hb⟩
    rw [hc]
    have hB1 := hid (new_trans hB.out hb)
    have q1 := q.out.below hb q.out.lt
    have y8 := q1.cell 8
    rw [h8] at y8
    have ys := q1.cell s
    rw [hat] at ys
    clear q1 h8 hat
    clear hb hB q hrg hP1
    go_wp2_with fail
    go_ret2
    exact ⟨rfl, hB1.out⟩
end Go.Proofs.YtifcdojaocndhaaDoor
