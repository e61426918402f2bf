/- Two machines looked at, one beside the other; what is said of their being the same. -/
import Derived.Test.YtifcdojaocndhaaDoorS25
import Derived.Test.YtifcdojaocndhaaDoorWfas
import Derived.Test.YtifcdojaocndhaaDoorMls
import Derived.Test.YtifcdojaocndhaaDoorDvs
import Derived.Test.YtifcdojaocndhaaDoorWads
import Derived.Test.YtifcdojaocndhaaDoorWaqs
namespace Go.Proofs.YtifcdojaocndhaaDoor
open Go.ChangeShapes Go.WideShapes Go.ChangeAt Go.RowKit
set_option linter.unusedVariables false
set_option linter.unusedSimpArgs false

/-- two machines in boxes of their own -/
structure ML2 (w W : World) (b c : Nat) (x y : Mc) (vr vm vd ve ur um ud ue : Value) : Prop where
  q1 : Blk W b (mcA x vr vm vd ve)
  m1 : MemR W (memV vr vm x.m.page x.m.screen x.m.locked) x.m
  d1 : RowR W vd x.d.pulses
  e1 : EvR W ve x.ev
  q2 : Blk W c (mcA y ur um ud ue)
  m2 : MemR W (memV ur um y.m.page y.m.screen y.m.locked) y.m
  d2 : RowR W ud y.d.pulses
  e2 : EvR W ue y.ev
  bel : Below w.heap.size w W
theorem ML2.below {w W W' : World} {b c : Nat} {x y : Mc} {vr vm vd ve ur um ud ue : Value} (h : ML2 w W b c x y vr vm vd ve ur um ud ue) (hb : Below W.heap.size W W') : ML2 w W' b c x y vr vm vd ve ur um ud ue :=
  ⟨h.q1.below hb h.q1.lt, h.m1.below hb, h.d1.below hb, h.e1.below hb, h.q2.below hb h.q2.lt, h.m2.below hb, h.d2.below hb, h.e2.below hb, new_trans h.bel hb⟩
theorem ML2.drew {w W : World} {b c : Nat} {x y : Mc} {vr vm vd ve ur um ud ue : Value} (h : ML2 w W b c x y vr vm vd ve ur um ud ue) : ML2 w W.drew b c x y vr vm vd ve ur um ud ue := h.below ⟨rfl, rfl, rfl, Nat.le_refl _, fun _ _ => rfl⟩
theorem ML2.mac1 {w W : World} {b c : Nat} {x y : Mc} {vr vm vd ve ur um ud ue : Value} (h : ML2 w W b c x y vr vm vd ve ur um ud ue) : MacR (fun _ => false) W (mcV x vr vm vd ve) x := ⟨vr, vm, vd, ve, rfl, h.m1, h.d1.mono (fun b i u hu => by rw [veil_cell]; exact hu), h.e1.mono (fun b i u hu => by rw [veil_cell]; exact hu)⟩
theorem ML2.mac2 {w W : World} {b c : Nat} {x y : Mc} {vr vm vd ve ur um ud ue : Value} (h : ML2 w W b c x y vr vm vd ve ur um ud ue) : MacR (fun _ => false) W (mcV y ur um ud ue) y := ⟨ur, um, ud, ue, rfl, h.m2, h.d2.mono (fun b i u hu => by rw [veil_cell]; exact hu), h.e2.mono (fun b i u hu => by rw [veil_cell]; exact hu)⟩
theorem ML2.start {p q : Nat → Bool} {w : World} {x y : Mc} {v u : Value} (h : MacR p w v x) (h' : MacR q w u y) (t : TypeId) : ∃ vr vm vd ve ur um ud ue, v = mcV x vr vm vd ve ∧ u = mcV y ur um ud ue ∧ ML2 w ((w.alloc (.cells (mcA x vr vm vd ve) t)).alloc (.cells (mcA y ur um ud ue) t)) w.heap.size (w.heap.size + 1) x y vr vm vd ve ur um ud ue := by
  obtain ⟨vr, vm, vd, ve, rfl, hm, hd, he⟩ := h
  obtain ⟨ur, um, ud, ue, rfl, hm', hd', he'⟩ := h'
  have hB : Below w.heap.size w ((w.alloc (.cells (mcA x vr vm vd ve) t)).alloc (.cells (mcA y ur um ud ue) t)) := ((Below.refl _ _).alloc (Nat.le_refl _) _).alloc (by simp) _
  have q2 := Blk.new (w.alloc (.cells (mcA x vr vm vd ve) t)) (mcA y ur um ud ue) t
  rw [World.size_alloc] at q2
  exact ⟨_, _, _, _, _, _, _, _, rfl, rfl, (Blk.new w _ t).alloc _, hm.below hB, (RowR.mono hd (veil_le w p)).below hB, (he.unveil).below hB, q2, hm'.below hB, (RowR.mono hd' (veil_le w q)).below hB, (he'.unveil).below hB, hB⟩
def evsAll (l l' : List Evt) : Bool := (List.range l.length).all fun i => sameEv (l.getD i e0) (l'.getD i e0)
theorem evsAll_no {l l' : List Evt} {i : Nat} (hi : i < l.length) (h : sameEv (l.getD i e0) (l'.getD i e0) = false) : evsAll l l' = false := by
  unfold evsAll
  rw [List.all_eq_false]
  exact ⟨i, List.mem_range.2 hi, by rw [h]; decide⟩
theorem evsAll_yes {l l' : List Evt} (h : ∀ i, i < l.length → sameEv (l.getD i e0) (l'.getD i e0) = true) : evsAll l l' = true := by
  unfold evsAll
  rw [List.all_eq_true]
  exact fun i hi => h i (List.mem_range.1 hi)
/-- two machines are the same -/
def sameMc (x y : Mc) : Bool := okMc x && okMc y && sameCu x.c y.c && sameM x.m y.m && samePo x.p y.p && sameSg x.g y.g && x.d.same y.d && (x.t == y.t) && (x.fr == y.fr) && (x.pt == y.pt) && (x.sv.toList == y.sv.toList) && decide (x.ev.length = y.ev.length) && evsAll x.ev y.ev
theorem smno_1 {x y : Mc} (h : okMc x = false) : sameMc x y = false := by simp only [sameMc, h, Bool.and_false, Bool.false_and]
theorem smno_2 {x y : Mc} (h : okMc y = false) : sameMc x y = false := by simp only [sameMc, h, Bool.and_false, Bool.false_and]
theorem smno_3 {x y : Mc} (h : sameCu x.c y.c = false) : sameMc x y = false := by simp only [sameMc, h, Bool.and_false, Bool.false_and]
theorem smno_4 {x y : Mc} (h : sameM x.m y.m = false) : sameMc x y = false := by simp only [sameMc, h, Bool.and_false, Bool.false_and]
theorem smno_5 {x y : Mc} (h : samePo x.p y.p = false) : sameMc x y = false := by simp only [sameMc, h, Bool.and_false, Bool.false_and]
theorem smno_6 {x y : Mc} (h : sameSg x.g y.g = false) : sameMc x y = false := by simp only [sameMc, h, Bool.and_false, Bool.false_and]
theorem smno_7 {x y : Mc} (h : x.d.same y.d = false) : sameMc x y = false := by simp only [sameMc, h, Bool.and_false, Bool.false_and]
theorem smno_8 {x y : Mc} (h : (x.t == y.t) = false) : sameMc x y = false := by simp only [sameMc, h, Bool.and_false, Bool.false_and]
theorem smno_9 {x y : Mc} (h : (x.fr == y.fr) = false) : sameMc x y = false := by simp only [sameMc, h, Bool.and_false, Bool.false_and]
theorem smno_10 {x y : Mc} (h : (x.pt == y.pt) = false) : sameMc x y = false := by simp only [sameMc, h, Bool.and_false, Bool.false_and]
theorem smno_11 {x y : Mc} (h : (x.sv.toList == y.sv.toList) = false) : sameMc x y = false := by simp only [sameMc, h, Bool.and_false, Bool.false_and]
theorem smno_12 {x y : Mc} (h : decide (x.ev.length = y.ev.length) = false) : sameMc x y = false := by simp only [sameMc, h, Bool.and_false, Bool.false_and]
theorem smyes {x y : Mc} (h1 : okMc x = true) (h2 : okMc y = true) (h3 : sameCu x.c y.c = true) (h4 : sameM x.m y.m = true) (h5 : samePo x.p y.p = true) (h6 : sameSg x.g y.g = true) (h7 : x.d.same y.d = true) (h8 : (x.t == y.t) = true) (h9 : (x.fr == y.fr) = true) (h10 : (x.pt == y.pt) = true) (h11 : (x.sv.toList == y.sv.toList) = true) (h12 : decide (x.ev.length = y.ev.length) = true) : sameMc x y = evsAll x.ev y.ev := by simp only [sameMc, h1, h2, h3, h4, h5, h6, h7, h8, h9, h10, h11, h12, Bool.true_and]
theorem sameMc_self {x : Mc} (h : okMc x = true) (hm : sameM x.m x.m = true) (hd : x.d.same x.d = true) : sameMc x x = true := by
  rw [smyes h h (sameCu_self _) hm (samePo_self _) (sameSg_self _) hd (by simp) (by simp) (by simp) (by simp) (by simp)]
  exact evsAll_yes fun i _ => sameEv_self _
end Go.Proofs.YtifcdojaocndhaaDoor

/- SameMachine: the specification. -/
namespace Go.Proofs.YtifcdojaocndhaaDoor
open Go.ChangeShapes Go.WideShapes Go.ChangeAt Go.RowKit
set_option linter.unusedVariables false
set_option linter.unusedSimpArgs false

structure SmNo (x y : Mc) (Q : Bool) : Prop where
  h1 : okMc x = false → Q = false
  h2 : okMc y = false → Q = false
  h3 : sameCu x.c y.c = false → Q = false
  h4 : sameM x.m y.m = false → Q = false
  h5 : samePo x.p y.p = false → Q = false
  h6 : sameSg x.g y.g = false → Q = false
  h7 : x.d.same y.d = false → Q = false
  h8 : (x.t == y.t) = false → Q = false
  h9 : (x.fr == y.fr) = false → Q = false
  h10 : (x.pt == y.pt) = false → Q = false
  h11 : (x.sv.toList == y.sv.toList) = false → Q = false
  h12 : decide (x.ev.length = y.ev.length) = false → Q = false
  h13 : ∀ i, i < x.ev.length → sameEv (x.ev.getD i e0) (y.ev.getD i e0) = false → Q = false
theorem smNo (x y : Mc) : SmNo x y (sameMc x y) := ⟨smno_1, smno_2, smno_3, smno_4, smno_5, smno_6, smno_7, smno_8, smno_9, smno_10, smno_11, smno_12, fun i hi h => by
  have := evsAll_no hi h
  unfold sameMc
  rw [this, Bool.and_false]⟩
set_option maxRecDepth 100000 in
set_option maxHeartbeats 8000000 in
theorem lsame_spec {p q : Nat → Bool} (x y : Mc) (v u : Value) (w : World) (h : MacR p w v x) (h' : MacR q w u y) (hf : FitMc x) (hf' : FitMc y) : Calls Tryd.prog 25 #[v, u] w fun r w' => r = .returned (.bool (sameMc x y)) ∧ Below w.heap.size w w' := by
  obtain ⟨vr, vm, vd, ve, ur, um, ud, ue, rfl, rfl, hL⟩ := ML2.start h h' 41
  have hn := hid (smNo x y)
  have hy := hid (fun a1 a2 a3 a4 a5 a6 a7 a8 a9 a10 a11 a12 => smyes (x := x) (y := y) a1 a2 a3 a4 a5 a6 a7 a8 a9 a10 a11 a12)
  have hE := hid (fun h => evsAll_yes (l := x.ev) (l' := y.ev) h)
  generalize evsAll x.ev y.ev = Q0 at *
  generalize sameMc x y = Q at *
  obtain ⟨a1, c1, rfl, _⟩ := id hL.d1
  obtain ⟨a2, c2, rfl, _⟩ := id hL.e1
  obtain ⟨a3, c3, rfl, _⟩ := id hL.d2
  obtain ⟨a4, c4, rfl, _⟩ := id hL.e2
  replace hL := hid hL
  replace hf := hid hf
  replace hf' := hid hf'
  clear h h'
  go_enter Tryd.func25, Tryd.ntmps25
  go_upto_region 1 with fail
  obtain ⟨V, hV⟩ : ∃ V, (w.alloc (Obj.cells (mcA x vr vm (.slice a1 x.d.pulses.length c1) (.slice a2 x.ev.length c2)) 41)).alloc (Obj.cells (mcA y ur um (.slice a3 y.d.pulses.length c3) (.slice a4 y.ev.length c4)) 41) = V := ⟨_, rfl⟩
  rw [hV] at hL ⊢
  clear hV
  simp only [List.append_eq, List.cons_append, List.nil_append]
  have xM1 := hid (mc_all hL.out.q1)
  go_wp2_with (refine wpList_load_mid rfl 41 _ rfl w.heap.size 0 rfl (mcA x vr vm (.slice a1 x.d.pulses.length c1) (.slice a2 x.ev.length c2)).toList _ xM1.out Tryd.underlying41 rfl (szMc _ _ _ _ _) ?_)
  refine (lmok_spec x _ _ hL.out.mac1 hf.out).mono ?_
  rintro r w1 ⟨rfl, hb⟩
  have hL := hid (hL.out.below hb)
  clear hb xM1
  cases k1 : okMc x
  · clear hy
    go_wp2_with fail
    go_ret
    exact ⟨ret_bool (hn.out.h1 k1).symm, hL.out.bel⟩
  have xM2 := hid (mc_all hL.out.q2)
  go_wp2_with (guard_target = wpList _ _ _ (Oper.mk _ (Op.load 41 _) _ _ _ (some _) :: _) _ _; refine ld_wantM 41 _ rfl (w.heap.size + 1) 0 rfl (by kernel_rfl) (mcA y ur um (.slice a3 y.d.pulses.length c3) (.slice a4 y.ev.length c4)).toList _ xM2.out Tryd.underlying41 rfl (szMc _ _ _ _ _) ?_; simp only [Act.put, List.setIfInBounds_toArray, List.set_cons_zero, List.set_cons_succ])
  refine (lmok_spec y _ _ hL.out.mac2 hf'.out).mono ?_
  rintro r w1 ⟨rfl, hb⟩
  have hL := hid (hL.out.below hb)
  clear hb xM2
  cases k2 : okMc y
  · clear hy
    go_wp2_with fail
    go_ret
    exact ⟨ret_bool (hn.out.h2 k2).symm, hL.out.bel⟩
  have xC1 := hid (mc_cpu hL.out.q1)
  have xC2 := hid (mc_cpu hL.out.q2)
  have hq3 := eqCuX x.c y.c
  cases k3 : sameCu x.c y.c
  · rw [k3] at hq3
    clear hy
    go_wp2_with (first | (guard_target = wpList _ _ _ (Oper.mk _ (Op.load 26 _) _ _ _ (some _) :: _) _ _; refine ld_wantM 26 _ rfl w.heap.size 0 rfl (by kernel_rfl) (cuA x.c).toList _ xC1.out Tryd.underlying26 rfl (szCu _) ?_; simp only [Act.put, List.setIfInBounds_toArray, List.set_cons_zero, List.set_cons_succ]) | (guard_target = wpList _ _ _ (Oper.mk _ (Op.load 26 _) _ _ _ (some _) :: _) _ _; refine ld_wantM 26 _ rfl (w.heap.size + 1) 0 rfl (by kernel_rfl) (cuA y.c).toList _ xC2.out Tryd.underlying26 rfl (szCu _) ?_; simp only [Act.put, List.setIfInBounds_toArray, List.set_cons_zero, List.set_cons_succ]))
    go_ret
    exact ⟨ret_bool (hn.out.h3 k3).symm, hL.out.bel⟩
  rw [k3] at hq3
  have xE1 := hid (mc_mem hL.out.q1)
  have xE2 := hid (mc_mem hL.out.q2)
  go_wp2_with (first | (guard_target = wpList _ _ _ (Oper.mk _ (Op.load 26 _) _ _ _ (some _) :: _) _ _; refine ld_wantM 26 _ rfl w.heap.size 0 rfl (by kernel_rfl) (cuA x.c).toList _ xC1.out Tryd.underlying26 rfl (szCu _) ?_; simp only [Act.put, List.setIfInBounds_toArray, List.set_cons_zero, List.set_cons_succ]) | (guard_target = wpList _ _ _ (Oper.mk _ (Op.load 26 _) _ _ _ (some _) :: _) _ _; refine ld_wantM 26 _ rfl (w.heap.size + 1) 0 rfl (by kernel_rfl) (cuA y.c).toList _ xC2.out Tryd.underlying26 rfl (szCu _) ?_; simp only [Act.put, List.setIfInBounds_toArray, List.set_cons_zero, List.set_cons_succ]) | (guard_target = wpList _ _ _ (Oper.mk _ (Op.load 30 _) _ _ _ (some _) :: _) _ _; refine ld_wantM 30 _ rfl w.heap.size 14 rfl (by kernel_rfl) (mcC vr vm x.m) _ xE1.out Tryd.underlying30 rfl (szMe _ _ _) ?_; simp only [Act.put, List.setIfInBounds_toArray, List.set_cons_zero, List.set_cons_succ]) | (guard_target = wpList _ _ _ (Oper.mk _ (Op.load 30 _) _ _ _ (some _) :: _) _ _; refine ld_wantM 30 _ rfl (w.heap.size + 1) 14 rfl (by kernel_rfl) (mcC ur um y.m) _ xE2.out Tryd.underlying30 rfl (szMe _ _ _) ?_; simp only [Act.put, List.setIfInBounds_toArray, List.set_cons_zero, List.set_cons_succ]))
  refine (same_spec _ _ x.m y.m _ hL.out.m1 hL.out.m2 hf.out.m hf'.out.m).mono ?_
  rintro r w1 ⟨rfl, hb⟩
  have hL := hid (hL.out.below hb)
  clear hb xC1 xC2 xE1 xE2 hq3
  cases k4 : sameM x.m y.m
  · clear hy
    go_wp2_with fail
    go_ret
    exact ⟨ret_bool (hn.out.h4 k4).symm, hL.out.bel⟩
  have xP1 := hid (mc_po hL.out.q1)
  have xP2 := hid (mc_po hL.out.q2)
  have hq5 := eqPoX x.p y.p
  cases k5 : samePo x.p y.p
  · rw [k5] at hq5
    clear hy
    go_wp2_with (first | (guard_target = wpList _ _ _ (Oper.mk _ (Op.load 32 _) _ _ _ (some _) :: _) _ _; refine ld_wantM 32 _ rfl w.heap.size 19 rfl (by kernel_rfl) (poA x.p).toList _ xP1.out Tryd.underlying32 rfl (szPo _) ?_; simp only [Act.put, List.setIfInBounds_toArray, List.set_cons_zero, List.set_cons_succ]) | (guard_target = wpList _ _ _ (Oper.mk _ (Op.load 32 _) _ _ _ (some _) :: _) _ _; refine ld_wantM 32 _ rfl (w.heap.size + 1) 19 rfl (by kernel_rfl) (poA y.p).toList _ xP2.out Tryd.underlying32 rfl (szPo _) ?_; simp only [Act.put, List.setIfInBounds_toArray, List.set_cons_zero, List.set_cons_succ]))
    go_ret
    exact ⟨ret_bool (hn.out.h5 k5).symm, hL.out.bel⟩
  rw [k5] at hq5
  have xG1 := hid (mc_sg hL.out.q1)
  have xG2 := hid (mc_sg hL.out.q2)
  have hq6 := eqSgX x.g y.g
  cases k6 : sameSg x.g y.g
  · rw [k6] at hq6
    clear hy
    go_wp2_with (first | (guard_target = wpList _ _ _ (Oper.mk _ (Op.load 32 _) _ _ _ (some _) :: _) _ _; refine ld_wantM 32 _ rfl w.heap.size 19 rfl (by kernel_rfl) (poA x.p).toList _ xP1.out Tryd.underlying32 rfl (szPo _) ?_; simp only [Act.put, List.setIfInBounds_toArray, List.set_cons_zero, List.set_cons_succ]) | (guard_target = wpList _ _ _ (Oper.mk _ (Op.load 32 _) _ _ _ (some _) :: _) _ _; refine ld_wantM 32 _ rfl (w.heap.size + 1) 19 rfl (by kernel_rfl) (poA y.p).toList _ xP2.out Tryd.underlying32 rfl (szPo _) ?_; simp only [Act.put, List.setIfInBounds_toArray, List.set_cons_zero, List.set_cons_succ]) | (guard_target = wpList _ _ _ (Oper.mk _ (Op.load 36 _) _ _ _ (some _) :: _) _ _; refine ld_wantM 36 _ rfl w.heap.size 31 rfl (by kernel_rfl) (sgA x.g).toList _ xG1.out Tryd.underlying36 rfl (szSg _) ?_; simp only [Act.put, List.setIfInBounds_toArray, List.set_cons_zero, List.set_cons_succ]) | (guard_target = wpList _ _ _ (Oper.mk _ (Op.load 36 _) _ _ _ (some _) :: _) _ _; refine ld_wantM 36 _ rfl (w.heap.size + 1) 31 rfl (by kernel_rfl) (sgA y.g).toList _ xG2.out Tryd.underlying36 rfl (szSg _) ?_; simp only [Act.put, List.setIfInBounds_toArray, List.set_cons_zero, List.set_cons_succ]))
    go_ret
    exact ⟨ret_bool (hn.out.h6 k6).symm, hL.out.bel⟩
  rw [k6] at hq6
  have xD1 := hid (mc_dk hL.out.q1)
  have xD2 := hid (mc_dk hL.out.q2)
  go_wp2_with (first | (guard_target = wpList _ _ _ (Oper.mk _ (Op.load 32 _) _ _ _ (some _) :: _) _ _; refine ld_wantM 32 _ rfl w.heap.size 19 rfl (by kernel_rfl) (poA x.p).toList _ xP1.out Tryd.underlying32 rfl (szPo _) ?_; simp only [Act.put, List.setIfInBounds_toArray, List.set_cons_zero, List.set_cons_succ]) | (guard_target = wpList _ _ _ (Oper.mk _ (Op.load 32 _) _ _ _ (some _) :: _) _ _; refine ld_wantM 32 _ rfl (w.heap.size + 1) 19 rfl (by kernel_rfl) (poA y.p).toList _ xP2.out Tryd.underlying32 rfl (szPo _) ?_; simp only [Act.put, List.setIfInBounds_toArray, List.set_cons_zero, List.set_cons_succ]) | (guard_target = wpList _ _ _ (Oper.mk _ (Op.load 36 _) _ _ _ (some _) :: _) _ _; refine ld_wantM 36 _ rfl w.heap.size 31 rfl (by kernel_rfl) (sgA x.g).toList _ xG1.out Tryd.underlying36 rfl (szSg _) ?_; simp only [Act.put, List.setIfInBounds_toArray, List.set_cons_zero, List.set_cons_succ]) | (guard_target = wpList _ _ _ (Oper.mk _ (Op.load 36 _) _ _ _ (some _) :: _) _ _; refine ld_wantM 36 _ rfl (w.heap.size + 1) 31 rfl (by kernel_rfl) (sgA y.g).toList _ xG2.out Tryd.underlying36 rfl (szSg _) ?_; simp only [Act.put, List.setIfInBounds_toArray, List.set_cons_zero, List.set_cons_succ]) | (guard_target = wpList _ _ _ (Oper.mk _ (Op.load 38 _) _ _ _ (some _) :: _) _ _; refine ld_wantM 38 _ rfl w.heap.size 48 rfl (by kernel_rfl) (dkL (.slice a1 x.d.pulses.length c1) x.d) _ xD1.out Tryd.underlying38 rfl (szDk _ _) ?_; simp only [Act.put, List.setIfInBounds_toArray, List.set_cons_zero, List.set_cons_succ]) | (guard_target = wpList _ _ _ (Oper.mk _ (Op.load 38 _) _ _ _ (some _) :: _) _ _; refine ld_wantM 38 _ rfl (w.heap.size + 1) 48 rfl (by kernel_rfl) (dkL (.slice a3 y.d.pulses.length c3) y.d) _ xD2.out Tryd.underlying38 rfl (szDk _ _) ?_; simp only [Act.put, List.setIfInBounds_toArray, List.set_cons_zero, List.set_cons_succ]))
  refine (samed_spec a1 a3 c1 c3 x.d y.d _ hL.out.d1 hL.out.d2 hf.out.d hf'.out.d).mono ?_
  rintro r w1 ⟨rfl, hb⟩
  have hL := hid (hL.out.below hb)
  clear hb xP1 xP2 xG1 xG2 xD1 xD2 hq5 hq6
  cases k7 : x.d.same y.d
  · clear hy
    go_wp2_with fail
    go_ret
    exact ⟨ret_bool (hn.out.h7 k7).symm, hL.out.bel⟩
  have y81 : _ = some (Value.int .i64 x.t) := hL.out.q1.cell 53
  have y82 : _ = some (Value.int .i64 y.t) := hL.out.q2.cell 53
  cases k8 : (x.t == y.t)
  · have n8 : (x.t != y.t) = true := by rw [bne, k8]; rfl
    clear hy
    go_wp2_with fail
    go_ret
    exact ⟨ret_bool (hn.out.h8 k8).symm, hL.out.bel⟩
  have n8 : (x.t != y.t) = false := by rw [bne, k8]; rfl
  have y91 : _ = some (Value.int .i64 x.fr) := hL.out.q1.cell 54
  have y92 : _ = some (Value.int .i64 y.fr) := hL.out.q2.cell 54
  cases k9 : (x.fr == y.fr)
  · have n9 : (x.fr != y.fr) = true := by rw [bne, k9]; rfl
    clear hy
    go_wp2_with fail
    go_ret
    exact ⟨ret_bool (hn.out.h9 k9).symm, hL.out.bel⟩
  have n9 : (x.fr != y.fr) = false := by rw [bne, k9]; rfl
  have y101 : _ = some (Value.int .i64 x.pt) := hL.out.q1.cell 55
  have y102 : _ = some (Value.int .i64 y.pt) := hL.out.q2.cell 55
  cases k10 : (x.pt == y.pt)
  · have n10 : (x.pt != y.pt) = true := by rw [bne, k10]; rfl
    clear hy
    go_wp2_with fail
    go_ret
    exact ⟨ret_bool (hn.out.h10 k10).symm, hL.out.bel⟩
  have n10 : (x.pt != y.pt) = false := by rw [bne, k10]; rfl
  have y111 : _ = some (Value.string x.sv) := hL.out.q1.cell 56
  have y112 : _ = some (Value.string y.sv) := hL.out.q2.cell 56
  cases k11 : (x.sv.toList == y.sv.toList)
  · have n11 : (x.sv.toList != y.sv.toList) = true := by rw [bne, k11]; rfl
    clear hy
    go_wp2_with fail
    go_ret
    exact ⟨ret_bool (hn.out.h11 k11).symm, hL.out.bel⟩
  have n11 : (x.sv.toList != y.sv.toList) = false := by rw [bne, k11]; rfl
  have y121 : _ = some (Value.slice a2 x.ev.length c2) := hL.out.q1.cell 57
  have y122 : _ = some (Value.slice a4 y.ev.length c4) := hL.out.q2.cell 57
  by_cases k12 : x.ev.length = y.ev.length
  rotate_left
  · have n12 : ((x.ev.length : Int) != (y.ev.length : Int)) = true := by simp; omega
    have hfin := hid (hn.out.h12 (decide_eq_false k12))
    clear hy k12
    go_wp2_with fail
    go_ret
    exact ⟨ret_bool hfin.out.symm, hL.out.bel⟩
  have n12 : ((x.ev.length : Int) != (y.ev.length : Int)) = false := by simp; omega
  have hy := hid (hy.out k1 k2 k3 k4 k5 k6 k7 k8 k9 k10 k11 (decide_eq_true k12))
  replace k12 := hid k12
  go_wp2_with fail
  clear y81 y82 y91 y92 y101 y102 y111 y112 y121 y122 n8 n9 n10 n11 n12
  go_loopw [5] (fun i wr => ∃ k : Nat, k ≤ x.ev.length ∧ i = .int .i64 k ∧ (∀ j, j < k → sameEv (x.ev.getD j e0) (y.ev.getD j e0) = true) ∧ ML2 w wr w.heap.size (w.heap.size + 1) x y vr vm (.slice a1 x.d.pulses.length c1) (.slice a2 x.ev.length c2) ur um (.slice a3 y.d.pulses.length c3) (.slice a4 y.ev.length c4)) (fun i _ => x.ev.length - (intOf i).toNat)
  case atStart => exact ⟨0, by omega, rfl, fun j hj => by omega, hL.out⟩
  case round =>
    obtain ⟨k, hk, rfl, hj, hL⟩ := hrel
    by_cases hlt : k < x.ev.length
    · have hlt2 := hid (show k < y.ev.length by rw [← k12.out]; exact hlt)
      obtain ⟨g, o, rfl, _⟩ := hL.e1.at hlt
      obtain ⟨g', o', rfl, _⟩ := hL.e2.at hlt2.out
      have hltY : (k : Int) < (y.ev.length : Int) := by have := hlt2.out; omega
      have hltX : (k : Int) < (x.ev.length : Int) := by omega
      obtain ⟨s1, s2, s3, hE1⟩ : ∃ b1 b2 b3, x.ev.getD k e0 = ⟨b1, b2, b3⟩ := ⟨(x.ev.getD k e0).t, (x.ev.getD k e0).k, (x.ev.getD k e0).v, rfl⟩
      obtain ⟨t1, t2, t3, hE2⟩ : ∃ b1 b2 b3, y.ev.getD k e0 = ⟨b1, b2, b3⟩ := ⟨(y.ev.getD k e0).t, (y.ev.getD k e0).k, (y.ev.getD k e0).v, rfl⟩
      obtain ⟨R, hR⟩ : ∃ R, sameEv ⟨s1, s2, s3⟩ ⟨t1, t2, t3⟩ = R := ⟨_, rfl⟩
      have hq : Hid (∀ W, Sem.run Tryd.prog (Op.equalIn 10000 117 (.agg #[.int .i64 s1, .int .i64 s2, .int .i64 s3]) (.agg #[.int .i64 t1, .int .i64 t2, .int .i64 t3])) W = .ok R W) := fun W => by rw [← hR]; exact eqEvX ⟨s1, s2, s3⟩ ⟨t1, t2, t3⟩ W
      have hjn : Hid (R = true → ∀ j, j < k + 1 → sameEv (x.ev.getD j e0) (y.ev.getD j e0) = true) := fun h j hj1 => by
        rcases Nat.lt_or_ge j k with h1 | h1
        · exact hj j h1
        · have : j = k := by omega
          rw [this, hE1, hE2, hR]; exact h
      have hsn : Hid (R = false → Q = false) := fun h => hn.out.h13 k hlt (by rw [hE1, hE2, hR]; exact h)
      have hev : Hid (∀ W, ML2 w W w.heap.size (w.heap.size + 1) x y vr vm (.slice a1 x.d.pulses.length c1) (.slice (some ⟨g, o, none⟩) x.ev.length c2) ur um (.slice a3 y.d.pulses.length c3) (.slice (some ⟨g', o', none⟩) y.ev.length c4) → (W.cell? ⟨g, o + k * 3, none⟩ = some (.int .i64 s1) ∧ W.cell? ⟨g, o + k * 3 + 1, none⟩ = some (.int .i64 s2) ∧ W.cell? ⟨g, o + k * 3 + 2, none⟩ = some (.int .i64 s3)) ∧ (W.cell? ⟨g', o' + k * 3, none⟩ = some (.int .i64 t1) ∧ W.cell? ⟨g', o' + k * 3 + 1, none⟩ = some (.int .i64 t2) ∧ W.cell? ⟨g', o' + k * 3 + 2, none⟩ = some (.int .i64 t3))) := fun W hW => by
        obtain ⟨_, _, ee, d0, d1, d2⟩ := hW.e1.at hlt
        cases ee
        obtain ⟨_, _, ee, f0, f1, f2⟩ := hW.e2.at hlt2.out
        cases ee
        rw [hE1] at d0 d1 d2
        rw [hE2] at f0 f1 f2
        exact ⟨⟨d0, d1, d2⟩, ⟨f0, f1, f2⟩⟩
      have x1 : _ = some (Value.slice (some ⟨g, o, none⟩) x.ev.length c2) := hL.q1.cell 57
      replace hL := hid hL
      replace hR := hid hR
      clear hy hn hE hE1 hE2 hj k12
      go_upto_region 6 with fail
      refine calm_region 11 (fun W => Hid (ML2 w W w.heap.size (w.heap.size + 1) x y vr vm (.slice a1 x.d.pulses.length c1) (.slice (some ⟨g, o, none⟩) x.ev.length c2) ur um (.slice a3 y.d.pulses.length c3) (.slice (some ⟨g', o', none⟩) y.ev.length c4))) (fun _ => True) (by kernel_rfl) (by kernel_rfl) (by kernel_rfl) (by kernel_rfl) (by kernel_rfl) (by kernel_rfl) (hL.out.drew) ?_
      iterate 10 (refine calm_take (v := ?_) (by decide) (by kernel_rfl) (by kernel_rfl) ?_ ?_; rotate_left; (focus (intro W hW; have b1 : W.cell? ⟨w.heap.size, 57, none⟩ = some (.slice (some ⟨g, o, none⟩) x.ev.length c2) := hW.out.q1.cell 57; have b2 : W.cell? ⟨w.heap.size + 1, 57, none⟩ = some (.slice (some ⟨g', o', none⟩) y.ev.length c4) := hW.out.q2.cell 57; obtain ⟨⟨d0, d1, d2⟩, ⟨f0, f1, f2⟩⟩ := hev.out W hW.out; have q9 := hq.out W; go_simp; first | done | with_reducible rfl)); (try simp only [Act.put, List.setIfInBounds_toArray, List.set_cons_zero, List.set_cons_succ]))
      refine calm_take (v := .bool (!R)) (by decide) (by kernel_rfl) (by kernel_rfl) ?_ ?_; (focus (intro W hW; have r9 := hR.out; go_simp; rw [← r9]; simp only [sameEv]; by_cases e1 : s1 = t1 <;> by_cases e2 : s2 = t2 <;> by_cases e3 : s3 = t3 <;> simp [e1, e2, e3])); (try simp only [Act.put, List.setIfInBounds_toArray, List.set_cons_zero, List.set_cons_succ])
      clear x1
      refine calm_end (fun W hW => ?_)
      replace hL := hid (show ML2 w W w.heap.size (w.heap.size + 1) x y vr vm (.slice a1 x.d.pulses.length c1) (.slice (some ⟨g, o, none⟩) x.ev.length c2) ur um (.slice a3 y.d.pulses.length c3) (.slice (some ⟨g', o', none⟩) y.ev.length c4) from hW)
      clear hW
      cases R
      · have hfin := hid (hsn.out rfl)
        clear hsn hjn hq hev
        go_wp2
        go_ret
        exact ⟨ret_bool hfin.out.symm, hL.out.bel⟩
      · have hfin := hid (hjn.out rfl)
        clear hsn hjn hq hev
        have hlen := hf.out.e
        go_wp2
        go_roundw
        case rel => exact ⟨k + 1, by omega, by go_num, hfin.out, hL.out⟩
        case measure => simp [intOf]; omega
    · obtain rfl : k = x.ev.length := by omega
      have hfin := hid (hE.out hj)
      have x1 : _ = some (Value.slice a2 x.ev.length c2) := hL.q1.cell 57
      replace hL := hid hL
      clear hn hE hj
      go_wp2
      go_ret
      exact ⟨ret_bool (by rw [hy.out, hfin.out]), hL.out.bel⟩
end Go.Proofs.YtifcdojaocndhaaDoor
