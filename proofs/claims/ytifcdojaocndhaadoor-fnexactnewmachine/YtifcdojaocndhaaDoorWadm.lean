/- What the specification says of a machine that is right. -/
import Derived.Test.YtifcdojaocndhaaDoorWacm
import Derived.Test.YtifcdojaocndhaaDoorWaqm
import Derived.Test.YtifcdojaocndhaaDoorM04
import Derived.Test.YtifcdojaocndhaaDoorM08
import Derived.Test.YtifcdojaocndhaaDoorM21
import Derived.Test.YtifcdojaocndhaaDoorM03
import Derived.Test.YtifcdojaocndhaaDoorM02
import Derived.Deep.RegionWith
namespace Go.Proofs.YtifcdojaocndhaaDoor
open Go.ChangeShapes Go.WideShapes Go.ChangeAt Go.RowKit
set_option linter.unusedVariables false
set_option linter.unusedSimpArgs false

abbrev evV (e : Evt) : Value := .agg #[.int .i64 e.t, .int .i64 e.k, .int .i64 e.v]
theorem EvR.at {W : World} {a : Option Addr} {n cap : Nat} {l : List Evt} (h : EvR W (.slice a n cap) l) {k : Nat} (hk : k < l.length) : ∃ g o, a = some ⟨g, o, none⟩ ∧ W.cell? ⟨g, o + k * 3, none⟩ = some (.int .i64 (l.getD k e0).t) ∧ W.cell? ⟨g, o + k * 3 + 1, none⟩ = some (.int .i64 (l.getD k e0).k) ∧ W.cell? ⟨g, o + k * 3 + 2, none⟩ = some (.int .i64 (l.getD k e0).v) := by
  obtain ⟨a', c, e, h⟩ := h
  injection e with e1 e2 e3
  subst e1
  rcases h with rfl | ⟨g, o, ha, h⟩
  · exact absurd hk (by simp)
  · exact ⟨g, o, ha, h k hk⟩
theorem EvR.below {w w' : World} {v : Value} {l : List Evt} (h : EvR w v l) (hb : Below w.heap.size w w') : EvR w' v l := h.mono (fun b i u hu => by
  rw [hb.cell (p := ⟨b, i, none⟩) (World.block_lt_of_cell? w _ hu)]
  exact hu)
/-- numbers in their bounds, for an event -/
theorem evok_1 {e : Evt} (h : inB e.t 0 739 = false) : e.ok = false := by unfold Evt.ok; rw [h]; rfl
theorem evok_2 {e : Evt} (h : inB e.t 0 739 = true) (h2 : inB e.k 1 5 = false) : e.ok = false := by unfold Evt.ok; rw [h, h2]; rfl
theorem evok_3 {e : Evt} (h : inB e.t 0 739 = true) (h2 : inB e.k 1 5 = true) : e.ok = inB e.v 0 255 := by unfold Evt.ok; rw [h, h2]; rfl
set_option maxRecDepth 100000 in
theorem levent_spec (e : Evt) (w : World) : Calls Tryd.prog 100 #[evV e] w fun r w' => r = .returned (.bool e.ok) ∧ Below w.heap.size w w' := by
  have hB := hid ((Below.refl w.heap.size w).alloc (Nat.le_refl _) (.cells #[.int .i64 e.t, .int .i64 e.k, .int .i64 e.v] 117))
  cases h1 : inB e.t 0 739
  · have hE := hid (evok_1 h1)
    go_enter Tryd.func100, Tryd.ntmps100
    go_wp2_with (go_at_call 99; refine (in_spec _ _ _ _).mono ?_; rintro r w' ⟨rfl, rfl⟩; rw [h1])
    go_ret
    exact ⟨ret_bool hE.out.symm, hB.out⟩
  · cases h2 : inB e.k 1 5
    · have hE := hid (evok_2 h1 h2)
      go_enter Tryd.func100, Tryd.ntmps100
      go_wp2_with (go_at_call 99; refine (in_spec _ _ _ _).mono ?_; rintro r w' ⟨rfl, rfl⟩; first | rw [h1] | rw [h2])
      go_ret
      exact ⟨ret_bool hE.out.symm, hB.out⟩
    · have hE := hid (evok_3 h1 h2)
      go_enter Tryd.func100, Tryd.ntmps100
      go_wp2_with (first | (go_at_call 99; refine (in_spec _ _ _ _).mono ?_; rintro r w' ⟨rfl, rfl⟩; first | rw [h1] | rw [h2]) | (go_at_call 66; refine (byteM_spec _ _).mono ?_; rintro r w' ⟨rfl, rfl⟩))
      go_ret
      exact ⟨ret_bool hE.out.symm, hB.out⟩
/-- a part of a box is loaded where it is wanted -/
theorem ld_wantM {ops : Array Oper} {rest : List Oper} {op : Oper} {a : Act} {w : World} {Q : Exit → Act → World → Prop} (ty : TypeId) (x : Operand) (ho : op.op = .load ty x)
    (b o : Nat) (hx : a.eval x = .pointer (some ⟨b, o, none⟩)) (hw : Region.wanted op (yielded ops a.tmps) = true) (cs : List Value) (d : TypeDesc) (hc : w.rangeAt b o cs)
    (hu : Tryd.prog.underlying ty = some d) (hd : d.isRow = true) (hi : (Tryd.prog.info? ty).map (·.size) = some cs.length)
    (h : wpList Tryd.prog ops Q rest (a.put op.dst (.agg cs.toArray)) w) : wpList Tryd.prog ops Q (op :: rest) a w :=
  wpList_step fun _ hK => by
    rw [if_pos hw]
    exact wp_load_mid ty x ho b o hx cs d hc hu hd hi (hK _ _ h)
/-- sizes that a law's bound gives -/
structure FitMc (x : Mc) : Prop where
  m : Fit x.m
  d : x.d.pulses.length ≤ 1048576
  e : x.ev.length ≤ 1048576
theorem mcno_1 {x : Mc} (h : okC x.c = false) : okMc x = false := by simp [okMc, h]
theorem mcno_2 {x : Mc} (h : okM x.m = false) : okMc x = false := by simp [okMc, h]
theorem mcno_3 {x : Mc} (h : okPo x.p = false) : okMc x = false := by simp [okMc, h]
theorem mcno_4 {x : Mc} (h : okS x.g = false) : okMc x = false := by simp [okMc, h]
theorem mcno_5 {x : Mc} (h : x.d.ok = false) : okMc x = false := by simp [okMc, h]
theorem mcno_6 {x : Mc} (h : inB x.t 0 639 = false) : okMc x = false := by simp [okMc, h]
theorem mcno_7 {x : Mc} (h : inB x.fr 0 1000000 = false) : okMc x = false := by simp [okMc, h]
theorem mcno_8 {x : Mc} (h : inB x.pt 0 15 = false) : okMc x = false := by simp [okMc, h]
theorem mcno_9 {x : Mc} (h : ¬ x.sv.size ≤ 1000) : okMc x = false := by simp [okMc, h]
theorem mcno_10 {x : Mc} (h : ¬ x.ev.length ≤ 1000) : okMc x = false := by simp [okMc, h]
theorem mcno_11 {x : Mc} {i : Nat} (hi : i < x.ev.length) (h : evAt x.ev i = false) : okMc x = false := by
  have : evsB x.ev = false := by
    unfold evsB
    rw [List.all_eq_false]
    exact ⟨i, List.mem_range.2 hi, by rw [h]; decide⟩
  simp [okMc, this]
theorem mcyes {x : Mc} (h1 : okC x.c = true) (h2 : okM x.m = true) (h3 : okPo x.p = true) (h4 : okS x.g = true) (h5 : x.d.ok = true) (h6 : inB x.t 0 639 = true) (h7 : inB x.fr 0 1000000 = true) (h8 : inB x.pt 0 15 = true) (h9 : x.sv.size ≤ 1000) (h10 : x.ev.length ≤ 1000) (h11 : ∀ i, i < x.ev.length → evAt x.ev i = true) : okMc x = true := by
  simp [okMc, h1, h2, h3, h4, h5, h6, h7, h8, h9, h10, (evsB_iff _).2 h11]
/-- while a machine is looked at -/
structure MLk (w W : World) (x : Mc) (vr vm vd ve : Value) : Prop where
  q : Blk W w.heap.size (mcA x vr vm vd ve)
  m : MemR W (memV vr vm x.m.page x.m.screen x.m.locked) x.m
  d : RowR W vd x.d.pulses
  e : EvR W ve x.ev
  bel : Below w.heap.size w W
theorem MLk.start {w : World} {x : Mc} {vr vm vd ve : Value} (hm : MemR w (memV vr vm x.m.page x.m.screen x.m.locked) x.m) (hd : RowR w vd x.d.pulses) (he : EvR w ve x.ev) (t : TypeId) : MLk w (w.alloc (.cells (mcA x vr vm vd ve) t)) x vr vm vd ve := by
  have hB : Below w.heap.size w (w.alloc (.cells (mcA x vr vm vd ve) t)) := (Below.refl _ _).alloc (Nat.le_refl _) _
  exact ⟨Blk.new w _ t, hm.below hB, hd.below hB, he.below hB, hB⟩
theorem MLk.below {w W W' : World} {x : Mc} {vr vm vd ve : Value} (h : MLk w W x vr vm vd ve) (hb : Below W.heap.size W W') : MLk w W' x vr vm vd ve :=
  ⟨h.q.below hb h.q.lt, h.m.below hb, h.d.below hb, h.e.below hb, new_trans h.bel hb⟩
theorem MLk.drew {w W : World} {x : Mc} {vr vm vd ve : Value} (h : MLk w W x vr vm vd ve) : MLk w W.drew x vr vm vd ve := h.below ⟨rfl, rfl, rfl, Nat.le_refl _, fun _ _ => rfl⟩
theorem evAt_1 {l : List Evt} {i : Nat} (h : (l.getD i e0).ok = false) : evAt l i = false := by unfold evAt; rw [h]; rfl
theorem evAt_2 {l : List Evt} (h : (l.getD 0 e0).ok = true) : evAt l 0 = true := by unfold evAt; rw [h]; rfl
theorem evAt_3 {l : List Evt} {i : Nat} (h : (l.getD (i + 1) e0).ok = true) : evAt l (i + 1) = decide ((l.getD i e0).t ≤ (l.getD (i + 1) e0).t) := by unfold evAt; rw [h]; rfl
set_option maxRecDepth 100000 in
set_option maxHeartbeats 4000000 in
theorem lmok_spec {p : Nat → Bool} (x : Mc) (v : Value) (w : World) (h : MacR p w v x) (hf : FitMc x) : Calls Tryd.prog 52 #[v] w fun r w' => r = .returned (.bool (okMc x)) ∧ Below w.heap.size w w' := by
  obtain ⟨vr, vm, vd, ve, rfl, hm, hd, he⟩ := h
  have hL := MLk.start hm (RowR.mono hd (veil_le w p)) he.unveil 41
  have hn1 := hid (fun h => mcno_1 (x := x) h)
  have hn2 := hid (fun h => mcno_2 (x := x) h)
  have hn3 := hid (fun h => mcno_3 (x := x) h)
  have hn4 := hid (fun h => mcno_4 (x := x) h)
  have hn5 := hid (fun h => mcno_5 (x := x) h)
  have hn6 := hid (fun h => mcno_6 (x := x) h)
  have hn7 := hid (fun h => mcno_7 (x := x) h)
  have hn8 := hid (fun h => mcno_8 (x := x) h)
  have hn9 := hid (fun h => mcno_9 (x := x) h)
  have hn10 := hid (fun h => mcno_10 (x := x) h)
  have hn11 := hid (fun i hi h => mcno_11 (x := x) (i := i) hi h)
  have hy := hid (fun a1 a2 a3 a4 a5 a6 a7 a8 a9 a10 a11 => mcyes (x := x) a1 a2 a3 a4 a5 a6 a7 a8 a9 a10 a11)
  generalize okMc x = Q at *
  obtain ⟨a1, c1, rfl, _⟩ := id hd
  obtain ⟨a2, c2, rfl, _⟩ := id he
  replace hL := hid hL
  replace hf := hid hf
  clear hm hd he
  go_enter Tryd.func52, Tryd.ntmps52
  go_upto_region 1 with fail
  obtain ⟨V, hV⟩ : ∃ V, w.alloc (Obj.cells (mcA x vr vm (.slice a1 x.d.pulses.length c1) (.slice a2 x.ev.length c2)) 41) = V := ⟨_, rfl⟩
  rw [hV] at hL ⊢
  clear hV
  have x1 := hid (mc_cpu hL.out.q)
  go_wp2_with (refine wpList_load_mid rfl 26 _ rfl w.heap.size 0 rfl (cuA x.c).toList _ x1.out Tryd.underlying26 rfl (szCu x.c) ?_)
  refine (cpuok_spec x.c _).mono ?_
  rintro r w1 ⟨rfl, hb⟩
  have hL := hid (hL.out.below hb)
  clear hb x1
  cases k1 : okC x.c
  · clear hy
    go_wp2_with fail
    go_ret
    exact ⟨ret_bool (hn1.out k1).symm, hL.out.bel⟩
  have x1 := hid (mc_mem hL.out.q)
  go_wp2_with (first | (guard_target = wpList _ _ _ (Oper.mk _ (Op.load 30 _) _ _ _ (some _) :: _) _ _; refine ld_wantM 30 _ rfl w.heap.size 14 rfl (by kernel_rfl) (mcC vr vm x.m) _ x1.out Tryd.underlying30 rfl (szMe _ _ _) ?_; simp only [Act.put, List.setIfInBounds_toArray, List.set_cons_zero, List.set_cons_succ]) | (guard_target = wpList _ _ _ (Oper.mk _ _ _ _ _ (some _) :: _) _ _; refine wpList_step (fun _ _ => ?_); rw [if_pos (by kernel_rfl)]; go_simp))
  refine (ok_spec _ x.m _ hL.out.m hf.out.m.1 hf.out.m.2.1 hf.out.m.2.2).mono ?_
  rintro r w1 ⟨rfl, hb⟩
  have hL := hid (hL.out.below hb)
  clear hb x1
  cases k2 : okM x.m
  · clear hy
    go_wp2_with fail
    go_ret
    exact ⟨ret_bool (hn2.out k2).symm, hL.out.bel⟩
  have x1 := hid (mc_po hL.out.q)
  go_wp2_with (first | (guard_target = wpList _ _ _ (Oper.mk _ (Op.load 32 _) _ _ _ (some _) :: _) _ _; refine ld_wantM 32 _ rfl w.heap.size 19 rfl (by kernel_rfl) (poA x.p).toList _ x1.out Tryd.underlying32 rfl (szPo x.p) ?_; simp only [Act.put, List.setIfInBounds_toArray, List.set_cons_zero, List.set_cons_succ]) | (guard_target = wpList _ _ _ (Oper.mk _ _ _ _ _ (some _) :: _) _ _; refine wpList_step (fun _ _ => ?_); rw [if_pos (by kernel_rfl)]; go_simp))
  refine (pok_spec x.p _).mono ?_
  rintro r w1 ⟨rfl, hb⟩
  have hL := hid (hL.out.below hb)
  clear hb x1
  cases k3 : okPo x.p
  · clear hy
    go_wp2_with fail
    go_ret
    exact ⟨ret_bool (hn3.out k3).symm, hL.out.bel⟩
  have x1 := hid (mc_sg hL.out.q)
  go_wp2_with (first | (guard_target = wpList _ _ _ (Oper.mk _ (Op.load 36 _) _ _ _ (some _) :: _) _ _; refine ld_wantM 36 _ rfl w.heap.size 31 rfl (by kernel_rfl) (sgA x.g).toList _ x1.out Tryd.underlying36 rfl (szSg x.g) ?_; simp only [Act.put, List.setIfInBounds_toArray, List.set_cons_zero, List.set_cons_succ]) | (guard_target = wpList _ _ _ (Oper.mk _ _ _ _ _ (some _) :: _) _ _; refine wpList_step (fun _ _ => ?_); rw [if_pos (by kernel_rfl)]; go_simp))
  refine (sok_spec x.g _).mono ?_
  rintro r w1 ⟨rfl, hb⟩
  have hL := hid (hL.out.below hb)
  clear hb x1
  cases k4 : okS x.g
  · clear hy
    go_wp2_with fail
    go_ret
    exact ⟨ret_bool (hn4.out k4).symm, hL.out.bel⟩
  have x1 := hid (mc_dk hL.out.q)
  go_wp2_with (first | (guard_target = wpList _ _ _ (Oper.mk _ (Op.load 38 _) _ _ _ (some _) :: _) _ _; refine ld_wantM 38 _ rfl w.heap.size 48 rfl (by kernel_rfl) (dkL (.slice a1 x.d.pulses.length c1) x.d) _ x1.out Tryd.underlying38 rfl (szDk _ _) ?_; simp only [Act.put, List.setIfInBounds_toArray, List.set_cons_zero, List.set_cons_succ]) | (guard_target = wpList _ _ _ (Oper.mk _ _ _ _ _ (some _) :: _) _ _; refine wpList_step (fun _ _ => ?_); rw [if_pos (by kernel_rfl)]; go_simp))
  refine (deckok_spec a1 c1 x.d _ hL.out.d hf.out.d).mono ?_
  rintro r w1 ⟨rfl, hb⟩
  have hL := hid (hL.out.below hb)
  clear hb x1
  cases k5 : x.d.ok
  · clear hy
    go_wp2_with fail
    go_ret
    exact ⟨ret_bool (hn5.out k5).symm, hL.out.bel⟩
  have x1 : _ = some (Value.int .i64 x.t) := hL.out.q.cell 53
  go_wp2_with (first | (guard_target = wpList _ _ _ (Oper.mk _ _ _ _ _ (some _) :: _) _ _; refine wpList_step (fun _ _ => ?_); rw [if_pos (by kernel_rfl)]; go_simp))
  refine (in_spec x.t 0 639 _).mono ?_
  rintro r w' ⟨rfl, rfl⟩
  clear x1
  cases k6 : inB x.t 0 639
  · clear hy
    go_wp2_with fail
    go_ret
    exact ⟨ret_bool (hn6.out k6).symm, hL.out.bel⟩
  have x1 : _ = some (Value.int .i64 x.fr) := hL.out.q.cell 54
  go_wp2_with (first | (guard_target = wpList _ _ _ (Oper.mk _ _ _ _ _ (some _) :: _) _ _; refine wpList_step (fun _ _ => ?_); rw [if_pos (by kernel_rfl)]; go_simp))
  refine (in_spec x.fr 0 1000000 _).mono ?_
  rintro r w' ⟨rfl, rfl⟩
  clear x1
  cases k7 : inB x.fr 0 1000000
  · clear hy
    go_wp2_with fail
    go_ret
    exact ⟨ret_bool (hn7.out k7).symm, hL.out.bel⟩
  have x1 : _ = some (Value.int .i64 x.pt) := hL.out.q.cell 55
  go_wp2_with (first | (guard_target = wpList _ _ _ (Oper.mk _ _ _ _ _ (some _) :: _) _ _; refine wpList_step (fun _ _ => ?_); rw [if_pos (by kernel_rfl)]; go_simp))
  refine (in_spec x.pt 0 15 _).mono ?_
  rintro r w' ⟨rfl, rfl⟩
  clear x1
  cases k8 : inB x.pt 0 15
  · clear hy
    go_wp2_with fail
    go_ret
    exact ⟨ret_bool (hn8.out k8).symm, hL.out.bel⟩
  have x1 : _ = some (Value.string x.sv) := hL.out.q.cell 56
  have x2 : _ = some (Value.slice a2 x.ev.length c2) := hL.out.q.cell 57
  by_cases k9 : x.sv.size ≤ 1000
  · have t9 : decide ((1000 : Int) < (x.sv.size : Int)) = false := decide_eq_false (by omega)
    have t9n : decide (1000 < x.sv.size) = false := decide_eq_false (by omega)
    by_cases k10 : x.ev.length ≤ 1000
    · have t10 : decide ((1000 : Int) < (x.ev.length : Int)) = false := decide_eq_false (by omega)
      have t10n : decide (1000 < x.ev.length) = false := decide_eq_false (by omega)
      replace k9 := hid k9
      replace k10 := hid k10
      go_wp2_with (first | (guard_target = wpList _ _ _ (Oper.mk _ _ _ _ _ (some _) :: _) _ _; refine wpList_step (fun _ _ => ?_); rw [if_pos (by rfl)]; go_simp))
      have hy := hid (hy.out k1 k2 k3 k4 k5 k6 k7 k8 k9.out k10.out)
      go_loopw [3] (fun i wr => ∃ k : Nat, k ≤ x.ev.length ∧ i = .int .i64 k ∧ (∀ j, j < k → evAt x.ev j = true) ∧ MLk w wr x vr vm (.slice a1 x.d.pulses.length c1) (.slice a2 x.ev.length c2)) (fun i _ => x.ev.length - (intOf i).toNat)
      case atStart => exact ⟨0, by omega, rfl, fun j hj => by omega, hL.out⟩
      case round =>
        obtain ⟨k, hk, rfl, hj, hL⟩ := hrel
        by_cases hlt : k < x.ev.length
        · obtain ⟨g, o, rfl, y0, y1, y2⟩ := hL.e.at hlt
          obtain ⟨t1, t2, t3, hE⟩ : ∃ b1 b2 b3, x.ev.getD k e0 = ⟨b1, b2, b3⟩ := ⟨(x.ev.getD k e0).t, (x.ev.getD k e0).k, (x.ev.getD k e0).v, rfl⟩
          rw [hE] at y0 y1 y2
          simp only [] at y0 y1 y2
          have z0 := World.block_lt_of_cell? wr _ y0
          have x2 : _ = some (Value.slice (some ⟨g, o, none⟩) x.ev.length c2) := hL.q.cell 57
          have hlv := hid (fun W => levent_spec ⟨t1, t2, t3⟩ W)
          have hsn := hid (fun h => hn11.out k hlt h)
          have hjn : Hid (evAt x.ev k = true → ∀ j, j < k + 1 → evAt x.ev j = true) := fun h j hj1 => by
            rcases Nat.lt_or_ge j k with h1 | h1
            · exact hj j h1
            · have : j = k := by omega
              rw [this]; exact h
          replace hE := hid hE
          clear hy hn1 hn2 hn3 hn4 hn5 hn6 hn7 hn8 hn9 hn10 hn11 hj
          cases ke : (Evt.mk t1 t2 t3).ok
          · have hfin := hid (hsn.out (evAt_1 (by rw [hE.out]; exact ke)))
            rw [ke] at hlv
            clear hsn hjn
            go_upto_region 6 with fail
            refine calm_region 27 (fun W => Hid (MLk w W x vr vm (.slice a1 x.d.pulses.length c1) (.slice (some ⟨g, o, none⟩) x.ev.length c2))) (fun _ => True) (by kernel_rfl) (by kernel_rfl) (by kernel_rfl) (by kernel_rfl) (by kernel_rfl) (by kernel_rfl) (hL.drew) ?_
            iterate 5 (refine calm_take (v := ?_) (by decide) (by kernel_rfl) (by kernel_rfl) ?_ ?_; rotate_left; (focus (intro W hW; have b1 : W.cell? ⟨w.heap.size, 57, none⟩ = some (.slice (some ⟨g, o, none⟩) x.ev.length c2) := hW.out.q.cell 57; obtain ⟨_, _, ee, d0, d1, d2⟩ := hW.out.e.at hlt; cases ee; rw [hE.out] at d0 d1 d2; go_simp; first | done | with_reducible rfl)); (try simp only [Act.put, List.setIfInBounds_toArray, List.set_cons_zero, List.set_cons_succ]))
            refine calm_call (f := 100) (args := #[evV ⟨t1, t2, t3⟩]) (.bool false) (by decide) (by kernel_rfl) (by kernel_rfl) ?_ ?_ ?_; (focus (intro W; go_simp; first | done | with_reducible rfl)); (focus (intro W hW; exact (hlv.out W).mono (fun r W' hr => ⟨hr.1, hW.out.below hr.2⟩))); (try simp only [Act.put, List.setIfInBounds_toArray, List.set_cons_zero, List.set_cons_succ])
            iterate 2 (refine calm_take (v := ?_) (by decide) (by kernel_rfl) (by kernel_rfl) ?_ ?_; rotate_left; (focus (intro W hW; have b1 : W.cell? ⟨w.heap.size, 57, none⟩ = some (.slice (some ⟨g, o, none⟩) x.ev.length c2) := hW.out.q.cell 57; obtain ⟨_, _, ee, d0, d1, d2⟩ := hW.out.e.at hlt; cases ee; rw [hE.out] at d0 d1 d2; go_simp; first | done | with_reducible rfl)); (try simp only [Act.put, List.setIfInBounds_toArray, List.set_cons_zero, List.set_cons_succ]))
            iterate 18 (refine calm_skip (by decide) (by kernel_rfl) ?_; (try simp only [Act.put, List.setIfInBounds_toArray, List.set_cons_zero, List.set_cons_succ]))
            refine calm_take (v := ?_) (by decide) (by kernel_rfl) (by kernel_rfl) ?_ ?_; rotate_left; (focus (intro W hW; have b1 : W.cell? ⟨w.heap.size, 57, none⟩ = some (.slice (some ⟨g, o, none⟩) x.ev.length c2) := hW.out.q.cell 57; obtain ⟨_, _, ee, d0, d1, d2⟩ := hW.out.e.at hlt; cases ee; rw [hE.out] at d0 d1 d2; go_simp; first | done | with_reducible rfl)); (try simp only [Act.put, List.setIfInBounds_toArray, List.set_cons_zero, List.set_cons_succ])
            refine calm_end (fun W hW => ?_)
            replace hL := hid (show MLk w W x vr vm (.slice a1 x.d.pulses.length c1) (.slice (some ⟨g, o, none⟩) x.ev.length c2) from hW)
            clear hW
            go_wp2
            go_ret
            exact ⟨ret_bool hfin.out.symm, hL.out.bel⟩
          · rw [ke] at hlv
            rcases Nat.eq_zero_or_pos k with rfl | hk0
            · have hfin := hid (hjn.out (evAt_2 (by rw [hE.out]; exact ke)))
              clear hsn hjn
              go_upto_region 6 with fail
              refine calm_region 27 (fun W => Hid (MLk w W x vr vm (.slice a1 x.d.pulses.length c1) (.slice (some ⟨g, o, none⟩) x.ev.length c2))) (fun _ => True) (by kernel_rfl) (by kernel_rfl) (by kernel_rfl) (by kernel_rfl) (by kernel_rfl) (by kernel_rfl) (hL.drew) ?_
              iterate 5 (refine calm_take (v := ?_) (by decide) (by kernel_rfl) (by kernel_rfl) ?_ ?_; rotate_left; (focus (intro W hW; have b1 : W.cell? ⟨w.heap.size, 57, none⟩ = some (.slice (some ⟨g, o, none⟩) x.ev.length c2) := hW.out.q.cell 57; obtain ⟨_, _, ee, d0, d1, d2⟩ := hW.out.e.at hlt; cases ee; rw [hE.out] at d0 d1 d2; simp only [Nat.zero_mul, Nat.add_zero] at d0 d1 d2; go_simp; first | done | with_reducible rfl)); (try simp only [Act.put, List.setIfInBounds_toArray, List.set_cons_zero, List.set_cons_succ]))
              refine calm_call (f := 100) (args := #[evV ⟨t1, t2, t3⟩]) (.bool true) (by decide) (by kernel_rfl) (by kernel_rfl) ?_ ?_ ?_; (focus (intro W; go_simp; first | done | with_reducible rfl)); (focus (intro W hW; exact (hlv.out W).mono (fun r W' hr => ⟨hr.1, hW.out.below hr.2⟩))); (try simp only [Act.put, List.setIfInBounds_toArray, List.set_cons_zero, List.set_cons_succ])
              iterate 5 (refine calm_take (v := ?_) (by decide) (by kernel_rfl) (by kernel_rfl) ?_ ?_; rotate_left; (focus (intro W hW; have b1 : W.cell? ⟨w.heap.size, 57, none⟩ = some (.slice (some ⟨g, o, none⟩) x.ev.length c2) := hW.out.q.cell 57; obtain ⟨_, _, ee, d0, d1, d2⟩ := hW.out.e.at hlt; cases ee; rw [hE.out] at d0 d1 d2; simp only [Nat.zero_mul, Nat.add_zero] at d0 d1 d2; go_simp; first | done | with_reducible rfl)); (try simp only [Act.put, List.setIfInBounds_toArray, List.set_cons_zero, List.set_cons_succ]))
              iterate 14 (refine calm_skip (by decide) (by kernel_rfl) ?_; (try simp only [Act.put, List.setIfInBounds_toArray, List.set_cons_zero, List.set_cons_succ]))
              iterate 2 (refine calm_take (v := ?_) (by decide) (by kernel_rfl) (by kernel_rfl) ?_ ?_; rotate_left; (focus (intro W hW; have b1 : W.cell? ⟨w.heap.size, 57, none⟩ = some (.slice (some ⟨g, o, none⟩) x.ev.length c2) := hW.out.q.cell 57; obtain ⟨_, _, ee, d0, d1, d2⟩ := hW.out.e.at hlt; cases ee; rw [hE.out] at d0 d1 d2; simp only [Nat.zero_mul, Nat.add_zero] at d0 d1 d2; go_simp; first | done | with_reducible rfl)); (try simp only [Act.put, List.setIfInBounds_toArray, List.set_cons_zero, List.set_cons_succ]))
              refine calm_end (fun W hW => ?_)
              replace hL := hid (show MLk w W x vr vm (.slice a1 x.d.pulses.length c1) (.slice (some ⟨g, o, none⟩) x.ev.length c2) from hW)
              clear hW
              go_wp2
              go_roundw
              case rel => exact ⟨1, by omega, by go_num, hfin.out, hL.out⟩
              case measure => simp [intOf]; omega
            · obtain ⟨j, rfl⟩ : ∃ j, k = j + 1 := ⟨k - 1, by omega⟩
              have hlt2 := hid (show j < x.ev.length by omega)
              obtain ⟨s1, hs1⟩ : ∃ s, (x.ev.getD j e0).t = s := ⟨_, rfl⟩
              replace hs1 := hid hs1
              have hle : (j : Int) + 1 < (x.ev.length : Int) := by omega
              have hle0 : (0 : Int) ≤ (j : Int) + 1 := by omega
              have hle1 : (j : Int) < (x.ev.length : Int) := by omega
              have hle2 : (0 : Int) < (j : Int) + 1 := by omega
              have hwj : IntKind.i64.wrap (j : Int) = (j : Int) := by have := hf.out.e; rw [IntKind.wrap_i64]; omega
              by_cases hfl : t1 < s1
              · have hfin := hid (hsn.out (by rw [evAt_3 (by rw [hE.out]; exact ke), hs1.out, hE.out]; exact decide_eq_false (by show ¬ s1 ≤ t1; omega)))
                have hfd : decide (t1 < s1) = true := decide_eq_true hfl
                clear hsn hjn
                go_upto_region 6 with fail
                refine calm_region 27 (fun W => Hid (MLk w W x vr vm (.slice a1 x.d.pulses.length c1) (.slice (some ⟨g, o, none⟩) x.ev.length c2))) (fun _ => True) (by kernel_rfl) (by kernel_rfl) (by kernel_rfl) (by kernel_rfl) (by kernel_rfl) (by kernel_rfl) (hL.drew) ?_
                iterate 5 (refine calm_take (v := ?_) (by decide) (by kernel_rfl) (by kernel_rfl) ?_ ?_; rotate_left; (focus (intro W hW; have b1 : W.cell? ⟨w.heap.size, 57, none⟩ = some (.slice (some ⟨g, o, none⟩) x.ev.length c2) := hW.out.q.cell 57; obtain ⟨_, _, ee, d0, d1, d2⟩ := hW.out.e.at hlt; cases ee; rw [hE.out] at d0 d1 d2; obtain ⟨_, _, ee2, f0, f1, f2⟩ := hW.out.e.at hlt2.out; cases ee2; rw [hs1.out] at f0; go_simp; first | done | with_reducible rfl)); (try simp only [Act.put, List.setIfInBounds_toArray, List.set_cons_zero, List.set_cons_succ]))
                refine calm_call (f := 100) (args := #[evV ⟨t1, t2, t3⟩]) (.bool true) (by decide) (by kernel_rfl) (by kernel_rfl) ?_ ?_ ?_; (focus (intro W; go_simp; first | done | with_reducible rfl)); (focus (intro W hW; exact (hlv.out W).mono (fun r W' hr => ⟨hr.1, hW.out.below hr.2⟩))); (try simp only [Act.put, List.setIfInBounds_toArray, List.set_cons_zero, List.set_cons_succ])
                iterate 21 (refine calm_take (v := ?_) (by decide) (by kernel_rfl) (by kernel_rfl) ?_ ?_; rotate_left; (focus (intro W hW; have b1 : W.cell? ⟨w.heap.size, 57, none⟩ = some (.slice (some ⟨g, o, none⟩) x.ev.length c2) := hW.out.q.cell 57; obtain ⟨_, _, ee, d0, d1, d2⟩ := hW.out.e.at hlt; cases ee; rw [hE.out] at d0 d1 d2; obtain ⟨_, _, ee2, f0, f1, f2⟩ := hW.out.e.at hlt2.out; cases ee2; rw [hs1.out] at f0; go_simp; first | done | with_reducible rfl)); (try simp only [Act.put, List.setIfInBounds_toArray, List.set_cons_zero, List.set_cons_succ]))
                refine calm_end (fun W hW => ?_)
                replace hL := hid (show MLk w W x vr vm (.slice a1 x.d.pulses.length c1) (.slice (some ⟨g, o, none⟩) x.ev.length c2) from hW)
                clear hW
                go_wp2
                go_ret
                exact ⟨ret_bool hfin.out.symm, hL.out.bel⟩
              · have hfin := hid (hjn.out (by rw [evAt_3 (by rw [hE.out]; exact ke), hs1.out, hE.out]; exact decide_eq_true (by show s1 ≤ t1; omega)))
                have hfd : decide (t1 < s1) = false := decide_eq_false hfl
                clear hsn hjn
                go_upto_region 6 with fail
                refine calm_region 27 (fun W => Hid (MLk w W x vr vm (.slice a1 x.d.pulses.length c1) (.slice (some ⟨g, o, none⟩) x.ev.length c2))) (fun _ => True) (by kernel_rfl) (by kernel_rfl) (by kernel_rfl) (by kernel_rfl) (by kernel_rfl) (by kernel_rfl) (hL.drew) ?_
                iterate 5 (refine calm_take (v := ?_) (by decide) (by kernel_rfl) (by kernel_rfl) ?_ ?_; rotate_left; (focus (intro W hW; have b1 : W.cell? ⟨w.heap.size, 57, none⟩ = some (.slice (some ⟨g, o, none⟩) x.ev.length c2) := hW.out.q.cell 57; obtain ⟨_, _, ee, d0, d1, d2⟩ := hW.out.e.at hlt; cases ee; rw [hE.out] at d0 d1 d2; obtain ⟨_, _, ee2, f0, f1, f2⟩ := hW.out.e.at hlt2.out; cases ee2; rw [hs1.out] at f0; go_simp; first | done | with_reducible rfl)); (try simp only [Act.put, List.setIfInBounds_toArray, List.set_cons_zero, List.set_cons_succ]))
                refine calm_call (f := 100) (args := #[evV ⟨t1, t2, t3⟩]) (.bool true) (by decide) (by kernel_rfl) (by kernel_rfl) ?_ ?_ ?_; (focus (intro W; go_simp; first | done | with_reducible rfl)); (focus (intro W hW; exact (hlv.out W).mono (fun r W' hr => ⟨hr.1, hW.out.below hr.2⟩))); (try simp only [Act.put, List.setIfInBounds_toArray, List.set_cons_zero, List.set_cons_succ])
                iterate 21 (refine calm_take (v := ?_) (by decide) (by kernel_rfl) (by kernel_rfl) ?_ ?_; rotate_left; (focus (intro W hW; have b1 : W.cell? ⟨w.heap.size, 57, none⟩ = some (.slice (some ⟨g, o, none⟩) x.ev.length c2) := hW.out.q.cell 57; obtain ⟨_, _, ee, d0, d1, d2⟩ := hW.out.e.at hlt; cases ee; rw [hE.out] at d0 d1 d2; obtain ⟨_, _, ee2, f0, f1, f2⟩ := hW.out.e.at hlt2.out; cases ee2; rw [hs1.out] at f0; go_simp; first | done | with_reducible rfl)); (try simp only [Act.put, List.setIfInBounds_toArray, List.set_cons_zero, List.set_cons_succ]))
                refine calm_end (fun W hW => ?_)
                replace hL := hid (show MLk w W x vr vm (.slice a1 x.d.pulses.length c1) (.slice (some ⟨g, o, none⟩) x.ev.length c2) from hW)
                clear hW
                clear hwj
                have hlen := hf.out.e
                go_wp2
                go_roundw
                case rel => exact ⟨j + 1 + 1, by omega, by go_num, hfin.out, hL.out⟩
                case measure => simp [intOf]; omega
        · obtain rfl : k = x.ev.length := by omega
          have hfin := hid (hy.out hj)
          clear hy hn1 hn2 hn3 hn4 hn5 hn6 hn7 hn8 hn9 hn10 hn11 hj
          have x2 : _ = some (Value.slice a2 x.ev.length c2) := hL.q.cell 57
          replace hL := hid hL
          go_wp2
          go_ret
          exact ⟨ret_bool hfin.out.symm, hL.out.bel⟩
    · have t10 : decide ((1000 : Int) < (x.ev.length : Int)) = true := decide_eq_true (by omega)
      have t10n : decide (1000 < x.ev.length) = true := decide_eq_true (by omega)
      go_wp2_with (first | (guard_target = wpList _ _ _ (Oper.mk _ _ _ _ _ (some _) :: _) _ _; refine wpList_step (fun _ _ => ?_); rw [if_pos (by rfl)]; go_simp))
      go_ret
      exact ⟨ret_bool (hn10.out k10).symm, hL.out.bel⟩
  · have t9 : decide ((1000 : Int) < (x.sv.size : Int)) = true := decide_eq_true (by omega)
    have t9n : decide (1000 < x.sv.size) = true := decide_eq_true (by omega)
    go_wp2_with (first | (guard_target = wpList _ _ _ (Oper.mk _ _ _ _ _ (some _) :: _) _ _; refine wpList_step (fun _ _ => ?_); rw [if_pos (by rfl)]; go_simp))
    go_ret
    exact ⟨ret_bool (hn9.out k9).symm, hL.out.bel⟩
end Go.Proofs.YtifcdojaocndhaaDoor
