/- For every two machines the law FnExactSameMachine returns true: impl.SameMachine answers as spec.SameMachine and changes nothing, the program's table of registers' bits being as its text lays it. -/
import Derived.Test.YtifcdojaocndhaaDoorCards
import Derived.Test.YtifcdojaocndhaaDoorTie
import Derived.Test.YtifcdojaocndhaaDoorWhes
import Derived.WalkKit
import Derived.ProofKit
import Derived.OpenShut
import Derived.ShutString
import Derived.ChangeOld
import Derived.Below
import Derived.LaidMore
import Derived.OpenVars
import Derived.SevenTiedAt
import Derived.Stop.Joined
import Derived.Lib.SmallJoins
namespace Go.Proofs.YtifcdojaocndhaaDoor.fnExactSameMachine
open Go.ChangeShapes Go.WideShapes Go.ChangeAt Go.RowKit Go.Joins
open Go.ChangeMaps (open_string shut_string)
set_option linter.unusedVariables false

theorem own : ownKnob Tryd.prog.godebug = none := by kernel_rfl
theorem laidOut : laidOutB Tryd.prog = true := by kernel_rfl

set_option maxRecDepth 100000 in
set_option maxHeartbeats 8000000 in
theorem walk (v0 : Value) (x : Mc) (v1 : Value) (y : Mc) (w : World) (m0 : MacB w v0 x) (b0 : BigMc x) (m1 : MacB w v1 y) (b1 : BigMc y) (hL : PBit w) :
    Calls Tryd.prog 6 #[v0, v1] w fun e w' => e = .returned (.bool true) ∧ Below w.heap.size w w' := by
  obtain ⟨vr, vm, vd, ve, rfl, hm, hd, he⟩ := m0
  obtain ⟨zr, zm, zd, ze, rfl, hm', hd', he'⟩ := m1
  have hA : Hid (∀ W, Below w.heap.size w W → MacB W (mcV x vr vm vd ve) x) := fun W hb => MacB.below ⟨vr, vm, vd, ve, rfl, hm, hd, he⟩ hb
  have hA' : Hid (∀ W, Below w.heap.size w W → MacB W (mcV y zr zm zd ze) y) := fun W hb => MacB.below ⟨zr, zm, zd, ze, rfl, hm', hd', he'⟩ hb
  have hbig : Hid (BigMc x) := b0
  have hbig' : Hid (BigMc y) := b1
  have hP : Hid (∀ W, Below w.heap.size w W → PBit W) := fun W hb => PBit.below hL hb
  have qA := hid ((Blk.new w (mcA x vr vm vd ve) 58).alloc (.cells (mcA y zr zm zd ze) 58))
  have qB : Hid (Blk ((w.alloc (.cells (mcA x vr vm vd ve) 58)).alloc (.cells (mcA y zr zm zd ze) 58)) (w.heap.size + 1) (mcA y zr zm zd ze)) := by
    have := Blk.new (w.alloc (.cells (mcA x vr vm vd ve) 58)) (mcA y zr zm zd ze) 58
    rwa [World.size_alloc] at this
  have hB := hid (((Below.refl w.heap.size w).alloc (Nat.le_refl _) (.cells (mcA x vr vm vd ve) 58)).alloc (by simp) (.cells (mcA y zr zm zd ze) 58))
  clear hm hd he b0 hL hm' hd' he' b1
  go_enter Tryd.func6, Tryd.ntmps6
  go_upto_region 2 with fail
  obtain ⟨V, hV⟩ : ∃ V, (w.alloc (.cells (mcA x vr vm vd ve) 58)).alloc (.cells (mcA y zr zm zd ze) 58) = V := ⟨_, rfl⟩
  rw [hV] at qA qB hB ⊢
  clear hV
  have x1 := hid (mc_all qA.out)
  go_wp2_with (refine wpList_load_mid rfl 58 _ rfl w.heap.size 0 rfl (mcA x vr vm vd ve).toList _ x1.out Tryd.underlying58 rfl (szLMc _ _ _ _ _) ?_)
  refine (szmc x _ 1048576 V (hA.out _ hB.out) hbig.out (by omega) (by omega)).mono ?_
  rintro e w1 ⟨R, rfl, hR, hb⟩
  replace qA := hid (qA.out.below hb qA.out.lt)
  replace qB := hid (qB.out.below hb qB.out.lt)
  replace hB := hid (new_trans hB.out hb)
  clear hb x1
  rcases hR with hR | ⟨hR, hR2⟩
  · go_wp2
    go_ret
    exact ⟨rfl, hB.out⟩
  have hs : Hid (SmallMc x) := by
    unfold Hid
    refine ⟨⟨by omega, by omega, by omega⟩, by omega, by omega⟩
  have hRm : R ≤ 1048576 := by omega
  clear hR2 hbig
  have x1 := hid (mc_all qB.out)
  go_wp2_with (refine wpList_load_mid rfl 58 _ rfl (w.heap.size + 1) 0 rfl (mcA y zr zm zd ze).toList _ x1.out Tryd.underlying58 rfl (szLMc _ _ _ _ _) ?_)
  refine (szmc y _ R w1 (hA'.out _ hB.out) hbig'.out hR hRm).mono ?_
  rintro e w1' ⟨R2, rfl, hR2, hb⟩
  replace qA := hid (qA.out.below hb qA.out.lt)
  replace qB := hid (qB.out.below hb qB.out.lt)
  replace hB := hid (new_trans hB.out hb)
  clear hb x1
  rcases hR2 with hR2 | ⟨hR2, hR3⟩
  · go_wp2
    go_ret
    exact ⟨rfl, hB.out⟩
  have hs' : Hid (SmallMc y) := by
    unfold Hid
    refine ⟨⟨by omega, by omega, by omega⟩, by omega, by omega⟩
  clear hR3 hRm hbig'
  have hSp := hid (fun W v u (h : MacB W v x) (h2 : MacB W u y) => lsame_spec x y v u W h.macR h2.macR hs.out.fit hs'.out.fit)
  have hIm := hid (fun W v u (h : MacB W v x) (h2 : MacB W u y) (hp : PBit W) => same_implM x y v u W h.macR h2.macR hs.out.fit hs'.out.fit hp)
  obtain ⟨Q0, hQ⟩ : ∃ Q, sameMc x y = Q := ⟨_, rfl⟩
  rw [hQ] at hSp hIm
  clear hQ
  have hto := hid (fun W (hb : Below w.heap.size w W) => tomcB x _ W (hA.out _ hb) hs.out)
  have hto' := hid (fun W (hb : Below w.heap.size w W) => tomcB y _ W (hA'.out _ hb) hs'.out)
  go_upto_region 8 with fail
  refine w4s_reg _ w1' _ w.heap.size (w.heap.size + 1) x y vr vm vd ve zr zm zd ze Q0 rfl rfl qA.out qB.out (fun W hb => (hto.out W (new_trans hB.out hb)).mono (by rintro e w' ⟨ur, um, ud, ue, rfl, hO, hb'⟩; exact ⟨_, rfl, hO, hb'⟩)) (fun W hb => (hto'.out W (new_trans hB.out hb)).mono (by rintro e w' ⟨ur, um, ud, ue, rfl, hO, hb'⟩; exact ⟨_, rfl, hO, hb'⟩)) (fun W v u hb h1 h2 => hSp.out W v u h1 h2) (by simp) ?_
  intro w2 e2 hb
  obtain ⟨e21, e22⟩ := e2
  simp only [putsA, Act.put, List.setIfInBounds_toArray, List.set_cons_zero, List.set_cons_succ]
  replace qA := hid (qA.out.below hb qA.out.lt)
  replace qB := hid (qB.out.below hb qB.out.lt)
  replace hB := hid (new_trans hB.out hb)
  clear hb hSp
  have x1 := hid (mc_all qA.out)
  go_wp2_with (refine wpList_load_mid rfl 58 _ rfl w.heap.size 0 rfl (mcA x vr vm vd ve).toList _ x1.out Tryd.underlying58 rfl (szLMc _ _ _ _ _) ?_)
  refine (hto.out w2 hB.out).mono ?_
  rintro e w3 ⟨ur, um, ud, ue, rfl, hO, hb⟩
  replace qA := hid (qA.out.below hb qA.out.lt)
  replace qB := hid (qB.out.below hb qB.out.lt)
  replace hB := hid (new_trans hB.out hb)
  clear hb x1
  have hone1 := hid (mc_one (p := fun _ => false) hO.macR)
  have qn := Blk.new w3 mcZ 41
  rw [mcZ_eq] at qn
  have hth1 := hid (mc_there qn (o := 0) (n := (mcA x ur um ud ue).size) (by show 0 + 58 ≤ 58; omega))
  have hbn : Below w3.heap.size w3 (w3.alloc (.cells (mcA mc0 nlV nlV nlV nlV) 41)) := (Below.refl _ _).alloc (Nat.le_refl _) _
  obtain ⟨X1, hX1⟩ : ∃ W, (w3.alloc (.cells mcZ 41)).setCells w3.heap.size 0 (mcA x ur um ud ue).toList = W := ⟨_, rfl⟩
  have hbX : Below w3.heap.size w3 X1 := by rw [← hX1, mcZ_eq]; exact layE_below _ 0 _ (Nat.le_refl _) hbn
  have qX1 : Hid (Blk X1 w3.heap.size (mcA x ur um ud ue)) := by
    rw [← hX1, mcZ_eq]
    have := lay_blk w3.heap.size (mcA x ur um ud ue).toList _ 0 _ qn
    rw [mlay_x] at this
    exact this
  have hm1 := hid (hO.below hbX)
  replace qA := hid (qA.out.below hbX qA.out.lt)
  replace qB := hid (qB.out.below hbX qB.out.lt)
  replace hB := hid (new_trans hB.out hbX)
  replace hX1 := hid hX1
  clear hO qn hbn hbX
  have x1 := hid (mc_all qB.out)
  go_wp2_with (first | (guard_target = wpList _ _ _ (Oper.mk _ (Op.store _ _ _) _ _ _ _ :: _) _ _; refine wpList_store_mid rfl 41 _ _ rfl w3.heap.size 0 (mcA x ur um ud ue) rfl rfl hth1.out (szMcA _ _ _ _ _) hone1.out ?_; rw [hX1.out]) | (refine wpList_load_mid rfl 58 _ rfl (w.heap.size + 1) 0 rfl (mcA y zr zm zd ze).toList _ x1.out Tryd.underlying58 rfl (szLMc _ _ _ _ _) ?_))
  refine (hto'.out X1 hB.out).mono ?_
  rintro e w4 ⟨tr, tm, td, te, rfl, hO, hb⟩
  replace qA := hid (qA.out.below hb qA.out.lt)
  replace qB := hid (qB.out.below hb qB.out.lt)
  replace qX1 := hid (qX1.out.below hb qX1.out.lt)
  replace hm1 := hid (hm1.out.below hb)
  replace hB := hid (new_trans hB.out hb)
  clear hb x1 hX1 hth1 hone1
  have hone2 := hid (mc_one (p := fun _ => false) hO.macR)
  have qn := Blk.new w4 mcZ 41
  rw [mcZ_eq] at qn
  have hth2 := hid (mc_there qn (o := 0) (n := (mcA y tr tm td te).size) (by show 0 + 58 ≤ 58; omega))
  have hbn : Below w4.heap.size w4 (w4.alloc (.cells (mcA mc0 nlV nlV nlV nlV) 41)) := (Below.refl _ _).alloc (Nat.le_refl _) _
  obtain ⟨X2, hX2⟩ : ∃ W, (w4.alloc (.cells mcZ 41)).setCells w4.heap.size 0 (mcA y tr tm td te).toList = W := ⟨_, rfl⟩
  have hbX : Below w4.heap.size w4 X2 := by rw [← hX2, mcZ_eq]; exact layE_below _ 0 _ (Nat.le_refl _) hbn
  have qX2 : Hid (Blk X2 w4.heap.size (mcA y tr tm td te)) := by
    rw [← hX2, mcZ_eq]
    have := lay_blk w4.heap.size (mcA y tr tm td te).toList _ 0 _ qn
    rw [mlay_x] at this
    exact this
  have hm2 := hid (hO.below hbX)
  replace qA := hid (qA.out.below hbX qA.out.lt)
  replace qB := hid (qB.out.below hbX qB.out.lt)
  replace qX1 := hid (qX1.out.below hbX qX1.out.lt)
  replace hB := hid (new_trans hB.out hbX)
  replace hX2 := hid hX2
  replace hm1 := hid (hm1.out.below hbX)
  clear hO qn hbn hbX
  have x1 := hid (mc_all qX1.out)
  have x2 := hid (mc_all qX2.out)
  go_wp2_with (first | (guard_target = wpList _ _ _ (Oper.mk _ (Op.store _ _ _) _ _ _ _ :: _) _ _; refine wpList_store_mid rfl 41 _ _ rfl w4.heap.size 0 (mcA y tr tm td te) rfl rfl hth2.out (szMcA _ _ _ _ _) hone2.out ?_; rw [hX2.out]) | (refine wpList_load_mid rfl 41 _ rfl w3.heap.size 0 rfl (mcA x ur um ud ue).toList _ x1.out Tryd.underlying41 rfl (szMc _ _ _ _ _) ?_) | (refine wpList_load_mid rfl 41 _ rfl w4.heap.size 0 rfl (mcA y tr tm td te).toList _ x2.out Tryd.underlying41 rfl (szMc _ _ _ _ _) ?_))
  refine (hIm.out _ _ _ hm1.out hm2.out (hP.out _ hB.out)).mono ?_
  rintro e w6 ⟨rfl, hb⟩
  replace qA := hid (qA.out.below hb qA.out.lt)
  replace qB := hid (qB.out.below hb qB.out.lt)
  replace qX1 := hid (qX1.out.below hb qX1.out.lt)
  replace qX2 := hid (qX2.out.below hb qX2.out.lt)
  replace hm1 := hid (hm1.out.below hb)
  replace hm2 := hid (hm2.out.below hb)
  replace hB := hid (new_trans hB.out hb)
  clear hb x1 x2 hX2 hth2 hone2 hIm
  go_wp2
  refine w4f_reg _ w6 _ w3.heap.size w.heap.size x ur um ud ue vr vm vd ve rfl rfl qX1.out qA.out (fun W hb => (hto.out W (new_trans hB.out hb)).mono (by rintro e w' ⟨ur, um, ud, ue, rfl, hO, hb'⟩; exact ⟨_, rfl, hO, hb'⟩)) (fun W v hb hm => eqmc x _ v W (hm1.out.below hb) hm hs.out) (by simp) ?_
  intro w7 e7 hb
  simp only [putsA, Act.put, List.setIfInBounds_toArray, List.set_cons_zero, List.set_cons_succ]
  replace qA := hid (qA.out.below hb qA.out.lt)
  replace qB := hid (qB.out.below hb qB.out.lt)
  replace qX2 := hid (qX2.out.below hb qX2.out.lt)
  replace hm2 := hid (hm2.out.below hb)
  replace hB := hid (new_trans hB.out hb)
  clear hb qX1 hm1 qA
  go_wp2
  refine w4g_reg _ w7 _ w4.heap.size (w.heap.size + 1) y tr tm td te zr zm zd ze rfl rfl qX2.out qB.out (fun W hb => (hto'.out W (new_trans hB.out hb)).mono (by rintro e w' ⟨ur, um, ud, ue, rfl, hO, hb'⟩; exact ⟨_, rfl, hO, hb'⟩)) (fun W v hb hm => eqmc y _ v W (hm2.out.below hb) hm hs'.out) (by simp) ?_
  intro w8 e8 hb
  simp only [putsA, Act.put, List.setIfInBounds_toArray, List.set_cons_zero, List.set_cons_succ]
  replace hB := hid (new_trans hB.out hb)
  clear hb qB qX2 hm2 hA hA' hto hto'
  go_wp2
  go_ret
  exact ⟨rfl, hB.out⟩

theorem door_met (os : Os) (args : Array Value) : laidMetH Tryd.prog Rows.fnExactSameMachineRow.laid ((World.doorLaid Tryd.prog 400 os).forCall (fun _ _ => 0) ⟨#[], args, []⟩).memory :=
  laidMetH_of_parts3 (fuel := 8) (laidMet_of_run' 8 (by kernel_rfl) (by kernel_rfl)) (by kernel_rfl) (by kernel_rfl)

set_option maxRecDepth 100000 in
theorem lifted (os : Os) (started : os.Started) (H : Type) (enc : TypeId × Value → H) :
    ReturnsInHanded {} Tryd.checked os 6 .any (fun w args => (Rows.fnExactSameMachineSpec.pre enc Tryd.prog Tryd.f6 [] false w args ∧ laidMetH Tryd.prog Rows.fnExactSameMachineRow.laid w) ∧ sizedMet enc Tryd.prog Tryd.f6 (OpenSpec.ofChange Rows.fnExactSameMachineSpec) false w args)
      (Rows.fnExactSameMachineSpec.post enc Tryd.prog Tryd.f6 false true false false) := by
  refine returnsInHanded_of_change_and (C := Tryd.checked) (X := fun w _ => laidMetH Tryd.prog Rows.fnExactSameMachineRow.laid w) (fun _ _ _ hh h => h.of_heap hh) own started (by kernel_rfl) Tryd.func6
    (ChangeSpec.witness_shaped (enc := enc) (C := Tryd.checked) (os := os) (X := fun w _ => laidMetH Tryd.prog Rows.fnExactSameMachineRow.laid w) false (World.doorLaid Tryd.prog 400 os) #[.agg mcZ, .agg mcZ] 8 rfl (World.shaped_of_RefB (by kernel_rfl) (by kernel_rfl)) (by kernel_rfl) (by kernel_rfl) (by kernel_rfl) (door_met os _)) ?_
  intro W base args ds gs before hval0 hW _ _ hL _
  have hval : ∀ (j : Nat) t v, Tryd.f6.params[j]? = some t → args[j]? = some v → Value.okWide Tryd.prog W .any base t v := hval0
  have hW' := hW
  obtain ⟨p, q, hA0, hV, hbefore, hfz, hnd⟩ := hW
  have hA : DataW.TrodAll enc Tryd.prog W 0 (fun _ => true) true Tryd.f6.params.toList args.toList ds p := hA0
  rw [Tryd.params6] at hA hval
  obtain ⟨v0, vs0, d0, ds0, p0, q0, hargs, rfl, rfl, h0, r0⟩ := trodAll_cons hA
  obtain ⟨v1, vs1, d1, ds1, p1, q1, rfl, rfl, rfl, h1, r1⟩ := trodAll_cons r0
  obtain ⟨rfl, rfl, rfl⟩ := trodAll_nil r1
  obtain rfl : args = #[v0, v1] := by cases args; simp_all
  obtain ⟨g0, rfl⟩ := vars1_form hV
  have k0 := h0
  have lt0 : ∀ x ∈ p0, x.block < W.heap.size := by obtain ⟨m, hm⟩ := k0; exact DataW.trod_lt m _ _ _ hm
  obtain ⟨x, m0, b0⟩ := mc_in (hval 0 58 v0 rfl rfl) h0
  have k1 := h1
  have lt1 : ∀ x ∈ p1, x.block < W.heap.size := by obtain ⟨m, hm⟩ := k1; exact DataW.trod_lt m _ _ _ hm
  obtain ⟨y, m1, b1⟩ := mc_in (hval 1 58 v1 rfl rfl) h1
  clear hA0 hval0
  refine (walk v0 x v1 y W m0 b0 m1 b1 (pbit_of hL)).mono fun e W' ⟨he, bel⟩ => ?_
  subst he
  exact ⟨_, rfl, _, _, _, [], _, _, hW', trodAll_mk1 (shut_bool Tryd.underlying4 _), (trodAll_cons_mk (Below.trod laidOut (by kernel_rfl) (of_decide_eq_true (by kernel_rfl)) k0 bel lt0) (trodAll_cons_mk (Below.trod laidOut (by kernel_rfl) (of_decide_eq_true (by kernel_rfl)) k1 bel lt1) trodAll_mk0)), Below.trodVars laidOut bel (by kernel_rfl) hV, bel.frame _, fun h => by cases h⟩

theorem said : Rows.FnExactSameMachineSaid :=
  OpenClaim.holds_of_wide 6 Tryd.f6 rfl rfl rfl rfl rfl rfl rfl ⟨rfl, rfl, rfl, rfl, rfl⟩ rfl rfl rfl rfl rfl (by kernel_rfl) Tryd.func6 (by kernel_rfl)
    (of_decide_eq_true (by kernel_rfl)) (by unfold Func.isWrapper; first | (rw [if_pos (by decide +kernel)]; kernel_rfl) | (rw [if_neg (by decide +kernel)]; exact ⟨rfl, rfl⟩))
    (fun os started H enc _ => lifted os started H enc)

theorem card : Rows.FnExactSameMachineCardSaid :=
  Claim7.holds_tied_plain_at .later [] _ _ _ _ said (fun _ h => by cases h) (by kernel_rfl) (fun _ h => by cases h) fnExactSameMachine_row_tie rfl ⟨rfl, rfl⟩ (by kernel_rfl) rfl
    (fun f fn hf hfn => by
      obtain rfl : f = 6 := Option.some.inj ((show Tryd.prog.funcNamed "loop.example/g00644/laws.FnExactSameMachine" = some 6 by kernel_rfl).symm.trans hf) |>.symm
      obtain rfl : fn = Tryd.f6 := (Option.some.inj (Tryd.func6.symm.trans hfn)).symm
      exact ⟨by kernel_rfl, fun j t ht => by
        rw [Tryd.params6] at ht
        have hm : t ∈ [58, 58] := by simpa using Array.mem_of_getElem? ht
        have hall : ([58, 58].all fun u => !Tryd.prog.wantsStandIn u) = true := by kernel_rfl
        exact (show Tryd.prog.wantsStandIn t = false by simpa using List.all_eq_true.1 hall t hm)⟩)
    (by kernel_rfl)
end Go.Proofs.YtifcdojaocndhaaDoor.fnExactSameMachine
namespace Go.Proofs.YtifcdojaocndhaaDoor
theorem fnExactSameMachine_holds : Rows.FnExactSameMachineCardSaid := fnExactSameMachine.card
#print axioms fnExactSameMachine_holds
end Go.Proofs.YtifcdojaocndhaaDoor
