/- For every machine and port the law FnExactPortValue returns true: impl.PortValue answers as spec.PortValue and changes nothing, the listed tables being as the program's text lays them. -/
import Derived.Test.YtifcdojaocndhaaDoorCards
import Derived.Test.YtifcdojaocndhaaDoorTie
import Derived.Test.YtifcdojaocndhaaDoorWehu
import Derived.WalkKit
import Derived.ProofKit
import Derived.OpenShut
import Derived.ShutString
import Derived.ChangeOld
import Derived.Below
import Derived.LaidMore
import Derived.OpenVars
import Derived.SevenTiedAt
import Derived.Stop.Joined
import Derived.Lib.SmallJoins
namespace Go.Proofs.YtifcdojaocndhaaDoor.fnExactPortValue
open Go.ChangeShapes Go.WideShapes Go.ChangeAt Go.RowKit Go.Joins
open Go.ChangeMaps (open_string shut_string)
set_option linter.unusedVariables false

theorem own : ownKnob Tryd.prog.godebug = none := by kernel_rfl
theorem laidOut : laidOutB Tryd.prog = true := by kernel_rfl

set_option maxRecDepth 100000 in
set_option maxHeartbeats 8000000 in
theorem walk (v0 : Value) (x : Mc) (a1 : Int) (w : World) (m0 : MacB w v0 x) (b0 : BigMc x) (w1 : (Lit.int .i64 a1).wf = true) (hL : PBit w ∧ FPat w) :
    Calls Tryd.prog 5 #[v0, .int .i64 a1] w fun e w' => e = .returned (.bool true) ∧ Below w.heap.size w w' := by
  obtain ⟨vr, vm, vd, ve, rfl, hm, hd, he⟩ := m0
  have hA : Hid (∀ W, Below w.heap.size w W → MacB W (mcV x vr vm vd ve) x) := fun W hb => MacB.below ⟨vr, vm, vd, ve, rfl, hm, hd, he⟩ hb
  have hbig : Hid (BigMc x) := b0
  have hP : Hid (∀ W, Below w.heap.size w W → PBit W ∧ FPat W) := fun W hb => ⟨PBit.below hL.1 hb, fpat_below hL.2 hb⟩
  have qA := hid (Blk.new w (mcA x vr vm vd ve) 58)
  have hB := hid ((Below.refl w.heap.size w).alloc (Nat.le_refl _) (.cells (mcA x vr vm vd ve) 58))
  clear hm hd he b0 hL
  go_enter Tryd.func5, Tryd.ntmps5
  go_upto_region 2 with fail
  obtain ⟨V, hV⟩ : ∃ V, w.alloc (.cells (mcA x vr vm vd ve) 58) = V := ⟨_, rfl⟩
  rw [hV] at qA hB ⊢
  clear hV
  have x1 := hid (mc_all qA.out)
  go_wp2_with (refine wpList_load_mid rfl 58 _ rfl w.heap.size 0 rfl (mcA x vr vm vd ve).toList _ x1.out Tryd.underlying58 rfl (szLMc _ _ _ _ _) ?_)
  refine (szmc x _ 1048576 V (hA.out _ hB.out) hbig.out (by omega) (by omega)).mono ?_
  rintro e w1 ⟨R, rfl, hR, hb⟩
  have qA1 := hid (qA.out.below hb qA.out.lt)
  have hB1 := hid (new_trans hB.out hb)
  clear hb qA hB x1
  rcases hR with hR | ⟨hR, hR2⟩
  · go_wp2
    go_ret
    exact ⟨rfl, hB1.out⟩
  have hs : Hid (SmallMc x) := by
    unfold Hid
    refine ⟨⟨by omega, by omega, by omega⟩, by omega, by omega⟩
  clear hR2 hbig
  have hSp := hid (fun W v (h : MacB W v x) => portv_spec x v a1 W h.macR hs.out.fit)
  have hIm := hid (fun W v (h : MacB W v x) (hp : PBit W ∧ FPat W) => portv_impl x v a1 W h.macR hs.out.fit hp.1 hp.2)
  obtain ⟨⟨Q0, Q1⟩, hQ⟩ : ∃ Q, pv2 x a1 = Q := ⟨_, rfl⟩
  rw [hQ] at hSp hIm
  clear hQ
  have x1 := hid (mc_all qA1.out)
  go_wp2_with (refine wpList_load_mid rfl 58 _ rfl w.heap.size 0 rfl (mcA x vr vm vd ve).toList _ x1.out Tryd.underlying58 rfl (szLMc _ _ _ _ _) ?_)
  refine (tomcB x _ w1 (hA.out _ hB1.out) hs.out).mono ?_
  rintro e w2 ⟨ur, um, ud, ue, rfl, hO, hb⟩
  replace hO := hid hO
  have qA2 := hid (qA1.out.below hb qA1.out.lt)
  have hB2 := hid (new_trans hB1.out hb)
  clear hb qA1 hB1 x1
  go_wp2_with fail
  refine (hSp.out _ _ hO.out).mono ?_
  rintro e w3 ⟨rfl, hb⟩
  have qA3 := hid (qA2.out.below hb qA2.out.lt)
  have hB3 := hid (new_trans hB2.out hb)
  clear hb qA2 hB2 hO hSp
  have x1 := hid (mc_all qA3.out)
  go_wp2_with (refine wpList_load_mid rfl 58 _ rfl w.heap.size 0 rfl (mcA x vr vm vd ve).toList _ x1.out Tryd.underlying58 rfl (szLMc _ _ _ _ _) ?_)
  refine (tomcB x _ w3 (hA.out _ hB3.out) hs.out).mono ?_
  rintro e w4 ⟨ur, um, ud, ue, rfl, hO, hb⟩
  have hone := hid (mc_one (p := fun _ => false) hO.macR)
  have qA4 := qA3.out.below hb qA3.out.lt
  have hB4 := new_trans hB3.out hb
  have qn := Blk.new w4 mcZ 41
  rw [mcZ_eq] at qn
  have hth := hid (mc_there qn (o := 0) (n := (mcA x ur um ud ue).size) (by show 0 + 58 ≤ 58; omega))
  have hbn : Below w4.heap.size w4 (w4.alloc (.cells (mcA mc0 nlV nlV nlV nlV) 41)) := (Below.refl _ _).alloc (Nat.le_refl _) _
  obtain ⟨w5, hw5⟩ : ∃ W, (w4.alloc (.cells mcZ 41)).setCells w4.heap.size 0 (mcA x ur um ud ue).toList = W := ⟨_, rfl⟩
  have hb45 : Below w4.heap.size w4 w5 := by rw [← hw5, mcZ_eq]; exact layE_below _ 0 _ (Nat.le_refl _) hbn
  have qX5 : Hid (Blk w5 w4.heap.size (mcA x ur um ud ue)) := by
    rw [← hw5, mcZ_eq]
    have := lay_blk w4.heap.size (mcA x ur um ud ue).toList _ 0 _ qn
    rw [mlay_x] at this
    exact this
  have qA5 := hid (qA4.below hb45 qA4.lt)
  have hB5 := hid (new_trans hB4 hb45)
  have hmX5 := hid (hO.below hb45)
  have hne : Hid (w.heap.size < w4.heap.size) := by have := qA4.lt; exact this
  replace hw5 := hid hw5
  clear hb hO qA4 hB4 qn hbn hb45 qA3 hB3 x1
  have x2 := hid (mc_all qX5.out)
  go_wp2_with (first | (guard_target = wpList _ _ _ (Oper.mk _ (Op.store _ _ _) _ _ _ _ :: _) _ _; refine wpList_store_mid rfl 41 _ _ rfl w4.heap.size 0 (mcA x ur um ud ue) rfl rfl hth.out (szMcA _ _ _ _ _) hone.out ?_; rw [hw5.out]) | (refine wpList_load_mid rfl 41 _ rfl w4.heap.size 0 rfl (mcA x ur um ud ue).toList _ x2.out Tryd.underlying41 rfl (szMc _ _ _ _ _) ?_))
  refine (hIm.out _ _ hmX5.out (hP.out _ hB5.out)).mono ?_
  rintro e w6 ⟨rfl, hb⟩
  have qX6 := hid (qX5.out.below hb qX5.out.lt)
  have qA6 := hid (qA5.out.below hb qA5.out.lt)
  have hB6 := hid (new_trans hB5.out hb)
  have hmX6 := hid (hmX5.out.below hb)
  clear hb qX5 qA5 hB5 hmX5 hIm hw5 hth hone x2 hne
  go_wp2
  refine w2f_reg _ w6 _ w4.heap.size w.heap.size x ur um ud ue vr vm vd ve rfl rfl qX6.out qA6.out (fun W hb => (tomcB x _ W (hA.out _ (new_trans hB6.out hb)) hs.out).mono (by rintro e w' ⟨ur, um, ud, ue, rfl, hO, hb'⟩; exact ⟨_, rfl, hO, hb'⟩)) (fun W v hb hm => eqmc x _ v W (hmX6.out.below hb) hm hs.out) (by simp) ?_
  intro w9 e9 hb9
  simp only [putsA, Act.put, List.setIfInBounds_toArray, List.set_cons_zero, List.set_cons_succ]
  have hB9 := hid (new_trans hB6.out hb9)
  clear hb9 hB6 qX6 qA6 hmX6 hA
  go_wp2
  go_ret
  exact ⟨rfl, hB9.out⟩

theorem door_met (os : Os) (args : Array Value) : laidMetH Tryd.prog Rows.fnExactPortValueRow.laid ((World.doorLaid Tryd.prog 400 os).forCall (fun _ _ => 0) ⟨#[], args, []⟩).memory :=
  laidMetH_of_parts3 (fuel := 8) (laidMet_of_run' 8 (by kernel_rfl) (by kernel_rfl)) (by kernel_rfl) (by kernel_rfl)

set_option maxRecDepth 100000 in
theorem lifted (os : Os) (started : os.Started) (H : Type) (enc : TypeId × Value → H) :
    ReturnsInHanded {} Tryd.checked os 5 .any (fun w args => (Rows.fnExactPortValueSpec.pre enc Tryd.prog Tryd.f5 [] false w args ∧ laidMetH Tryd.prog Rows.fnExactPortValueRow.laid w) ∧ sizedMet enc Tryd.prog Tryd.f5 (OpenSpec.ofChange Rows.fnExactPortValueSpec) false w args)
      (Rows.fnExactPortValueSpec.post enc Tryd.prog Tryd.f5 false true false false) := by
  refine returnsInHanded_of_change_and (C := Tryd.checked) (X := fun w _ => laidMetH Tryd.prog Rows.fnExactPortValueRow.laid w) (fun _ _ _ hh h => h.of_heap hh) own started (by kernel_rfl) Tryd.func5
    (ChangeSpec.witness_shaped (enc := enc) (C := Tryd.checked) (os := os) (X := fun w _ => laidMetH Tryd.prog Rows.fnExactPortValueRow.laid w) false (World.doorLaid Tryd.prog 400 os) #[.agg mcZ, .int .i64 0] 8 rfl (World.shaped_of_RefB (by kernel_rfl) (by kernel_rfl)) (by kernel_rfl) (by kernel_rfl) (by kernel_rfl) (door_met os _)) ?_
  intro W base args ds gs before hval0 hW _ _ hL _
  have hval : ∀ (j : Nat) t v, Tryd.f5.params[j]? = some t → args[j]? = some v → Value.okWide Tryd.prog W .any base t v := hval0
  have hW' := hW
  obtain ⟨p, q, hA0, hV, hbefore, hfz, hnd⟩ := hW
  have hA : DataW.TrodAll enc Tryd.prog W 0 (fun _ => true) true Tryd.f5.params.toList args.toList ds p := hA0
  rw [Tryd.params5] at hA hval
  obtain ⟨v0, vs0, d0, ds0, p0, q0, hargs, rfl, rfl, h0, r0⟩ := trodAll_cons hA
  obtain ⟨v1, vs1, d1, ds1, p1, q1, rfl, rfl, rfl, h1, r1⟩ := trodAll_cons r0
  obtain ⟨rfl, rfl, rfl⟩ := trodAll_nil r1
  obtain rfl : args = #[v0, v1] := by cases args; simp_all
  obtain ⟨g0, g1, rfl⟩ := vars2_form hV
  have k0 := h0
  have lt0 : ∀ x ∈ p0, x.block < W.heap.size := by obtain ⟨m, hm⟩ := k0; exact DataW.trod_lt m _ _ _ hm
  obtain ⟨x, m0, b0⟩ := mc_in (hval 0 58 v0 rfl rfl) h0
  obtain ⟨a1, rfl, rfl, rfl, w1⟩ := open_int Tryd.underlying3 (hval 1 3 v1 rfl rfl) h1
  clear hA0 hval0
  refine (walk v0 x a1 W m0 b0 w1 (port2_of hL)).mono fun e W' ⟨he, bel⟩ => ?_
  subst he
  exact ⟨_, rfl, _, _, _, [], _, _, hW', trodAll_mk1 (shut_bool Tryd.underlying4 _), (trodAll_cons_mk (Below.trod laidOut (by kernel_rfl) (of_decide_eq_true (by kernel_rfl)) k0 bel lt0) (trodAll_cons_mk (shut_int Tryd.underlying3 w1) trodAll_mk0)), Below.trodVars laidOut bel (by kernel_rfl) hV, bel.frame _, fun h => by cases h⟩

theorem said : Rows.FnExactPortValueSaid :=
  OpenClaim.holds_of_wide 5 Tryd.f5 rfl rfl rfl rfl rfl rfl rfl ⟨rfl, rfl, rfl, rfl, rfl⟩ rfl rfl rfl rfl rfl (by kernel_rfl) Tryd.func5 (by kernel_rfl)
    (of_decide_eq_true (by kernel_rfl)) (by unfold Func.isWrapper; first | (rw [if_pos (by decide +kernel)]; kernel_rfl) | (rw [if_neg (by decide +kernel)]; exact ⟨rfl, rfl⟩))
    (fun os started H enc _ => lifted os started H enc)

theorem card : Rows.FnExactPortValueCardSaid :=
  Claim7.holds_tied_plain_at .later [] _ _ _ _ said (fun _ h => by cases h) (by kernel_rfl) (fun _ h => by cases h) fnExactPortValue_row_tie rfl ⟨rfl, rfl⟩ (by kernel_rfl) rfl
    (fun f fn hf hfn => by
      obtain rfl : f = 5 := Option.some.inj ((show Tryd.prog.funcNamed "loop.example/g00644/laws.FnExactPortValue" = some 5 by kernel_rfl).symm.trans hf) |>.symm
      obtain rfl : fn = Tryd.f5 := (Option.some.inj (Tryd.func5.symm.trans hfn)).symm
      exact ⟨by kernel_rfl, fun j t ht => by
        rw [Tryd.params5] at ht
        have hm : t ∈ [58, 3] := by simpa using Array.mem_of_getElem? ht
        have hall : ([58, 3].all fun u => !Tryd.prog.wantsStandIn u) = true := by kernel_rfl
        exact (show Tryd.prog.wantsStandIn t = false by simpa using List.all_eq_true.1 hall t hm)⟩)
    (by kernel_rfl)
end Go.Proofs.YtifcdojaocndhaaDoor.fnExactPortValue
namespace Go.Proofs.YtifcdojaocndhaaDoor
theorem fnExactPortValue_holds : Rows.FnExactPortValueCardSaid := fnExactPortValue.card
#print axioms fnExactPortValue_holds
end Go.Proofs.YtifcdojaocndhaaDoor
