/- For every sound chip the law FnExactPsgOK returns true: impl.PsgOK answers as spec.PsgOK, the program's table of registers' bits being as its text lays it. -/
import Derived.Test.YtjdgfbaioafjcaaDoorCards
import Derived.Test.YtjdgfbaioafjcaaDoorTie
import Derived.Test.YtjdgfbaioafjcaaDoorYa
import Derived.Test.YtjdgfbaioafjcaaDoorYb
import Derived.Test.YtjdgfbaioafjcaaDoorYp
import Derived.Test.YtjdgfbaioafjcaaDoorYx
import Derived.WalkKit
import Derived.ProofKit
import Derived.OpenShut
import Derived.ShutString
import Derived.ChangeOld
import Derived.Below
import Derived.LaidMore
import Derived.OpenVars
import Derived.SevenTiedAt
import Derived.Stop.Joined
import Derived.Lib.SmallJoins
import Derived.Deep.MidRow
namespace Go.Proofs.YtjdgfbaioafjcaaDoor.fnExactPsgOK
open Go.ChangeShapes Go.WideShapes Go.ChangeAt Go.RowKit Go.Joins
open Go.ChangeMaps (open_string shut_string)
set_option linter.unusedVariables false

theorem own : ownKnob Tryd.prog.godebug = none := by kernel_rfl
theorem laidOut : laidOutB Tryd.prog = true := by kernel_rfl

set_option maxRecDepth 100000 in
set_option maxHeartbeats 4000000 in
theorem walk (c0 : Sg) (w : World)  (hL : PBit w) :
    Calls Tryd.prog 7 #[sgV c0] w fun e w' => e = .returned (.bool true) ∧ Below w.heap.size w w' := by
  obtain ⟨b, hv⟩ : ∃ b, okS c0 = b := ⟨_, rfl⟩
  replace hv := hid hv
  have q0 := hid (Blk.new w (sgA c0) 39)
  have hb0 := hid ((Below.refl w.heap.size w).alloc (Nat.le_refl _) (.cells (sgA c0) 39))
  have hP0 := hid (hL.alloc (.cells (sgA c0) 39))
  have g0 := hid (sg_range q0.out)
  clear hL
  go_enter Tryd.func7, Tryd.ntmps7
  go_upto_region 1 with fail
  obtain ⟨V, hV⟩ : ∃ V, w.alloc (Obj.cells (sgA c0) 39) = V := ⟨_, rfl⟩
  rw [hV] at q0 hb0 hP0 g0 ⊢
  clear hV
  go_wp2_with (guard_target = wpList _ _ _ (Oper.mk _ (Op.load _ _) _ _ _ _ :: _) _ _; refine wpList_load_mid rfl 39 _ rfl w.heap.size 0 rfl (sgA c0).toList _ g0.out Tryd.underlying39 rfl (sg_sizeL c0) ?_)
  refine (tosg c0 _).mono ?_
  rintro e w1 ⟨rfl, hb⟩
  have q1 := hid (q0.out.below hb q0.out.lt)
  have hb1 := hid (new_trans hb0.out hb)
  have hP1 := hid (hP0.out.below hb)
  have g1 := hid (sg_range q1.out)
  clear hb q0 hb0 hP0 g0
  go_wp2_with fail
  refine (sok_spec c0 _).mono ?_
  rintro e w2 ⟨rfl, hb⟩
  rw [hv.out]
  have q2 := hid (q1.out.below hb q1.out.lt)
  have hb2 := hid (new_trans hb1.out hb)
  have hP2 := hid (hP1.out.below hb)
  have g2 := hid (sg_range q2.out)
  clear hb q1 hb1 hP1 g1
  go_wp2_with (guard_target = wpList _ _ _ (Oper.mk _ (Op.load _ _) _ _ _ _ :: _) _ _; refine wpList_load_mid rfl 39 _ rfl w.heap.size 0 rfl (sgA c0).toList _ g2.out Tryd.underlying39 rfl (sg_sizeL c0) ?_)
  refine (tosg c0 _).mono ?_
  rintro e w3 ⟨rfl, hb⟩
  have q3 := hid (q2.out.below hb q2.out.lt)
  have hb3 := hid (new_trans hb2.out hb)
  have hP3 := hid (hP2.out.below hb)
  have g3 := hid (sg_range q3.out)
  clear hb q2 hb2 hP2 g2
  go_wp2_with fail
  refine (sok_impl c0 _ hP3.out).mono ?_
  rintro e w4 ⟨rfl, hb⟩
  rw [hv.out]
  have q4 := hid (q3.out.below hb q3.out.lt)
  have hb4 := hid (new_trans hb3.out hb)
  have hP4 := hid (hP3.out.below hb)
  have g4 := hid (sg_range q4.out)
  clear hb q3 hb3 hP3 g3
  clear q4 hP4 g4
  cases b
  · go_wp2
    go_ret
    exact ⟨rfl, hb4.out⟩
  · go_wp2
    go_ret
    exact ⟨rfl, hb4.out⟩

theorem door_met (os : Os) (args : Array Value) : laidMetH Tryd.prog Rows.fnExactPsgOKRow.laid ((World.doorLaid Tryd.prog 400 os).forCall (fun _ _ => 0) ⟨#[], args, []⟩).memory :=
  laidMetH_of_parts3 (fuel := 8) (laidMet_of_run' 8 (by kernel_rfl) (by kernel_rfl)) (by kernel_rfl) (by kernel_rfl)

set_option maxRecDepth 100000 in
theorem lifted (os : Os) (started : os.Started) (H : Type) (enc : TypeId × Value → H) :
    ReturnsInHanded {} Tryd.checked os 7 .any (fun w args => (Rows.fnExactPsgOKSpec.pre enc Tryd.prog Tryd.f7 [] false w args ∧ laidMetH Tryd.prog Rows.fnExactPsgOKRow.laid w) ∧ sizedMet enc Tryd.prog Tryd.f7 (OpenSpec.ofChange Rows.fnExactPsgOKSpec) false w args)
      (Rows.fnExactPsgOKSpec.post enc Tryd.prog Tryd.f7 false true false false) := by
  refine returnsInHanded_of_change_and (C := Tryd.checked) (X := fun w _ => laidMetH Tryd.prog Rows.fnExactPsgOKRow.laid w) (fun _ _ _ hh h => h.of_heap hh) own started (by kernel_rfl) Tryd.func7
    (ChangeSpec.witness_shaped (enc := enc) (C := Tryd.checked) (os := os) (X := fun w _ => laidMetH Tryd.prog Rows.fnExactPsgOKRow.laid w) false (World.doorLaid Tryd.prog 400 os) #[sgV zeS] 8 rfl (World.shaped_of_RefB (by kernel_rfl) (by kernel_rfl)) (by kernel_rfl) (by kernel_rfl) (by kernel_rfl) (door_met os _)) ?_
  intro W base args ds gs before hval0 hW _ _ hL _
  have hval : ∀ (j : Nat) t v, Tryd.f7.params[j]? = some t → args[j]? = some v → Value.okWide Tryd.prog W .any base t v := hval0
  have hW' := hW
  obtain ⟨p, q, hA0, hV, hbefore, hfz, hnd⟩ := hW
  have hA : DataW.TrodAll enc Tryd.prog W 0 (fun _ => true) true Tryd.f7.params.toList args.toList ds p := hA0
  rw [Tryd.params7] at hA hval
  obtain ⟨v0, vs0, d0, ds0, p0, q0, hargs, rfl, rfl, h0, r0⟩ := trodAll_cons hA
  obtain ⟨rfl, rfl, rfl⟩ := trodAll_nil r0
  obtain rfl : args = #[v0] := by cases args; simp_all
  obtain ⟨g0, rfl⟩ := vars1_form hV
  have k0 := h0
  have lt0 : ∀ x ∈ p0, x.block < W.heap.size := by obtain ⟨m, hm⟩ := k0; exact DataW.trod_lt m _ _ _ hm
  obtain ⟨c0, rfl⟩ := sg_in (hval 0 39 v0 rfl rfl) h0
  clear hA0 hval0
  refine (walk c0 W  (pbit_of hL)).mono fun e W' ⟨he, bel⟩ => ?_
  subst he
  exact ⟨_, rfl, _, _, _, [], _, _, hW', trodAll_mk1 (shut_bool Tryd.underlying4 _), (trodAll_cons_mk (Below.trod laidOut (by kernel_rfl) (of_decide_eq_true (by kernel_rfl)) k0 bel lt0) trodAll_mk0), Below.trodVars laidOut bel (by kernel_rfl) hV, bel.frame _, fun h => by cases h⟩

theorem said : Rows.FnExactPsgOKSaid :=
  OpenClaim.holds_of_wide 7 Tryd.f7 rfl rfl rfl rfl rfl rfl rfl ⟨rfl, rfl, rfl, rfl, rfl⟩ rfl rfl rfl rfl rfl (by kernel_rfl) Tryd.func7 (by kernel_rfl)
    (of_decide_eq_true (by kernel_rfl)) (by unfold Func.isWrapper; first | (rw [if_pos (by decide +kernel)]; kernel_rfl) | (rw [if_neg (by decide +kernel)]; exact ⟨rfl, rfl⟩))
    (fun os started H enc _ => lifted os started H enc)

theorem card : Rows.FnExactPsgOKCardSaid :=
  Claim7.holds_tied_plain_at .later [] _ _ _ _ said (fun _ h => by cases h) (by kernel_rfl) (fun _ h => by cases h) fnExactPsgOK_row_tie rfl ⟨rfl, rfl⟩ (by kernel_rfl) rfl
    (fun f fn hf hfn => by
      obtain rfl : f = 7 := Option.some.inj ((show Tryd.prog.funcNamed "loop.example/g00644/laws.FnExactPsgOK" = some 7 by kernel_rfl).symm.trans hf) |>.symm
      obtain rfl : fn = Tryd.f7 := (Option.some.inj (Tryd.func7.symm.trans hfn)).symm
      exact ⟨by kernel_rfl, fun j t ht => by
        rw [Tryd.params7] at ht
        have hm : t ∈ [39] := by simpa using Array.mem_of_getElem? ht
        have hall : ([39].all fun u => !Tryd.prog.wantsStandIn u) = true := by kernel_rfl
        exact (show Tryd.prog.wantsStandIn t = false by simpa using List.all_eq_true.1 hall t hm)⟩)
    (by kernel_rfl)
end Go.Proofs.YtjdgfbaioafjcaaDoor.fnExactPsgOK
namespace Go.Proofs.YtjdgfbaioafjcaaDoor
theorem fnExactPsgOK_holds : Rows.FnExactPsgOKCardSaid := fnExactPsgOK.card
#print axioms fnExactPsgOK_holds
end Go.Proofs.YtjdgfbaioafjcaaDoor
