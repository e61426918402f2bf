/- For every sound chip and number the law FnExactSelectReg returns true: impl.SelectReg answers as spec.SelectReg, the program's table of registers' bits being as its text lays it. -/
import Derived.Test.YtjdgfbaioafjcaaDoorCards
import Derived.Test.YtjdgfbaioafjcaaDoorTie
import Derived.Test.YtjdgfbaioafjcaaDoorYa
import Derived.Test.YtjdgfbaioafjcaaDoorYb
import Derived.Test.YtjdgfbaioafjcaaDoorYc
import Derived.Test.YtjdgfbaioafjcaaDoorYp
import Derived.Test.YtjdgfbaioafjcaaDoorYq
import Derived.Test.YtjdgfbaioafjcaaDoorYx
import Derived.WalkKit
import Derived.ProofKit
import Derived.OpenShut
import Derived.ShutString
import Derived.ChangeOld
import Derived.Below
import Derived.LaidMore
import Derived.OpenVars
import Derived.SevenTiedAt
import Derived.Stop.Joined
import Derived.Lib.SmallJoins
import Derived.Deep.MidRow
namespace Go.Proofs.YtjdgfbaioafjcaaDoor.fnExactSelectReg
open Go.ChangeShapes Go.WideShapes Go.ChangeAt Go.RowKit Go.Joins
open Go.ChangeMaps (open_string shut_string)
set_option linter.unusedVariables false

theorem own : ownKnob Tryd.prog.godebug = none := by kernel_rfl
theorem laidOut : laidOutB Tryd.prog = true := by kernel_rfl

set_option maxRecDepth 100000 in
set_option maxHeartbeats 4000000 in
theorem walk (c0 : Sg) (a1 : Int) (w : World) (w1 : (Lit.int .i64 a1).wf = true) (hL : PBit w) :
    Calls Tryd.prog 8 #[sgV c0, .int .i64 a1] w fun e w' => e = .returned (.bool true) ∧ Below w.heap.size w w' := by
  obtain ⟨R, k, hR⟩ : ∃ (R : Sg) (k : Int), sel2 c0 a1 = (R, k) := ⟨_, _, rfl⟩
  have h1 := hid (fun w1 => sel_spec c0 a1 w1)
  have h2 := hid (fun w1 (h : PBit w1) => sel_impl c0 a1 w1 h)
  rw [hR] at h1 h2
  clear hR
  have q0 := hid (Blk.new w (sgA c0) 39)
  have hb0 := hid ((Below.refl w.heap.size w).alloc (Nat.le_refl _) (.cells (sgA c0) 39))
  have hP0 := hid (hL.alloc (.cells (sgA c0) 39))
  have g0 := hid (sg_range q0.out)
  clear hL
  go_enter Tryd.func8, Tryd.ntmps8
  go_upto_region 1 with fail
  obtain ⟨V, hV⟩ : ∃ V, w.alloc (Obj.cells (sgA c0) 39) = V := ⟨_, rfl⟩
  rw [hV] at q0 hb0 hP0 g0 ⊢
  clear hV
  go_wp2_with (guard_target = wpList _ _ _ (Oper.mk _ (Op.load _ _) _ _ _ _ :: _) _ _; refine wpList_load_mid rfl 39 _ rfl w.heap.size 0 rfl (sgA c0).toList _ g0.out Tryd.underlying39 rfl (sg_sizeL c0) ?_)
  refine (tosg c0 _).mono ?_
  rintro e w1 ⟨rfl, hb⟩
  have q1 := hid (q0.out.below hb q0.out.lt)
  have hb1 := hid (new_trans hb0.out hb)
  have hP1 := hid (hP0.out.below hb)
  have g1 := hid (sg_range q1.out)
  clear hb q0 hb0 hP0 g0
  go_wp2_with fail
  refine (h1.out _).mono ?_
  rintro e w2 ⟨rfl, hb⟩
  have q2 := hid ((q1.out.below hb q1.out.lt).alloc (.cells (sgA R) 27))
  have hb2 := hid ((new_trans hb1.out hb).alloc (new_trans hb1.out hb).size (.cells (sgA R) 27))
  have hP2 := hid ((hP1.out.below hb).alloc (.cells (sgA R) 27))
  have r2 := hid (Blk.new w2 (sgA R) 27)
  have g2 := hid (sg_range q2.out)
  clear hb q1 hb1 hP1 g1
  go_upto_region 2 with fail
  obtain ⟨b2, hB2⟩ : ∃ b2, w2.heap.size = b2 := ⟨_, rfl⟩
  obtain ⟨W2, hW2⟩ : ∃ W2, w2.alloc (.cells (sgA R) 27) = W2 := ⟨_, rfl⟩
  rw [hW2] at q2 hb2 hP2 r2 g2 ⊢
  rw [hB2] at r2 ⊢
  clear hW2 hB2
  go_wp2_with (guard_target = wpList _ _ _ (Oper.mk _ (Op.load _ _) _ _ _ _ :: _) _ _; refine wpList_load_mid rfl 39 _ rfl w.heap.size 0 rfl (sgA c0).toList _ g2.out Tryd.underlying39 rfl (sg_sizeL c0) ?_)
  refine (tosg c0 _).mono ?_
  rintro e w3 ⟨rfl, hb⟩
  have hb3 := hid (new_trans hb2.out hb)
  have hP3 := hid (hP2.out.below hb)
  have r3 := hid (r2.out.below hb r2.out.lt)
  clear hb q2 hb2 hP2 r2 g2
  go_wp2_with fail
  refine (h2.out _ hP3.out).mono ?_
  rintro e w4 ⟨rfl, hb⟩
  have r4 := hid ((r3.out.below hb r3.out.lt).alloc (.cells (sgA R) 27))
  have hb4 := hid ((new_trans hb3.out hb).alloc (new_trans hb3.out hb).size (.cells (sgA R) 27))
  have s4 := hid (Blk.new w4 (sgA R) 27)
  clear hb r3 hb3 hP3
  go_upto_region 3 with fail
  obtain ⟨b4, hB4⟩ : ∃ b4, w4.heap.size = b4 := ⟨_, rfl⟩
  obtain ⟨W4, hW4⟩ : ∃ W4, w4.alloc (.cells (sgA R) 27) = W4 := ⟨_, rfl⟩
  rw [hW4] at r4 hb4 s4 ⊢
  rw [hB4] at s4 ⊢
  clear hW4 hB4
  have gr := hid (sg_range r4.out)
  have gs := hid (sg_range s4.out)
  go_wp2_with (first | (guard_target = wpList _ _ _ (Oper.mk _ (Op.load _ _) _ _ _ _ :: _) _ _; refine wpList_load_mid rfl 27 _ rfl b4 0 rfl (sgA R).toList _ gs.out Tryd.underlying27 rfl (sg_size R) ?_) | (guard_target = wpList _ _ _ (Oper.mk _ (Op.load _ _) _ _ _ _ :: _) _ _; refine wpList_load_mid rfl 27 _ rfl b2 0 rfl (sgA R).toList _ gr.out Tryd.underlying27 rfl (sg_size R) ?_))
  refine (eqsg R _).mono ?_
  rintro e w5 ⟨rfl, hb⟩
  have hb5 := hid (new_trans hb4.out hb)
  clear hb r4 s4 hb4 gr gs
  go_wp2
  go_ret
  exact ⟨rfl, hb5.out⟩

theorem door_met (os : Os) (args : Array Value) : laidMetH Tryd.prog Rows.fnExactSelectRegRow.laid ((World.doorLaid Tryd.prog 400 os).forCall (fun _ _ => 0) ⟨#[], args, []⟩).memory :=
  laidMetH_of_parts3 (fuel := 8) (laidMet_of_run' 8 (by kernel_rfl) (by kernel_rfl)) (by kernel_rfl) (by kernel_rfl)

set_option maxRecDepth 100000 in
theorem lifted (os : Os) (started : os.Started) (H : Type) (enc : TypeId × Value → H) :
    ReturnsInHanded {} Tryd.checked os 8 .any (fun w args => (Rows.fnExactSelectRegSpec.pre enc Tryd.prog Tryd.f8 [] false w args ∧ laidMetH Tryd.prog Rows.fnExactSelectRegRow.laid w) ∧ sizedMet enc Tryd.prog Tryd.f8 (OpenSpec.ofChange Rows.fnExactSelectRegSpec) false w args)
      (Rows.fnExactSelectRegSpec.post enc Tryd.prog Tryd.f8 false true false false) := by
  refine returnsInHanded_of_change_and (C := Tryd.checked) (X := fun w _ => laidMetH Tryd.prog Rows.fnExactSelectRegRow.laid w) (fun _ _ _ hh h => h.of_heap hh) own started (by kernel_rfl) Tryd.func8
    (ChangeSpec.witness_shaped (enc := enc) (C := Tryd.checked) (os := os) (X := fun w _ => laidMetH Tryd.prog Rows.fnExactSelectRegRow.laid w) false (World.doorLaid Tryd.prog 400 os) #[sgV zeS, .int .i64 0] 8 rfl (World.shaped_of_RefB (by kernel_rfl) (by kernel_rfl)) (by kernel_rfl) (by kernel_rfl) (by kernel_rfl) (door_met os _)) ?_
  intro W base args ds gs before hval0 hW _ _ hL _
  have hval : ∀ (j : Nat) t v, Tryd.f8.params[j]? = some t → args[j]? = some v → Value.okWide Tryd.prog W .any base t v := hval0
  have hW' := hW
  obtain ⟨p, q, hA0, hV, hbefore, hfz, hnd⟩ := hW
  have hA : DataW.TrodAll enc Tryd.prog W 0 (fun _ => true) true Tryd.f8.params.toList args.toList ds p := hA0
  rw [Tryd.params8] at hA hval
  obtain ⟨v0, vs0, d0, ds0, p0, q0, hargs, rfl, rfl, h0, r0⟩ := trodAll_cons hA
  obtain ⟨v1, vs1, d1, ds1, p1, q1, rfl, rfl, rfl, h1, r1⟩ := trodAll_cons r0
  obtain ⟨rfl, rfl, rfl⟩ := trodAll_nil r1
  obtain rfl : args = #[v0, v1] := by cases args; simp_all
  obtain ⟨g0, rfl⟩ := vars1_form hV
  have k0 := h0
  have lt0 : ∀ x ∈ p0, x.block < W.heap.size := by obtain ⟨m, hm⟩ := k0; exact DataW.trod_lt m _ _ _ hm
  obtain ⟨c0, rfl⟩ := sg_in (hval 0 39 v0 rfl rfl) h0
  obtain ⟨a1, rfl, rfl, rfl, w1⟩ := open_int Tryd.underlying3 (hval 1 3 v1 rfl rfl) h1
  clear hA0 hval0
  refine (walk c0 a1 W w1 (pbit_of hL)).mono fun e W' ⟨he, bel⟩ => ?_
  subst he
  exact ⟨_, rfl, _, _, _, [], _, _, hW', trodAll_mk1 (shut_bool Tryd.underlying4 _), (trodAll_cons_mk (Below.trod laidOut (by kernel_rfl) (of_decide_eq_true (by kernel_rfl)) k0 bel lt0) (trodAll_cons_mk (shut_int Tryd.underlying3 w1) trodAll_mk0)), Below.trodVars laidOut bel (by kernel_rfl) hV, bel.frame _, fun h => by cases h⟩

theorem said : Rows.FnExactSelectRegSaid :=
  OpenClaim.holds_of_wide 8 Tryd.f8 rfl rfl rfl rfl rfl rfl rfl ⟨rfl, rfl, rfl, rfl, rfl⟩ rfl rfl rfl rfl rfl (by kernel_rfl) Tryd.func8 (by kernel_rfl)
    (of_decide_eq_true (by kernel_rfl)) (by unfold Func.isWrapper; first | (rw [if_pos (by decide +kernel)]; kernel_rfl) | (rw [if_neg (by decide +kernel)]; exact ⟨rfl, rfl⟩))
    (fun os started H enc _ => lifted os started H enc)

theorem card : Rows.FnExactSelectRegCardSaid :=
  Claim7.holds_tied_plain_at .later [] _ _ _ _ said (fun _ h => by cases h) (by kernel_rfl) (fun _ h => by cases h) fnExactSelectReg_row_tie rfl ⟨rfl, rfl⟩ (by kernel_rfl) rfl
    (fun f fn hf hfn => by
      obtain rfl : f = 8 := Option.some.inj ((show Tryd.prog.funcNamed "loop.example/g00644/laws.FnExactSelectReg" = some 8 by kernel_rfl).symm.trans hf) |>.symm
      obtain rfl : fn = Tryd.f8 := (Option.some.inj (Tryd.func8.symm.trans hfn)).symm
      exact ⟨by kernel_rfl, fun j t ht => by
        rw [Tryd.params8] at ht
        have hm : t ∈ [39, 3] := by simpa using Array.mem_of_getElem? ht
        have hall : ([39, 3].all fun u => !Tryd.prog.wantsStandIn u) = true := by kernel_rfl
        exact (show Tryd.prog.wantsStandIn t = false by simpa using List.all_eq_true.1 hall t hm)⟩)
    (by kernel_rfl)
end Go.Proofs.YtjdgfbaioafjcaaDoor.fnExactSelectReg
namespace Go.Proofs.YtjdgfbaioafjcaaDoor
theorem fnExactSelectReg_holds : Rows.FnExactSelectRegCardSaid := fnExactSelectReg.card
#print axioms fnExactSelectReg_holds
end Go.Proofs.YtjdgfbaioafjcaaDoor
