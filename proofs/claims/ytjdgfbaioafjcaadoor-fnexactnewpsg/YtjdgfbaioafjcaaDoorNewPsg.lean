/- At its call the law FnExactNewPsg returns true: impl.NewPsg answers as spec.NewPsg, the program's table of registers' bits being as its text lays it. -/
import Derived.Test.YtjdgfbaioafjcaaDoorCards
import Derived.Test.YtjdgfbaioafjcaaDoorTie
import Derived.Test.YtjdgfbaioafjcaaDoorYa
import Derived.Test.YtjdgfbaioafjcaaDoorYc
import Derived.Test.YtjdgfbaioafjcaaDoorYp
import Derived.Test.YtjdgfbaioafjcaaDoorYx
import Derived.WalkKit
import Derived.ProofKit
import Derived.OpenShut
import Derived.ShutString
import Derived.ChangeOld
import Derived.Below
import Derived.LaidMore
import Derived.OpenVars
import Derived.SevenTiedAt
import Derived.Stop.Joined
import Derived.Lib.SmallJoins
import Derived.Deep.MidRow
namespace Go.Proofs.YtjdgfbaioafjcaaDoor.fnExactNewPsg
open Go.ChangeShapes Go.WideShapes Go.ChangeAt Go.RowKit Go.Joins
open Go.ChangeMaps (open_string shut_string)
set_option linter.unusedVariables false

theorem own : ownKnob Tryd.prog.godebug = none := by kernel_rfl
theorem laidOut : laidOutB Tryd.prog = true := by kernel_rfl

set_option maxRecDepth 100000 in
set_option maxHeartbeats 4000000 in
theorem walk  (w : World)  (hL : PBit w) :
    Calls Tryd.prog 6 #[] w fun e w' => e = .returned (.bool true) ∧ Below w.heap.size w w' := by
  obtain ⟨C, hC⟩ : ∃ C, neS = C := ⟨_, rfl⟩
  have h1 := hid (fun w1 => news_spec w1)
  have h2 := hid (fun w1 (h : PBit w1) => newsg_impl w1 h)
  rw [hC] at h1 h2
  clear hC
  replace hL := hid hL
  go_enter Tryd.func6, Tryd.ntmps6
  go_wp2_with fail
  refine (h1.out _).mono ?_
  rintro e w1 ⟨rfl, hb⟩
  have hb1 := hid (hb.alloc hb.size (.cells (sgA C) 27))
  have hP1 := hid ((hL.out.below hb).alloc (.cells (sgA C) 27))
  have q1 := hid (Blk.new w1 (sgA C) 27)
  clear hb hL
  go_upto_region 2 with fail
  obtain ⟨b1, hB1⟩ : ∃ b1, w1.heap.size = b1 := ⟨_, rfl⟩
  obtain ⟨W1, hW1⟩ : ∃ W1, w1.alloc (.cells (sgA C) 27) = W1 := ⟨_, rfl⟩
  rw [hW1] at q1 hb1 hP1 ⊢
  rw [hB1] at q1 ⊢
  clear hW1 hB1
  go_wp2_with fail
  refine (h2.out _ hP1.out).mono ?_
  rintro e w2 ⟨rfl, hb⟩
  have r2 := hid ((q1.out.below hb q1.out.lt).alloc (.cells (sgA C) 27))
  have hb2 := hid ((new_trans hb1.out hb).alloc (new_trans hb1.out hb).size (.cells (sgA C) 27))
  have s2 := hid (Blk.new w2 (sgA C) 27)
  clear hb q1 hb1 hP1
  go_upto_region 3 with fail
  obtain ⟨b2, hB2⟩ : ∃ b2, w2.heap.size = b2 := ⟨_, rfl⟩
  obtain ⟨W2, hW2⟩ : ∃ W2, w2.alloc (.cells (sgA C) 27) = W2 := ⟨_, rfl⟩
  rw [hW2] at r2 hb2 s2 ⊢
  rw [hB2] at s2 ⊢
  clear hW2 hB2
  have gr := hid (sg_range r2.out)
  have gs := hid (sg_range s2.out)
  go_wp2_with (first | (guard_target = wpList _ _ _ (Oper.mk _ (Op.load _ _) _ _ _ _ :: _) _ _; refine wpList_load_mid rfl 27 _ rfl b2 0 rfl (sgA C).toList _ gs.out Tryd.underlying27 rfl (sg_size C) ?_) | (guard_target = wpList _ _ _ (Oper.mk _ (Op.load _ _) _ _ _ _ :: _) _ _; refine wpList_load_mid rfl 27 _ rfl b1 0 rfl (sgA C).toList _ gr.out Tryd.underlying27 rfl (sg_size C) ?_))
  refine (eqsg C _).mono ?_
  rintro e w3 ⟨rfl, hb⟩
  have hb3 := hid (new_trans hb2.out hb)
  clear hb r2 s2 hb2 gr gs
  go_wp2
  go_ret
  exact ⟨rfl, hb3.out⟩

theorem door_met (os : Os) (args : Array Value) : laidMetH Tryd.prog Rows.fnExactNewPsgRow.laid ((World.doorLaid Tryd.prog 400 os).forCall (fun _ _ => 0) ⟨#[], args, []⟩).memory :=
  laidMetH_of_parts3 (fuel := 8) (laidMet_of_run' 8 (by kernel_rfl) (by kernel_rfl)) (by kernel_rfl) (by kernel_rfl)

set_option maxRecDepth 100000 in
theorem lifted (os : Os) (started : os.Started) (H : Type) (enc : TypeId × Value → H) :
    ReturnsInHanded {} Tryd.checked os 6 .any (fun w args => (Rows.fnExactNewPsgSpec.pre enc Tryd.prog Tryd.f6 [] false w args ∧ laidMetH Tryd.prog Rows.fnExactNewPsgRow.laid w) ∧ sizedMet enc Tryd.prog Tryd.f6 (OpenSpec.ofChange Rows.fnExactNewPsgSpec) false w args)
      (Rows.fnExactNewPsgSpec.post enc Tryd.prog Tryd.f6 false true false false) := by
  refine returnsInHanded_of_change_and (C := Tryd.checked) (X := fun w _ => laidMetH Tryd.prog Rows.fnExactNewPsgRow.laid w) (fun _ _ _ hh h => h.of_heap hh) own started (by kernel_rfl) Tryd.func6
    (ChangeSpec.witness_shaped (enc := enc) (C := Tryd.checked) (os := os) (X := fun w _ => laidMetH Tryd.prog Rows.fnExactNewPsgRow.laid w) false (World.doorLaid Tryd.prog 400 os) #[] 8 rfl (World.shaped_of_RefB (by kernel_rfl) (by kernel_rfl)) (by kernel_rfl) (by kernel_rfl) (by kernel_rfl) (door_met os _)) ?_
  intro W base args ds gs before hval0 hW _ _ hL _
  have hval : ∀ (j : Nat) t v, Tryd.f6.params[j]? = some t → args[j]? = some v → Value.okWide Tryd.prog W .any base t v := hval0
  have hW' := hW
  obtain ⟨p, q, hA0, hV, hbefore, hfz, hnd⟩ := hW
  have hA : DataW.TrodAll enc Tryd.prog W 0 (fun _ => true) true Tryd.f6.params.toList args.toList ds p := hA0
  rw [Tryd.params6] at hA hval
  obtain ⟨hargs, rfl, rfl⟩ := trodAll_nil hA
  obtain rfl : args = #[] := by cases args; simp_all
  obtain ⟨g0, rfl⟩ := vars1_form hV

  clear hA0 hval0
  refine (walk  W  (pbit_of hL)).mono fun e W' ⟨he, bel⟩ => ?_
  subst he
  exact ⟨_, rfl, _, _, _, [], _, _, hW', trodAll_mk1 (shut_bool Tryd.underlying4 _), trodAll_mk0, Below.trodVars laidOut bel (by kernel_rfl) hV, bel.frame _, fun h => by cases h⟩

theorem said : Rows.FnExactNewPsgSaid :=
  OpenClaim.holds_of_wide 6 Tryd.f6 rfl rfl rfl rfl rfl rfl rfl ⟨rfl, rfl, rfl, rfl, rfl⟩ rfl rfl rfl rfl rfl (by kernel_rfl) Tryd.func6 (by kernel_rfl)
    (of_decide_eq_true (by kernel_rfl)) (by unfold Func.isWrapper; first | (rw [if_pos (by decide +kernel)]; kernel_rfl) | (rw [if_neg (by decide +kernel)]; exact ⟨rfl, rfl⟩))
    (fun os started H enc _ => lifted os started H enc)

theorem card : Rows.FnExactNewPsgCardSaid :=
  Claim7.holds_tied_plain_at .later [] _ _ _ _ said (fun _ h => by cases h) (by kernel_rfl) (fun _ h => by cases h) fnExactNewPsg_row_tie rfl ⟨rfl, rfl⟩ (by kernel_rfl) rfl
    (fun f fn hf hfn => by
      obtain rfl : f = 6 := Option.some.inj ((show Tryd.prog.funcNamed "loop.example/g00644/laws.FnExactNewPsg" = some 6 by kernel_rfl).symm.trans hf) |>.symm
      obtain rfl : fn = Tryd.f6 := (Option.some.inj (Tryd.func6.symm.trans hfn)).symm
      exact ⟨by kernel_rfl, fun j t ht => by
        rw [Tryd.params6] at ht
        have hm : t ∈ [] := by simpa using Array.mem_of_getElem? ht
        have hall : ([].all fun u => !Tryd.prog.wantsStandIn u) = true := by kernel_rfl
        exact (show Tryd.prog.wantsStandIn t = false by simpa using List.all_eq_true.1 hall t hm)⟩)
    (by kernel_rfl)
end Go.Proofs.YtjdgfbaioafjcaaDoor.fnExactNewPsg
namespace Go.Proofs.YtjdgfbaioafjcaaDoor
theorem fnExactNewPsg_holds : Rows.FnExactNewPsgCardSaid := fnExactNewPsg.card
#print axioms fnExactNewPsg_holds
end Go.Proofs.YtjdgfbaioafjcaaDoor
