/- The law FnExactNewPorts returns true: impl.NewPorts answers as spec.NewPorts. -/
import Derived.Test.YtdfadiicjkenfaaRows
import Derived.Test.YtdfadiicjkenfaaOa
import Derived.Test.YtdfadiicjkenfaaOb
import Derived.WalkKit
import Derived.ProofKit
import Derived.OpenShut
import Derived.ShutString
import Derived.ChangeOld
import Derived.Below
import Derived.Lib.SmallJoins
namespace Go.Proofs.Ytdfadiicjkenfaa.fnExactNewPorts
open Go.ChangeShapes Go.WideShapes Go.ChangeAt Go.RowKit Go.Joins
open Go.ChangeMaps (open_string shut_string)
set_option linter.unusedVariables false

theorem own : ownKnob Try.prog.godebug = none := by kernel_rfl
theorem laidOut : laidOutB Try.prog = true := by kernel_rfl

set_option maxRecDepth 100000 in
set_option maxHeartbeats 4000000 in
theorem walk  (w : World)  :
    Calls Try.prog 5 #[] w fun e w' => e = .returned (.bool true) ∧ Below w.heap.size w w' := by
  go_enter Try.func5, Try.ntmps5
  go_wp2_with fail
  refine (newp_spec _).mono ?_
  rintro e w1 ⟨rfl, hb1⟩
  have hb2 := hid hb1
  have q1 := hid (Blk.new w1 (poA neP) 26)
  clear hb1
  go_wp2_with fail
  refine (newp_impl _).mono ?_
  rintro e w2 ⟨rfl, hb3⟩
  have q2 := (q1.out.below hb3 q1.out.lt)
  have hl2 := q2.lt
  have x2 := q2.cell
  have hb4 : Hid (Below w.heap.size w w2) := (hb2.out.alloc hb2.out.size _).trans (hb3.mono (by rw [World.size_alloc]; have := hb2.out.size; omega))
  clear hb3 hb2 q1 q2
  go_wp2_with fail
  refine (eqp_yes neP _).mono ?_
  rintro e w3 ⟨rfl, hb5⟩
  have hb6 : Hid (Below w.heap.size w w3) := (hb4.out.alloc hb4.out.size _).trans (hb5.mono (by rw [World.size_alloc]; have := hb4.out.size; omega))
  clear hb5 hb4
  go_wp2
  go_ret
  exact ⟨rfl, hb6.out⟩

set_option maxRecDepth 100000 in
theorem lifted (os : Os) (started : os.Started) (H : Type) (enc : TypeId × Value → H) :
    ReturnsInHanded {} Try.checked os 5 .any (Rows.fnExactNewPortsSpec.pre6 enc Try.prog Try.f5 Rows.fnExactNewPortsRow.domain false) (Rows.fnExactNewPortsSpec.post enc Try.prog Try.f5 false true false false) := by
  refine returnsInHanded_of_change (C := Try.checked) own started (by kernel_rfl) Try.func5
    (ChangeSpec.witness6 (enc := enc) (C := Try.checked) false ⟨#[], #[], []⟩ 8 (by kernel_rfl) (by kernel_rfl) (by kernel_rfl) (by kernel_rfl)) ?_
  intro W base args ds gs before hval0 hW hcnd _
  have hval : ∀ (j : Nat) t v, Try.f5.params[j]? = some t → args[j]? = some v → Value.okWide Try.prog W .any base t v := hval0
  have hW' := hW
  obtain ⟨p, q, hA0, hV, rfl, hfz, hnd⟩ := hW
  have hA : DataW.TrodAll enc Try.prog W 0 (fun _ => true) true Try.f5.params.toList args.toList ds p := hA0
  rw [Try.params5] at hA hval
  obtain ⟨hargs, rfl, rfl⟩ := trodAll_nil hA
  obtain rfl : args = #[] := by cases args; simp_all
  obtain ⟨rfl, rfl⟩ := trodVars_none hV

  clear hA0 hval0
  refine (walk  W ).mono fun e W' ⟨he, bel⟩ => ?_
  subst he
  exact ⟨_, rfl, _, _, _, [], _, [], hW', (trodAll_cons_mk (shut_bool Try.underlying4 _) trodAll_mk0), trodAll_mk0, rfl, bel.frame _, fun h => by cases h⟩

theorem said : Rows.FnExactNewPortsSaid :=
  OpenClaim.holds_of_wide 5 Try.f5 rfl rfl rfl rfl rfl rfl rfl ⟨rfl, rfl, rfl, rfl, rfl⟩ rfl rfl rfl rfl rfl (by kernel_rfl) Try.func5 (by kernel_rfl)
    (of_decide_eq_true (by kernel_rfl)) (by unfold Func.isWrapper; first | (rw [if_pos (by decide +kernel)]; kernel_rfl) | (rw [if_neg (by decide +kernel)]; exact ⟨rfl, rfl⟩))
    (fun os started H enc _ => lifted os started H enc)
end Go.Proofs.Ytdfadiicjkenfaa.fnExactNewPorts
namespace Go.Proofs.Ytdfadiicjkenfaa
theorem fnExactNewPorts_holds : Rows.FnExactNewPortsSaid := fnExactNewPorts.said
#print axioms fnExactNewPorts_holds
end Go.Proofs.Ytdfadiicjkenfaa
