/- For all ports the law FnExactPortsOK returns true: impl.PortsOK answers as spec.PortsOK. -/
import Derived.Test.YtdfadiicjkenfaaRows
import Derived.Test.YtdfadiicjkenfaaOa
import Derived.Test.YtdfadiicjkenfaaOb
import Derived.WalkKit
import Derived.ProofKit
import Derived.OpenShut
import Derived.ShutString
import Derived.ChangeOld
import Derived.Below
import Derived.Lib.SmallJoins
namespace Go.Proofs.Ytdfadiicjkenfaa.fnExactPortsOK
open Go.ChangeShapes Go.WideShapes Go.ChangeAt Go.RowKit Go.Joins
open Go.ChangeMaps (open_string shut_string)
set_option linter.unusedVariables false

theorem own : ownKnob Try.prog.godebug = none := by kernel_rfl
theorem laidOut : laidOutB Try.prog = true := by kernel_rfl

set_option maxRecDepth 100000 in
set_option maxHeartbeats 4000000 in
theorem walk (c0 : Po) (w : World)  :
    Calls Try.prog 6 #[poV c0] w fun e w' => e = .returned (.bool true) ∧ Below w.heap.size w w' := by
  obtain ⟨b, hv⟩ : ∃ b, okP c0 = b := ⟨_, rfl⟩
  replace hv := hid hv
  have q0 := hid (Blk.new w (poA c0) 39)
  have hb0 := hid ((Below.refl w.heap.size w).alloc (Nat.le_refl _) (.cells (poA c0) 39))
  have x0 := q0.out.cell
  go_enter Try.func6, Try.ntmps6
  go_upto_region 1 with fail
  obtain ⟨V, hV⟩ : ∃ V, w.alloc (Obj.cells (poA c0) 39) = V := ⟨_, rfl⟩
  rw [hV] at q0 hb0 x0 ⊢
  clear hV
  go_wp2_with fail
  refine (topo c0 _).mono ?_
  rintro e w1 ⟨rfl, hb⟩
  have q1 := hid (q0.out.below hb q0.out.lt)
  have hb1 := hid (new_trans hb0.out hb)
  have x1 := q1.out.cell
  clear hb q0 hb0 x0
  go_wp2_with fail
  refine (pok_spec c0 _).mono ?_
  rintro e w2 ⟨rfl, hb⟩
  rw [hv.out]
  have q2 := hid (q1.out.below hb q1.out.lt)
  have hb2 := hid (new_trans hb1.out hb)
  have x2 := q2.out.cell
  clear hb q1 hb1 x1
  go_wp2_with fail
  refine (topo c0 _).mono ?_
  rintro e w3 ⟨rfl, hb⟩
  have hb3 := hid (new_trans hb2.out hb)
  clear hb q2 hb2 x2
  go_wp2_with fail
  refine (pok_impl c0 _).mono ?_
  rintro e w4 ⟨rfl, hb⟩
  rw [hv.out]
  have hb4 := hid (new_trans hb3.out hb)
  clear hb hb3
  cases b
  · go_wp2
    go_ret
    exact ⟨rfl, hb4.out⟩
  · go_wp2
    go_ret
    exact ⟨rfl, hb4.out⟩

set_option maxRecDepth 100000 in
theorem lifted (os : Os) (started : os.Started) (H : Type) (enc : TypeId × Value → H) :
    ReturnsInHanded {} Try.checked os 6 .any (Rows.fnExactPortsOKSpec.pre6 enc Try.prog Try.f6 Rows.fnExactPortsOKRow.domain false) (Rows.fnExactPortsOKSpec.post enc Try.prog Try.f6 false true false false) := by
  refine returnsInHanded_of_change (C := Try.checked) own started (by kernel_rfl) Try.func6
    (ChangeSpec.witness6 (enc := enc) (C := Try.checked) false ⟨#[], #[poV zeP], []⟩ 8 (by kernel_rfl) (by kernel_rfl) (by kernel_rfl) (by kernel_rfl)) ?_
  intro W base args ds gs before hval0 hW hcnd _
  have hval : ∀ (j : Nat) t v, Try.f6.params[j]? = some t → args[j]? = some v → Value.okWide Try.prog W .any base t v := hval0
  have hW' := hW
  obtain ⟨p, q, hA0, hV, rfl, hfz, hnd⟩ := hW
  have hA : DataW.TrodAll enc Try.prog W 0 (fun _ => true) true Try.f6.params.toList args.toList ds p := hA0
  rw [Try.params6] at hA hval
  obtain ⟨v0, vs0, d0, ds0, p0, q0, hargs, rfl, rfl, h0, r0⟩ := trodAll_cons hA
  obtain ⟨rfl, rfl, rfl⟩ := trodAll_nil r0
  obtain rfl : args = #[v0] := by cases args; simp_all
  obtain ⟨rfl, rfl⟩ := trodVars_none hV
  have k0 := h0
  have lt0 : ∀ x ∈ p0, x.block < W.heap.size := by obtain ⟨m, hm⟩ := k0; exact DataW.trod_lt m _ _ _ hm
  obtain ⟨c0, rfl⟩ := ports_in (hval 0 39 v0 rfl rfl) h0
  clear hA0 hval0
  refine (walk c0 W ).mono fun e W' ⟨he, bel⟩ => ?_
  subst he
  exact ⟨_, rfl, _, _, _, [], _, [], hW', (trodAll_cons_mk (shut_bool Try.underlying4 _) trodAll_mk0), (trodAll_cons_mk (Below.trod laidOut (by kernel_rfl) (of_decide_eq_true (by kernel_rfl)) k0 bel lt0) trodAll_mk0), rfl, bel.frame _, fun h => by cases h⟩

theorem said : Rows.FnExactPortsOKSaid :=
  OpenClaim.holds_of_wide 6 Try.f6 rfl rfl rfl rfl rfl rfl rfl ⟨rfl, rfl, rfl, rfl, rfl⟩ rfl rfl rfl rfl rfl (by kernel_rfl) Try.func6 (by kernel_rfl)
    (of_decide_eq_true (by kernel_rfl)) (by unfold Func.isWrapper; first | (rw [if_pos (by decide +kernel)]; kernel_rfl) | (rw [if_neg (by decide +kernel)]; exact ⟨rfl, rfl⟩))
    (fun os started H enc _ => lifted os started H enc)
end Go.Proofs.Ytdfadiicjkenfaa.fnExactPortsOK
namespace Go.Proofs.Ytdfadiicjkenfaa
theorem fnExactPortsOK_holds : Rows.FnExactPortsOKSaid := fnExactPortsOK.said
#print axioms fnExactPortsOK_holds
end Go.Proofs.Ytdfadiicjkenfaa
