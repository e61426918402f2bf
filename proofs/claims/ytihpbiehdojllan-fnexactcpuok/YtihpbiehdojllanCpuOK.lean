/- For every processor the law FnExactCpuOK returns true: impl.CpuOK answers as spec.CpuOK. -/
import Derived.Test.YtihpbiehdojllanRows
import Derived.Test.YtihpbiehdojllanBase
import Derived.Test.YtihpbiehdojllanIn
import Derived.Test.YtihpbiehdojllanBt
import Derived.Test.YtihpbiehdojllanMa
import Derived.Test.YtihpbiehdojllanBl
import Derived.Test.YtihpbiehdojllanHi
import Derived.Test.YtihpbiehdojllanMb
import Derived.Test.YtihpbiehdojllanMc
import Derived.Test.YtihpbiehdojllanMd
import Derived.Test.YtihpbiehdojllanMh
import Derived.Test.YtihpbiehdojllanMf
import Derived.Test.YtihpbiehdojllanMg
import Derived.Test.YtihpbiehdojllanMi
import Derived.Test.YtihpbiehdojllanMj
import Derived.Test.YtihpbiehdojllanPa
import Derived.Test.YtihpbiehdojllanAu
import Derived.Test.YtihpbiehdojllanAd
import Derived.Test.YtihpbiehdojllanAe
import Derived.Test.YtihpbiehdojllanAf
import Derived.Test.YtihpbiehdojllanAg
import Derived.Test.YtihpbiehdojllanIa
import Derived.Test.YtihpbiehdojllanIb
import Derived.Test.YtihpbiehdojllanCa
import Derived.Test.YtihpbiehdojllanMw
import Derived.Test.YtihpbiehdojllanCb
import Derived.Test.YtihpbiehdojllanHa
import Derived.Test.YtihpbiehdojllanCl
import Derived.Test.YtihpbiehdojllanCpf
import Derived.Test.YtihpbiehdojllanCi
import Derived.WalkKit
import Derived.ProofKit
import Derived.OpenShut
import Derived.ShutString
import Derived.ChangeOld
import Derived.Below
import Derived.Lib.SmallJoins
namespace Go.Proofs.Ytihpbiehdojllan.fnExactCpuOK
open Go.ChangeShapes Go.WideShapes Go.ChangeAt Go.RowKit Go.Joins
open Go.ChangeMaps (open_string shut_string)
set_option linter.unusedVariables false

theorem own : ownKnob Try.prog.godebug = none := by kernel_rfl
theorem laidOut : laidOutB Try.prog = true := by kernel_rfl

set_option maxRecDepth 100000 in
set_option maxHeartbeats 2000000 in
theorem walk (c0 : Cu) (w : World)  :
    Calls Try.prog 4 #[cuV c0] w fun e w' => e = .returned (.bool true) ∧ Below w.heap.size w w' := by
  obtain ⟨b, hv⟩ : ∃ b, okC c0 = b := ⟨_, rfl⟩
  replace hv := hid hv
  have q0 := hid (Blk.new w (cuA c0) 28)
  have hb0 := hid ((Below.refl w.heap.size w).alloc (Nat.le_refl _) (.cells (cuA c0) 28))
  have x0 := q0.out.cell
  go_enter Try.func4, Try.ntmps4
  go_upto_region 1 with fail
  obtain ⟨V, hV⟩ : ∃ V, w.alloc (Obj.cells (cuA c0) 28) = V := ⟨_, rfl⟩
  rw [hV] at q0 hb0 x0 ⊢
  clear hV
  go_wp2_with fail
  refine (toc c0 _).mono ?_
  rintro e w1 ⟨rfl, hb⟩
  have q1 := hid (q0.out.below hb q0.out.lt)
  have hb1 := hid (new_trans hb0.out hb)
  have x1 := q1.out.cell
  clear hb q0 hb0 x0
  go_wp2_with fail
  refine (cpuok_spec c0 _).mono ?_
  rintro e w2 ⟨rfl, hb⟩
  rw [hv.out]
  have q2 := hid (q1.out.below hb q1.out.lt)
  have hb2 := hid (new_trans hb1.out hb)
  have x2 := q2.out.cell
  clear hb q1 hb1 x1
  go_wp2_with fail
  refine (toc c0 _).mono ?_
  rintro e w3 ⟨rfl, hb⟩
  have hb3 := hid (new_trans hb2.out hb)
  clear hb q2 hb2 x2
  go_wp2_with fail
  refine (cpuok_impl c0 _).mono ?_
  rintro e w4 ⟨rfl, hb⟩
  rw [hv.out]
  have hb4 := hid (new_trans hb3.out hb)
  clear hb hb3
  cases b
  · go_wp2
    go_ret
    exact ⟨rfl, hb4.out⟩
  · go_wp2
    go_ret
    exact ⟨rfl, hb4.out⟩

set_option maxRecDepth 100000 in
theorem lifted (os : Os) (started : os.Started) (H : Type) (enc : TypeId × Value → H) :
    ReturnsInHanded {} Try.checked os 4 .any (Rows.fnExactCpuOKSpec.pre6 enc Try.prog Try.f4 Rows.fnExactCpuOKRow.domain false) (Rows.fnExactCpuOKSpec.post enc Try.prog Try.f4 false true false false) := by
  refine returnsInHanded_of_change (C := Try.checked) own started (by kernel_rfl) Try.func4
    (ChangeSpec.witness6 (enc := enc) (C := Try.checked) false ⟨#[], #[cuV ⟨0, 0, 0, 0, 0, 0, 0, 0, 0, 0, 0, false, false, false⟩], []⟩ 8 (by kernel_rfl) (by kernel_rfl) (by kernel_rfl) (by kernel_rfl)) ?_
  intro W base args ds gs before hval0 hW hcnd _
  have hval : ∀ (j : Nat) t v, Try.f4.params[j]? = some t → args[j]? = some v → Value.okWide Try.prog W .any base t v := hval0
  have hW' := hW
  obtain ⟨p, q, hA0, hV, rfl, hfz, hnd⟩ := hW
  have hA : DataW.TrodAll enc Try.prog W 0 (fun _ => true) true Try.f4.params.toList args.toList ds p := hA0
  rw [Try.params4] at hA hval
  obtain ⟨v0, vs0, d0, ds0, p0, q0, hargs, rfl, rfl, h0, r0⟩ := trodAll_cons hA
  obtain ⟨rfl, rfl, rfl⟩ := trodAll_nil r0
  obtain rfl : args = #[v0] := by cases args; simp_all
  obtain ⟨rfl, rfl⟩ := trodVars_none hV
  have k0 := h0
  have lt0 : ∀ x ∈ p0, x.block < W.heap.size := by obtain ⟨m, hm⟩ := k0; exact DataW.trod_lt m _ _ _ hm
  obtain ⟨c0, rfl⟩ := cpu_in (hval 0 28 v0 rfl rfl) h0
  clear hA0 hval0
  refine (walk c0 W ).mono fun e W' ⟨he, bel⟩ => ?_
  subst he
  exact ⟨_, rfl, _, _, _, [], _, [], hW', (trodAll_cons_mk (shut_bool Try.underlying4 _) trodAll_mk0), (trodAll_cons_mk (Below.trod laidOut (by kernel_rfl) (of_decide_eq_true (by kernel_rfl)) k0 bel lt0) trodAll_mk0), rfl, bel.frame _, fun h => by cases h⟩

theorem said : Rows.FnExactCpuOKSaid :=
  OpenClaim.holds_of_wide 4 Try.f4 rfl rfl rfl rfl rfl rfl rfl ⟨rfl, rfl, rfl, rfl, rfl⟩ rfl rfl rfl rfl rfl (by kernel_rfl) Try.func4 (by kernel_rfl)
    (of_decide_eq_true (by kernel_rfl)) (by unfold Func.isWrapper; first | (rw [if_pos (by decide +kernel)]; kernel_rfl) | (rw [if_neg (by decide +kernel)]; exact ⟨rfl, rfl⟩))
    (fun os started H enc _ => lifted os started H enc)
end Go.Proofs.Ytihpbiehdojllan.fnExactCpuOK
namespace Go.Proofs.Ytihpbiehdojllan
theorem fnExactCpuOK_holds : Rows.FnExactCpuOKSaid := fnExactCpuOK.said
#print axioms fnExactCpuOK_holds
end Go.Proofs.Ytihpbiehdojllan
