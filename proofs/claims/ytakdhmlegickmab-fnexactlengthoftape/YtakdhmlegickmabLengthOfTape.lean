/- For every list of numbers the law FnExactLengthOfTape returns true: impl.LengthOfTape answers as spec.LengthOfTape, and the list is as it was. -/
import Derived.Test.YtakdhmlegickmabRows
import Derived.Test.YtakdhmlegickmabVu
import Derived.Test.YtakdhmlegickmabVv
import Derived.WalkKit
import Derived.ProofKit
import Derived.OpenShut
import Derived.ShutString
import Derived.ChangeOld
import Derived.Below
import Derived.Lib.SmallJoins
namespace Go.Proofs.Ytakdhmlegickmab.fnExactLengthOfTape
open Go.ChangeShapes Go.WideShapes Go.ChangeAt Go.RowKit Go.Joins
open Go.ChangeMaps (open_string shut_string)
set_option linter.unusedVariables false

theorem own : ownKnob Try.prog.godebug = none := by kernel_rfl
theorem laidOut : laidOutB Try.prog = true := by kernel_rfl

set_option maxRecDepth 100000 in
set_option maxHeartbeats 4000000 in
theorem walk (a0 : Option Addr) (c0 : Nat) (l0 : List Int) (w : World) (hR0 : RowR w (.slice a0 l0.length c0) l0) (hm0 : l0.length ≤ maxLen) :
    Calls Try.prog 3 #[.slice a0 l0.length c0] w fun e w' => e = .returned (.bool true) ∧ Below w.heap.size w w' := by
  by_cases hbig : 1048576 < l0.length
  · unfold maxLen at hm0
    go_enter Try.func3, Try.ntmps3
    go_wp2
    go_ret
    exact ⟨rfl, Below.refl _ _⟩
  have hl : l0.length ≤ 1048576 := by omega
  have hTo := hid (fun W (h : RowR W (.slice a0 l0.length c0) l0) => tor (.slice a0 l0.length c0) l0 W h (by omega))
  have hSp := hid (fun W a c (h : RowR W (.slice a l0.length c) l0) => lengthof_spec a c l0 W h hl)
  have hIm := hid (fun W a c (h : RowR W (.slice a l0.length c) l0) => lengthof_impl a c l0 W h hl)
  obtain ⟨T, hT⟩ : ∃ T, (len2 l0).1 = T := ⟨_, rfl⟩
  obtain ⟨C, hC⟩ : ∃ C, (len2 l0).2 = C := ⟨_, rfl⟩
  rw [hT, hC] at hSp hIm
  clear hT hC
  replace hR0 := hid hR0
  go_enter Try.func3, Try.ntmps3
  go_wp2_with fail
  refine (hTo.out _ hR0.out).mono ?_
  rintro e w2 ⟨u2, rfl, hO2, hb2⟩
  obtain ⟨a2, c2, rfl⟩ := hO2.reads.formV
  have hR2 := hid hO2.reads
  replace hb2 := hid hb2
  clear hO2
  go_wp2_with fail
  refine (hSp.out _ _ _ hR2.out).mono ?_
  rintro e w3 ⟨rfl, hww⟩
  obtain rfl := hww.symm
  clear hR2
  go_wp2_with fail
  refine (hTo.out _ (hR0.out.below hb2.out)).mono ?_
  rintro e w4 ⟨u4, rfl, hO4, hb4⟩
  obtain ⟨a4, c4, rfl⟩ := hO4.reads.formV
  have hR4 := hid hO4.reads
  have hB4 := hid (new_trans hb2.out hb4)
  clear hO4 hb4 hb2
  go_wp2_with fail
  refine (hIm.out _ _ _ hR4.out).mono ?_
  rintro e w5 ⟨rfl, hww⟩
  obtain rfl := hww.symm
  go_wp2_with fail
  refine (hTo.out _ (hR0.out.below hB4.out)).mono ?_
  rintro e w6 ⟨u6, rfl, hO6, hb6⟩
  have hR6 := hid hO6.reads
  have hR46 := hid (hR4.out.below hb6)
  obtain ⟨a6, c6, rfl⟩ := hO6.reads.formV
  have hB6 := hid (new_trans hB4.out hb6)
  clear hO6 hb6 hB4 hR4
  go_wp2_with fail
  refine (eqr_yes _ _ l0 _ hR46.out hR6.out (by omega)).mono ?_
  rintro e w7 ⟨rfl, n7, rfl⟩
  have hB7 := hid (new_trans hB6.out (Below.drewN w6 n7 _))
  clear hB6 hR6 hR46
  go_wp2_with fail
  go_ret
  exact ⟨rfl, hB7.out⟩

set_option maxRecDepth 100000 in
theorem lifted (os : Os) (started : os.Started) (H : Type) (enc : TypeId × Value → H) :
    ReturnsInHanded {} Try.checked os 3 .any (Rows.fnExactLengthOfTapeSpec.pre6 enc Try.prog Try.f3 Rows.fnExactLengthOfTapeRow.domain false) (Rows.fnExactLengthOfTapeSpec.post enc Try.prog Try.f3 false true false false) := by
  refine returnsInHanded_of_change (C := Try.checked) own started (by kernel_rfl) Try.func3
    (ChangeSpec.witness6 (enc := enc) (C := Try.checked) false ⟨#[], #[.slice none 0 0], []⟩ 8 (by kernel_rfl) (by kernel_rfl) (by kernel_rfl) (by kernel_rfl)) ?_
  intro W base args ds gs before hval0 hW hcnd _
  have hval : ∀ (j : Nat) t v, Try.f3.params[j]? = some t → args[j]? = some v → Value.okWide Try.prog W .any base t v := hval0
  have hW' := hW
  obtain ⟨p, q, hA0, hV, rfl, hfz, hnd⟩ := hW
  have hA : DataW.TrodAll enc Try.prog W 0 (fun _ => true) true Try.f3.params.toList args.toList ds p := hA0
  rw [Try.params3] at hA hval
  obtain ⟨v0, vs0, d0, ds0, p0, q0, hargs, rfl, rfl, h0, r0⟩ := trodAll_cons hA
  obtain ⟨rfl, rfl, rfl⟩ := trodAll_nil r0
  obtain rfl : args = #[v0] := by cases args; simp_all
  obtain ⟨rfl, rfl⟩ := trodVars_none hV
  have k0 := h0
  have lt0 : ∀ x ∈ p0, x.block < W.heap.size := by obtain ⟨m, hm⟩ := k0; exact DataW.trod_lt m _ _ _ hm
  obtain ⟨a0, ll, c0, rfl⟩ := okWide_slice Try.underlying22 (hval 0 22 v0 rfl rfl)
  obtain ⟨fuel0, hf0⟩ := h0
  obtain ⟨aa, cc, l0, hv0, hR0, hm0, _⟩ := row_inV Try.underlying22 Try.underlying3 (by kernel_rfl) (by simpa [Value.cells] using hf0)
  obtain ⟨rfl, rfl, rfl⟩ : a0 = aa ∧ ll = l0.length ∧ c0 = cc := by simpa using hv0
  clear hA0 hval0
  refine (walk a0 c0 l0 W hR0 hm0).mono fun e W' ⟨he, bel⟩ => ?_
  subst he
  exact ⟨_, rfl, _, _, _, [], _, [], hW', (trodAll_cons_mk (shut_bool Try.underlying4 _) trodAll_mk0), (trodAll_cons_mk (Below.trod laidOut (by kernel_rfl) (of_decide_eq_true (by kernel_rfl)) k0 bel lt0) trodAll_mk0), rfl, bel.frame _, fun h => by cases h⟩

theorem said : Rows.FnExactLengthOfTapeSaid :=
  OpenClaim.holds_of_wide 3 Try.f3 rfl rfl rfl rfl rfl rfl rfl ⟨rfl, rfl, rfl, rfl, rfl⟩ rfl rfl rfl rfl rfl (by kernel_rfl) Try.func3 (by kernel_rfl)
    (of_decide_eq_true (by kernel_rfl)) (by unfold Func.isWrapper; first | (rw [if_pos (by decide +kernel)]; kernel_rfl) | (rw [if_neg (by decide +kernel)]; exact ⟨rfl, rfl⟩))
    (fun os started H enc _ => lifted os started H enc)
end Go.Proofs.Ytakdhmlegickmab.fnExactLengthOfTape
namespace Go.Proofs.Ytakdhmlegickmab
theorem fnExactLengthOfTape_holds : Rows.FnExactLengthOfTapeSaid := fnExactLengthOfTape.said
#print axioms fnExactLengthOfTape_holds
end Go.Proofs.Ytakdhmlegickmab
