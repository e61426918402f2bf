/- For every text the law FnExactBitsOf returns true: impl.BitsOf answers as spec.BitsOf, and its answer is its own. -/
import Derived.Test.YtakdhmlegickmaaRows
import Derived.Test.YtakdhmlegickmaaVq
import Derived.Test.YtakdhmlegickmaaVv
import Derived.WalkKit
import Derived.ProofKit
import Derived.OpenShut
import Derived.ShutString
import Derived.ChangeOld
import Derived.Below
import Derived.Lib.SmallJoins
namespace Go.Proofs.Ytakdhmlegickmaa.fnExactBitsOf
open Go.ChangeShapes Go.WideShapes Go.ChangeAt Go.RowKit Go.Joins
open Go.ChangeMaps (open_string shut_string)
set_option linter.unusedVariables false

theorem own : ownKnob Try.prog.godebug = none := by kernel_rfl
theorem laidOut : laidOutB Try.prog = true := by kernel_rfl

set_option maxRecDepth 100000 in
set_option maxHeartbeats 4000000 in
theorem walk (a0 : ByteArray) (w : World) (w0 : a0.size ≤ maxLen) :
    Calls Try.prog 4 #[.string a0] w fun e w' => e = .returned (.bool true) ∧ Below w.heap.size w w' := by
  have hm := w0
  unfold maxLen at hm
  by_cases h1 : 1048576 < a0.size
  · go_enter Try.func4, Try.ntmps4
    go_wp2
    go_ret
    exact ⟨rfl, Below.refl _ _⟩
  have hSp := hid (fun W => bitsof_spec a0 W w0)
  have hIm := hid (fun W => bitsof_impl a0 W w0)
  have hLn : (bits2 a0).1.length ≤ 3200 := by
    unfold bits2
    split
    · exact Nat.zero_le _
    · split
      · exact Nat.zero_le _
      · show (bitL a0 _).length ≤ _
        rw [bitL_len]
        omega
  obtain ⟨T, hT⟩ : ∃ T, (bits2 a0).1 = T := ⟨_, rfl⟩
  obtain ⟨C, hC⟩ : ∃ C, (bits2 a0).2 = C := ⟨_, rfl⟩
  rw [hT, hC] at hSp hIm
  rw [hT] at hLn
  clear hT hC
  go_enter Try.func4, Try.ntmps4
  go_wp2_with fail
  refine (hSp.out _).mono ?_
  rintro e w1 ⟨v1, rfl, hG1⟩
  obtain ⟨a1, c1, rfl⟩ := hG1.form
  have hR1 := hid (OwnI.of hG1).read
  have hB1 := hid hG1.bel
  clear hG1 hSp
  go_wp2_with fail
  refine (hIm.out _).mono ?_
  rintro e w2 ⟨v2, rfl, hG2⟩
  have hO2 := hid (OwnI.of hG2)
  have hR12 := hid (hR1.out.below hG2.bel)
  have hB12 := hid hG2.bel
  have hB2 := hid (new_trans hB1.out hG2.bel)
  obtain ⟨a2, c2, rfl⟩ := hG2.form
  clear hG2
  go_wp2_with fail
  refine (eqr_yes _ _ T _ hO2.out.read hR12.out (by omega)).mono ?_
  rintro e w3 ⟨rfl, n3, rfl⟩
  have hb3 : Below w2.heap.size w2 (w2.drewN n3) := Below.drewN w2 n3 _
  have hO3 := hid (hO2.out.below hb3)
  have hB13 := hid (hB12.out.trans (hb3.mono hB12.out.size))
  have hB3 := hid (new_trans hB2.out hb3)
  obtain ⟨W3, hW3⟩ : ∃ W, w2.drewN n3 = W := ⟨_, rfl⟩
  rw [hW3] at hO3 hB13 hB3 ⊢
  clear hb3 hO2 hB12 hB2 hR12 hW3
  go_wp2_with fail
  refine (markV _ _ T _ hO3.out (by omega) hB13.out.size).mono ?_
  rintro e w4 ⟨rfl, hO4, hb4⟩
  replace hO4 := hid hO4
  have hB14 := hid (hB13.out.trans hb4)
  have hB4 := hid (hB1.out.trans (hB14.out.mono hB1.out.size))
  clear hb4 hO3 hB13 hB3
  go_wp2_with fail
  refine (heldr _ 1 T.length _ hO4.out.read (by omega) (by omega) (by omega)).mono ?_
  rintro e w5 ⟨rfl, hww⟩
  obtain rfl := hww.symm
  go_wp2_with fail
  refine (hIm.out _).mono ?_
  rintro e w6 ⟨v6, rfl, hG6⟩
  have hR6 := hid (OwnI.of hG6).read
  have hO6 := hid (hO4.out.below hG6.bel)
  have hB16 := hid (hB14.out.trans (hG6.bel.mono hB14.out.size))
  have hB6 := hid (new_trans hB4.out hG6.bel)
  have hR16 := hid (hR1.out.below hB16.out)
  obtain ⟨a6, c6, rfl⟩ := hG6.form
  clear hG6 hO4 hB14 hB4
  go_wp2_with fail
  refine (eqr_yes _ _ T _ hR6.out hR16.out (by omega)).mono ?_
  rintro e w7 ⟨rfl, n7, rfl⟩
  have hO7 := hid (hO6.out.below (Below.drewN w6 n7 _))
  have hB7 := hid (new_trans hB6.out (Below.drewN w6 n7 _))
  clear hR6 hR16 hB16 hB6 hO6
  go_wp2_with fail
  refine (heldr _ 1 T.length _ hO7.out.read (by omega) (by omega) (by omega)).mono ?_
  rintro e w8 ⟨rfl, hww⟩
  obtain rfl := hww.symm
  go_wp2_with fail
  go_ret
  exact ⟨rfl, hB7.out⟩

set_option maxRecDepth 100000 in
theorem lifted (os : Os) (started : os.Started) (H : Type) (enc : TypeId × Value → H) :
    ReturnsInHanded {} Try.checked os 4 .any (Rows.fnExactBitsOfSpec.pre6 enc Try.prog Try.f4 Rows.fnExactBitsOfRow.domain false) (Rows.fnExactBitsOfSpec.post enc Try.prog Try.f4 false true false false) := by
  refine returnsInHanded_of_change (C := Try.checked) own started (by kernel_rfl) Try.func4
    (ChangeSpec.witness6 (enc := enc) (C := Try.checked) false ⟨#[], #[.string ByteArray.empty], []⟩ 8 (by kernel_rfl) (by kernel_rfl) (by kernel_rfl) (by kernel_rfl)) ?_
  intro W base args ds gs before hval0 hW hcnd _
  have hval : ∀ (j : Nat) t v, Try.f4.params[j]? = some t → args[j]? = some v → Value.okWide Try.prog W .any base t v := hval0
  have hW' := hW
  obtain ⟨p, q, hA0, hV, rfl, hfz, hnd⟩ := hW
  have hA : DataW.TrodAll enc Try.prog W 0 (fun _ => true) true Try.f4.params.toList args.toList ds p := hA0
  rw [Try.params4] at hA hval
  obtain ⟨v0, vs0, d0, ds0, p0, q0, hargs, rfl, rfl, h0, r0⟩ := trodAll_cons hA
  obtain ⟨rfl, rfl, rfl⟩ := trodAll_nil r0
  obtain rfl : args = #[v0] := by cases args; simp_all
  obtain ⟨rfl, rfl⟩ := trodVars_none hV
  obtain ⟨a0, rfl, rfl, rfl, w0⟩ := open_string Try.underlying9 (hval 0 9 v0 rfl rfl) h0
  clear hA0 hval0
  refine (walk a0 W w0).mono fun e W' ⟨he, bel⟩ => ?_
  subst he
  exact ⟨_, rfl, _, _, _, [], _, [], hW', (trodAll_cons_mk (shut_bool Try.underlying4 _) trodAll_mk0), (trodAll_cons_mk (shut_string Try.underlying9 w0) trodAll_mk0), rfl, bel.frame _, fun h => by cases h⟩

theorem said : Rows.FnExactBitsOfSaid :=
  OpenClaim.holds_of_wide 4 Try.f4 rfl rfl rfl rfl rfl rfl rfl ⟨rfl, rfl, rfl, rfl, rfl⟩ rfl rfl rfl rfl rfl (by kernel_rfl) Try.func4 (by kernel_rfl)
    (of_decide_eq_true (by kernel_rfl)) (by unfold Func.isWrapper; first | (rw [if_pos (by decide +kernel)]; kernel_rfl) | (rw [if_neg (by decide +kernel)]; exact ⟨rfl, rfl⟩))
    (fun os started H enc _ => lifted os started H enc)
end Go.Proofs.Ytakdhmlegickmaa.fnExactBitsOf
namespace Go.Proofs.Ytakdhmlegickmaa
theorem fnExactBitsOf_holds : Rows.FnExactBitsOfSaid := fnExactBitsOf.said
#print axioms fnExactBitsOf_holds
end Go.Proofs.Ytakdhmlegickmaa
