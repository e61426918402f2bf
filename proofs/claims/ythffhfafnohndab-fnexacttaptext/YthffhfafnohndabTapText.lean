/- For every list of blocks the law FnExactTapText returns true: impl.TapText answers as spec.TapText, and the list is as it was. -/
import Derived.Test.YthffhfafnohndabRows
import Derived.Test.YthffhfafnohndabUf
import Derived.Test.YthffhfafnohndabZt
import Derived.Test.YthffhfafnohndabZl
import Derived.WalkKit
import Derived.ProofKit
import Derived.OpenShut
import Derived.ShutString
import Derived.ChangeOld
import Derived.Below
import Derived.Lib.SmallJoins
namespace Go.Proofs.Ythffhfafnohndab.fnExactTapText
open Go.ChangeShapes Go.WideShapes Go.ChangeAt Go.RowKit Go.Joins
open Go.ChangeMaps (open_string shut_string)
set_option linter.unusedVariables false

theorem own : ownKnob Try.prog.godebug = none := by kernel_rfl
theorem laidOut : laidOutB Try.prog = true := by kernel_rfl

set_option maxRecDepth 100000 in
set_option maxHeartbeats 4000000 in
theorem walk (a0 : Option Addr) (c0 : Nat) (l0 : List (Int × ByteArray)) (w : World) (hR0 : BkR w a0 l0) (hm0 : l0.length ≤ maxLen) (hs0 : ∀ y ∈ l0, y.2.size ≤ maxLen) :
    Calls Try.prog 3 #[.slice a0 l0.length c0] w fun e w' => e = .returned (.bool true) ∧ Below w.heap.size w w' := by
  have hSp := hid (fun W a c (h : BkR W a l0) (hl : l0.length ≤ 1048576) => taptext_spec a c l0 W h hl hs0)
  have hIm := hid (fun W a c (h : BkR W a l0) (hl : l0.length ≤ 1048576) => taptext_impl a c l0 W h hl hs0)
  obtain ⟨T, hT⟩ : ∃ T, (tap2 l0).1 = T := ⟨_, rfl⟩
  obtain ⟨C, hC⟩ : ∃ C, (tap2 l0).2 = C := ⟨_, rfl⟩
  rw [hT, hC] at hSp hIm
  clear hT hC
  have hSz := hid (szbks a0 c0 l0 w hR0 hm0 hs0)
  replace hR0 := hid hR0
  go_enter Try.func3, Try.ntmps3
  go_wp2_with fail
  refine hSz.out.mono ?_
  rintro e w1 ⟨z, rfl, hz1, hb⟩
  replace hb := hid hb
  replace hz1 := hid hz1
  clear hSz
  by_cases hz : z < 0
  · go_wp2
    go_ret
    exact ⟨rfl, hb.out⟩
  have hl := hz1.out (by omega)
  have hTo := hid (fun W (h : BkR W a0 l0) => tobks a0 c0 l0 W h hl)
  go_wp2_with fail
  refine (hTo.out _ (hR0.out.below hb.out)).mono ?_
  rintro e w2 ⟨rfl, hO2, hb2⟩
  have hB2 := hid (new_trans hb.out hb2)
  have hR2 := hid hO2.read
  clear hb hb2 hO2
  go_wp2_with fail
  refine (hSp.out _ _ _ hR2.out hl).mono ?_
  rintro e w3 ⟨rfl, hb3⟩
  have hB3 := hid (new_trans hB2.out hb3)
  clear hB2 hb3 hR2
  go_wp2_with fail
  refine (hTo.out _ (hR0.out.below hB3.out)).mono ?_
  rintro e w4 ⟨rfl, hO4, hb4⟩
  have hB4 := hid (new_trans hB3.out hb4)
  have hR4 := hid hO4.read
  clear hB3 hb4 hO4
  go_upto_region 7 with fail
  obtain ⟨b4, eb⟩ : ∃ b, w3.heap.size = b := ⟨_, rfl⟩
  rw [eb] at hR4 ⊢
  clear eb
  go_wp2_with fail
  refine (hIm.out _ _ _ hR4.out hl).mono ?_
  rintro e w5 ⟨rfl, hb5⟩
  have hB5 := hid (new_trans hB4.out hb5)
  have hR5 := hid (hR4.out.below hb5)
  clear hB4 hb5 hR4
  go_wp2_with fail
  refine (hTo.out _ (hR0.out.below hB5.out)).mono ?_
  rintro e w6 ⟨rfl, hO6, hb6⟩
  have hB6 := hid (new_trans hB5.out hb6)
  have hR6 := hid hO6.read
  have hR56 := hid (hR5.out.below hb6)
  clear hB5 hb6 hR5 hO6
  go_wp2_with fail
  refine (eqbks _ _ _ _ l0 _ hR56.out hR6.out hl).mono ?_
  rintro e w7 ⟨rfl, hb7⟩
  have hB7 := hid (new_trans hB6.out hb7)
  clear hB6 hb7 hR6 hR56
  go_wp2_with fail
  go_ret
  exact ⟨rfl, hB7.out⟩

set_option maxRecDepth 100000 in
theorem lifted (os : Os) (started : os.Started) (H : Type) (enc : TypeId × Value → H) :
    ReturnsInHanded {} Try.checked os 3 .any (Rows.fnExactTapTextSpec.pre6 enc Try.prog Try.f3 Rows.fnExactTapTextRow.domain false) (Rows.fnExactTapTextSpec.post enc Try.prog Try.f3 false true false false) := by
  refine returnsInHanded_of_change (C := Try.checked) own started (by kernel_rfl) Try.func3
    (ChangeSpec.witness6 (enc := enc) (C := Try.checked) false ⟨#[], #[.slice none 0 0], []⟩ 8 (by kernel_rfl) (by kernel_rfl) (by kernel_rfl) (by kernel_rfl)) ?_
  intro W base args ds gs before hval0 hW hcnd _
  have hval : ∀ (j : Nat) t v, Try.f3.params[j]? = some t → args[j]? = some v → Value.okWide Try.prog W .any base t v := hval0
  have hW' := hW
  obtain ⟨p, q, hA0, hV, rfl, hfz, hnd⟩ := hW
  have hA : DataW.TrodAll enc Try.prog W 0 (fun _ => true) true Try.f3.params.toList args.toList ds p := hA0
  rw [Try.params3] at hA hval
  obtain ⟨v0, vs0, d0, ds0, p0, q0, hargs, rfl, rfl, h0, r0⟩ := trodAll_cons hA
  obtain ⟨rfl, rfl, rfl⟩ := trodAll_nil r0
  obtain rfl : args = #[v0] := by cases args; simp_all
  obtain ⟨rfl, rfl⟩ := trodVars_none hV
  have k0 := h0
  have lt0 : ∀ x ∈ p0, x.block < W.heap.size := by obtain ⟨m, hm⟩ := k0; exact DataW.trod_lt m _ _ _ hm
  obtain ⟨a0, ll, c0, rfl⟩ := okWide_slice Try.underlying22 (hval 0 22 v0 rfl rfl)
  obtain ⟨fuel0, hf0⟩ := h0
  obtain ⟨aa, cc, l0, hv0, hR0, hm0, hs0⟩ := blocks_in Try.underlying22 Try.underlying32 (by kernel_rfl) (by kernel_rfl) Try.underlying3 Try.underlying9 (by simpa [Value.cells] using hf0)
  obtain ⟨rfl, rfl, rfl⟩ : a0 = aa ∧ ll = l0.length ∧ c0 = cc := by simpa using hv0
  clear hA0 hval0
  refine (walk a0 c0 l0 W hR0 hm0 hs0).mono fun e W' ⟨he, bel⟩ => ?_
  subst he
  exact ⟨_, rfl, _, _, _, [], _, [], hW', (trodAll_cons_mk (shut_bool Try.underlying4 _) trodAll_mk0), (trodAll_cons_mk (Below.trod laidOut (by kernel_rfl) (of_decide_eq_true (by kernel_rfl)) k0 bel lt0) trodAll_mk0), rfl, bel.frame _, fun h => by cases h⟩

theorem said : Rows.FnExactTapTextSaid :=
  OpenClaim.holds_of_wide 3 Try.f3 rfl rfl rfl rfl rfl rfl rfl ⟨rfl, rfl, rfl, rfl, rfl⟩ rfl rfl rfl rfl rfl (by kernel_rfl) Try.func3 (by kernel_rfl)
    (of_decide_eq_true (by kernel_rfl)) (by unfold Func.isWrapper; first | (rw [if_pos (by decide +kernel)]; kernel_rfl) | (rw [if_neg (by decide +kernel)]; exact ⟨rfl, rfl⟩))
    (fun os started H enc _ => lifted os started H enc)
end Go.Proofs.Ythffhfafnohndab.fnExactTapText
namespace Go.Proofs.Ythffhfafnohndab
theorem fnExactTapText_holds : Rows.FnExactTapTextSaid := fnExactTapText.said
#print axioms fnExactTapText_holds
end Go.Proofs.Ythffhfafnohndab
