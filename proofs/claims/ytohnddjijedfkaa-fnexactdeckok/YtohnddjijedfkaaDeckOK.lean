/- For every deck the law FnExactDeckOK returns true: impl.DeckOK answers as spec.DeckOK, and changes nothing. -/
import Derived.Test.YtohnddjijedfkaaRows
import Derived.Test.YtohnddjijedfkaaDc
import Derived.Test.YtohnddjijedfkaaDp
import Derived.Test.YtohnddjijedfkaaDl
import Derived.WalkKit
import Derived.ProofKit
import Derived.OpenShut
import Derived.ShutString
import Derived.ChangeOld
import Derived.Below
import Derived.Lib.SmallJoins
namespace Go.Proofs.Ytohnddjijedfkaa.fnExactDeckOK
open Go.ChangeShapes Go.WideShapes Go.ChangeAt Go.RowKit Go.Joins
open Go.ChangeMaps (open_string shut_string)
set_option linter.unusedVariables false

theorem own : ownKnob Try.prog.godebug = none := by kernel_rfl
theorem laidOut : laidOutB Try.prog = true := by kernel_rfl

set_option maxRecDepth 100000 in
set_option maxHeartbeats 8000000 in
theorem walk (a0 : Option Addr) (c0 : Nat) (D : Dk) (w : World) (hR0 : RowR w (.slice a0 D.pulses.length c0) D.pulses) (hm0 : D.pulses.length ≤ maxLen) :
    Calls Try.prog 4 #[dkV (.slice a0 D.pulses.length c0) D] w fun e w' => e = .returned (.bool true) ∧ Below w.heap.size w w' := by
  obtain ⟨Q, hQ⟩ : ∃ Q, D.ok = Q := ⟨_, rfl⟩
  have hSp := hid (fun W a c hh hl => deckok_spec a c D W hh hl)
  have hIm := hid (fun W a c hh => deckok_impl a c D W hh)
  rw [hQ] at hSp hIm
  clear hQ
  have hA : Hid (∀ W', Below w.heap.size w W' → RowR W' (.slice a0 D.pulses.length c0) D.pulses) := fun W' hb => hR0.below hb
  have S0 := (StD.nil w).box #[.slice a0 D.pulses.length c0, .int .i64 D.index, .int .i64 D.left, .bool D.level, .bool D.plays] 35
  obtain ⟨bA, hbA⟩ : ∃ b, w.heap.size = b := ⟨_, rfl⟩
  rw [hbA] at S0
  clear hR0
  go_enter Try.func4, Try.ntmps4
  go_upto_region 1 with fail
  try rw [hbA]
  obtain ⟨V, hV⟩ : ∃ V, w.alloc (.cells #[.slice a0 D.pulses.length c0, .int .i64 D.index, .int .i64 D.left, .bool D.level, .bool D.plays] 35) = V := ⟨_, rfl⟩
  rw [hV] at S0 ⊢
  clear hV hbA
  have xA := (S0.at 0 rfl).cell
  replace S0 := hid S0
  go_wp2_with fail
  refine (szd a0 c0 D 1048576 _ hm0 (by omega) (by omega)).mono ?_
  rintro e w1 ⟨R, rfl, hR, hb⟩
  have S1 := hid (S0.out.below hb)
  clear xA S0 hb
  have xA := (S1.out.at 0 rfl).cell
  rcases hR with hR | ⟨hR, hR2⟩
  · go_wp2
    go_ret
    exact ⟨rfl, S1.out.bel⟩
  have hl : D.pulses.length ≤ 1048576 := by omega
  clear hR2
  go_wp2_with fail
  refine (tod a0 c0 D _ (hA.out _ S1.out.bel) hl).mono ?_
  rintro e w2 ⟨u2, rfl, hO, hb⟩
  have S2 := hid (S1.out.below hb)
  have hr2 := hid hO.read
  obtain ⟨a2, c2, rfl⟩ := hO.form
  clear hO hb S1 xA
  go_wp2_with fail
  refine (hSp.out _ a2 c2 hr2.out hl).mono ?_
  rintro e w3 ⟨rfl, hb⟩
  have S4 := hid (S2.out.below hb)
  clear hb S2 hr2 hSp
  have xA := (S4.out.at 0 rfl).cell
  go_wp2_with fail
  refine (tod a0 c0 D _ (hA.out _ S4.out.bel) hl).mono ?_
  rintro e w5 ⟨u5, rfl, hO, hb⟩
  have S5 := S4.out.row hb hO
  obtain ⟨a5, c5, rfl⟩ := hO.form
  clear hO hb S4 xA
  have S6 := S5.box #[.slice a5 D.pulses.length c5, .int .i64 D.index, .int .i64 D.left, .bool D.level, .bool D.plays] 25
  obtain ⟨bX, hbX⟩ : ∃ b, w5.heap.size = b := ⟨_, rfl⟩
  obtain ⟨W6, hW6⟩ : ∃ W, w5.alloc (.cells #[.slice a5 D.pulses.length c5, .int .i64 D.index, .int .i64 D.left, .bool D.level, .bool D.plays] 25) = W := ⟨_, rfl⟩
  rw [hbX, hW6] at S6
  clear S5
  go_upto_region 7 with fail
  (try rw [hbX])
  (try rw [hW6])
  clear hbX hW6
  replace S6 := hid S6
  have xX := (S6.out.at 0 rfl).cell
  go_wp2_with fail
  refine (hIm.out _ a5 c5 (S6.out.own 1 rfl)).mono ?_
  rintro e w7 ⟨rfl, hb⟩
  have S9 := hid (S6.out.below hb)
  clear hb S6 xX
  have xX := (S9.out.at 0 rfl).cell
  have xA := (S9.out.at 2 rfl).cell
  have hQ2 : (Q != Q) = false := by simp
  go_upto_region 10 with fail
  have hD9 : Hid (Below w7.heap.size w7 w7.drew) := (Below.refl _ _).drew
  go_region_with (first | (go_at_call 16; refine (tod a0 c0 D _ (hA.out _ (new_trans S9.out.bel hD9.out)) hl).mono ?_; rintro e w10 ⟨u10, rfl, hO, hb⟩; have r10 := hid hO.read; obtain ⟨q1, q2, rfl⟩ := hO.form; have S10 := hid (S9.out.below (new_trans hD9.out hb)); have zX := (S10.out.at 0 rfl).cell; clear hO hb) | (go_at_call 17; refine (eqd_yes _ _ D _ (S10.out.own 1 rfl) r10.out hl).mono ?_; rintro e w11 ⟨rfl, hb11⟩; replace hb11 := hid hb11))
  all_goals
    have hBe := hid (S10.out.below hb11.out).bel
    clear hb11 S10 S9 zX r10 hD9 xX xA
    go_wp2
    go_ret
    exact ⟨rfl, hBe.out⟩

set_option maxRecDepth 100000 in
theorem lifted (os : Os) (started : os.Started) (H : Type) (enc : TypeId × Value → H) :
    ReturnsInHanded {} Try.checked os 4 .any (Rows.fnExactDeckOKSpec.pre6 enc Try.prog Try.f4 Rows.fnExactDeckOKRow.domain false) (Rows.fnExactDeckOKSpec.post enc Try.prog Try.f4 false true false false) := by
  refine returnsInHanded_of_change (C := Try.checked) own started (by kernel_rfl) Try.func4
    (ChangeSpec.witness6 (enc := enc) (C := Try.checked) false ⟨#[], #[.agg #[.slice none 0 0, .int .i64 0, .int .i64 0, .bool false, .bool false]], []⟩ 8 (by kernel_rfl) (by kernel_rfl) (by kernel_rfl) (by kernel_rfl)) ?_
  intro W base args ds gs before hval0 hW hcnd _
  have hval : ∀ (j : Nat) t v, Try.f4.params[j]? = some t → args[j]? = some v → Value.okWide Try.prog W .any base t v := hval0
  have hW' := hW
  obtain ⟨p, q, hA0, hV, rfl, hfz, hnd⟩ := hW
  have hA : DataW.TrodAll enc Try.prog W 0 (fun _ => true) true Try.f4.params.toList args.toList ds p := hA0
  rw [Try.params4] at hA hval
  obtain ⟨v0, vs0, d0, ds0, p0, q0, hargs, rfl, rfl, h0, r0⟩ := trodAll_cons hA
  obtain ⟨rfl, rfl, rfl⟩ := trodAll_nil r0
  obtain rfl : args = #[v0] := by cases args; simp_all
  obtain ⟨rfl, rfl⟩ := trodVars_none hV
  have k0 := h0
  have lt0 : ∀ x ∈ p0, x.block < W.heap.size := by obtain ⟨m, hm⟩ := k0; exact DataW.trod_lt m _ _ _ hm
  obtain ⟨a0, c0, D, rfl, hR0, hm0⟩ := deck_in (hval 0 35 v0 rfl rfl) h0
  clear hA0 hval0
  refine (walk a0 c0 D W hR0 hm0).mono fun e W' ⟨he, bel⟩ => ?_
  subst he
  exact ⟨_, rfl, _, _, _, [], _, [], hW', (trodAll_cons_mk (shut_bool Try.underlying4 _) trodAll_mk0), (trodAll_cons_mk (Below.trod laidOut (by kernel_rfl) (of_decide_eq_true (by kernel_rfl)) k0 bel lt0) trodAll_mk0), rfl, bel.frame _, fun h => by cases h⟩

theorem said : Rows.FnExactDeckOKSaid :=
  OpenClaim.holds_of_wide 4 Try.f4 rfl rfl rfl rfl rfl rfl rfl ⟨rfl, rfl, rfl, rfl, rfl⟩ rfl rfl rfl rfl rfl (by kernel_rfl) Try.func4 (by kernel_rfl)
    (of_decide_eq_true (by kernel_rfl)) (by unfold Func.isWrapper; first | (rw [if_pos (by decide +kernel)]; kernel_rfl) | (rw [if_neg (by decide +kernel)]; exact ⟨rfl, rfl⟩))
    (fun os started H enc _ => lifted os started H enc)
end Go.Proofs.Ytohnddjijedfkaa.fnExactDeckOK
namespace Go.Proofs.Ytohnddjijedfkaa
theorem fnExactDeckOK_holds : Rows.FnExactDeckOKSaid := fnExactDeckOK.said
#print axioms fnExactDeckOK_holds
end Go.Proofs.Ytohnddjijedfkaa
