/- For any two decks the law FnExactSameDeck returns true: impl.SameDeck answers as spec.SameDeck, and changes nothing. -/
import Derived.Test.YtohnddjijedfkabRows
import Derived.Test.YtohnddjijedfkabDv
import Derived.Test.YtohnddjijedfkabDw
import Derived.Test.YtohnddjijedfkabDl
import Derived.WalkKit
import Derived.ProofKit
import Derived.OpenShut
import Derived.ShutString
import Derived.ChangeOld
import Derived.Below
import Derived.Lib.SmallJoins
namespace Go.Proofs.Ytohnddjijedfkab.fnExactSameDeck
open Go.ChangeShapes Go.WideShapes Go.ChangeAt Go.RowKit Go.Joins
open Go.ChangeMaps (open_string shut_string)
set_option linter.unusedVariables false

theorem own : ownKnob Try.prog.godebug = none := by kernel_rfl
theorem laidOut : laidOutB Try.prog = true := by kernel_rfl

set_option maxRecDepth 100000 in
set_option maxHeartbeats 8000000 in
theorem walk (a0 : Option Addr) (c0 : Nat) (D : Dk) (a1 : Option Addr) (c1 : Nat) (D2 : Dk) (w : World) (hR0 : RowR w (.slice a0 D.pulses.length c0) D.pulses) (hm0 : D.pulses.length ≤ maxLen) (hR1 : RowR w (.slice a1 D2.pulses.length c1) D2.pulses) (hm1 : D2.pulses.length ≤ maxLen) :
    Calls Try.prog 5 #[dkV (.slice a0 D.pulses.length c0) D, dkV (.slice a1 D2.pulses.length c1) D2] w fun e w' => e = .returned (.bool true) ∧ Below w.heap.size w w' := by
  have hA : Hid (∀ W', Below w.heap.size w W' → RowR W' (.slice a0 D.pulses.length c0) D.pulses) := fun W' hb => hR0.below hb
  have hA2 : Hid (∀ W', Below w.heap.size w W' → RowR W' (.slice a1 D2.pulses.length c1) D2.pulses) := fun W' hb => hR1.below hb
  obtain ⟨Q0, hQ⟩ : ∃ Q, D.same D2 = Q := ⟨_, rfl⟩
  have hSp := hid (fun W a c a' c' hl hl2 h h2 => samed_spec a a' c c' D D2 W h h2 hl hl2)
  have hIm := hid (fun W a c a' c' hl hl2 h h2 => samed_impl a a' c c' D D2 W h h2 hl hl2)
  rw [hQ] at hSp hIm
  clear hQ
  have S0 := ((StD.nil w).box #[.slice a0 D.pulses.length c0, .int .i64 D.index, .int .i64 D.left, .bool D.level, .bool D.plays] 24).box #[.slice a1 D2.pulses.length c1, .int .i64 D2.index, .int .i64 D2.left, .bool D2.level, .bool D2.plays] 24
  rw [World.size_alloc] at S0
  obtain ⟨bA, hbA⟩ : ∃ b, w.heap.size = b := ⟨_, rfl⟩
  rw [hbA] at S0
  clear hR0 hR1
  go_enter Try.func5, Try.ntmps5
  go_upto_region 1 with fail
  (try rw [hbA])
  obtain ⟨V, hV⟩ : ∃ V, (w.alloc (.cells #[.slice a0 D.pulses.length c0, .int .i64 D.index, .int .i64 D.left, .bool D.level, .bool D.plays] 24)).alloc (.cells #[.slice a1 D2.pulses.length c1, .int .i64 D2.index, .int .i64 D2.left, .bool D2.level, .bool D2.plays] 24) = V := ⟨_, rfl⟩
  rw [hV] at S0 ⊢
  clear hV hbA
  have xA := (S0.at 1 rfl).cell
  have xB := (S0.at 0 rfl).cell
  replace S0 := hid S0
  go_wp2_with fail
  refine (szd a0 c0 D 1048576 _ hm0 (by omega) (by omega)).mono ?_
  rintro e w1 ⟨R, rfl, hR, hb⟩
  have S1 := hid (S0.out.below hb)
  clear xA xB S0 hb
  have xA := (S1.out.at 1 rfl).cell
  have xB := (S1.out.at 0 rfl).cell
  rcases hR with hR | ⟨hR, hR2⟩
  · go_wp2
    go_ret
    exact ⟨rfl, S1.out.bel⟩
  have hl : D.pulses.length ≤ 1048576 := by omega
  have hRm : R ≤ 1048576 := by omega
  clear hR2
  go_wp2_with fail
  refine (szd a1 c1 D2 R _ hm1 hR hRm).mono ?_
  rintro e w2 ⟨R2, rfl, hR2, hb⟩
  have S2 := hid (S1.out.below hb)
  clear xA xB S1 hb
  rcases hR2 with hR2 | ⟨hR2, hR3⟩
  · go_wp2
    go_ret
    exact ⟨rfl, S2.out.bel⟩
  have hl2 : D2.pulses.length ≤ 1048576 := by omega
  clear hR3
  have hTA : Hid (∀ W, Below w2.heap.size w2 W → Calls Try.prog 8 #[.agg #[.slice a0 D.pulses.length c0, .int .i64 D.index, .int .i64 D.left, .bool D.level, .bool D.plays]] W fun r w' => ∃ a c, r = .returned (.agg #[.slice a D.pulses.length c, .int .i64 D.index, .int .i64 D.left, .bool D.level, .bool D.plays]) ∧ RowR w' (.slice a D.pulses.length c) D.pulses ∧ Below W.heap.size W w') := fun W hb => (tod a0 c0 D W (hA.out _ (new_trans S2.out.bel hb)) hl).mono (fun e w' ⟨u, he, ho, hb⟩ => by
    obtain ⟨a, c, rfl⟩ := ho.form
    exact ⟨a, c, he, ho.read, hb⟩)
  have hTB : Hid (∀ W, Below w2.heap.size w2 W → Calls Try.prog 8 #[.agg #[.slice a1 D2.pulses.length c1, .int .i64 D2.index, .int .i64 D2.left, .bool D2.level, .bool D2.plays]] W fun r w' => ∃ a c, r = .returned (.agg #[.slice a D2.pulses.length c, .int .i64 D2.index, .int .i64 D2.left, .bool D2.level, .bool D2.plays]) ∧ RowR w' (.slice a D2.pulses.length c) D2.pulses ∧ Below W.heap.size W w') := fun W hb => (tod a1 c1 D2 W (hA2.out _ (new_trans S2.out.bel hb)) hl2).mono (fun e w' ⟨u, he, ho, hb⟩ => by
    obtain ⟨a, c, rfl⟩ := ho.form
    exact ⟨a, c, he, ho.read, hb⟩)
  go_upto_region 8 with fail
  refine sw_reg _ w2 _ a0 a1 c0 c1 D D2 Q0 bA (bA + 1) rfl rfl (S2.out.at 1 rfl) (S2.out.at 0 rfl) hTA.out hTB.out (fun W a c a' c' h1 h2 => hSp.out W a c a' c' hl hl2 h1 h2) (Nat.le_of_ble_eq_true rfl) ?_
  intro w3 eW hb3
  have S3 := hid (S2.out.below hb3)
  clear hb3 S2 hTA hTB hSp
  simp only [putsA, Act.put, List.setIfInBounds_toArray, List.set_cons_zero, List.set_cons_succ]
  have xA := (S3.out.at 1 rfl).cell
  go_wp2_with fail
  refine (tod a0 c0 D _ (hA.out _ S3.out.bel) hl).mono ?_
  rintro e w5 ⟨u5, rfl, hO, hb⟩
  have S5 := S3.out.row hb hO
  obtain ⟨a5, c5, rfl⟩ := hO.form
  clear hO hb S3 xA
  have S6 := S5.box #[.slice a5 D.pulses.length c5, .int .i64 D.index, .int .i64 D.left, .bool D.level, .bool D.plays] 26
  obtain ⟨bX, hbX⟩ : ∃ b, w5.heap.size = b := ⟨_, rfl⟩
  obtain ⟨W6, hW6⟩ : ∃ W, w5.alloc (.cells #[.slice a5 D.pulses.length c5, .int .i64 D.index, .int .i64 D.left, .bool D.level, .bool D.plays] 26) = W := ⟨_, rfl⟩
  rw [hbX, hW6] at S6
  clear S5
  go_upto_region 10 with fail
  (try rw [hbX])
  (try rw [hW6])
  clear hbX hW6
  replace S6 := hid S6
  have xB := (S6.out.at 2 rfl).cell
  go_wp2_with fail
  refine (tod a1 c1 D2 _ (hA2.out _ S6.out.bel) hl2).mono ?_
  rintro e w7 ⟨u7, rfl, hO, hb⟩
  have S7 := S6.out.row hb hO
  obtain ⟨a7, c7, rfl⟩ := hO.form
  clear hO hb S6 xB
  have S8 := S7.box #[.slice a7 D2.pulses.length c7, .int .i64 D2.index, .int .i64 D2.left, .bool D2.level, .bool D2.plays] 26
  obtain ⟨bY, hbY⟩ : ∃ b, w7.heap.size = b := ⟨_, rfl⟩
  obtain ⟨W8, hW8⟩ : ∃ W, w7.alloc (.cells #[.slice a7 D2.pulses.length c7, .int .i64 D2.index, .int .i64 D2.left, .bool D2.level, .bool D2.plays] 26) = W := ⟨_, rfl⟩
  rw [hbY, hW8] at S8
  clear S7
  go_upto_region 11 with fail
  (try rw [hbY])
  (try rw [hW8])
  clear hbY hW8
  replace S8 := hid S8
  have xX := (S8.out.at 2 rfl).cell
  have xY := (S8.out.at 0 rfl).cell
  go_wp2_with fail
  refine (hIm.out _ a5 c5 a7 c7 hl hl2 (S8.out.own 3 rfl) (S8.out.own 1 rfl)).mono ?_
  rintro e w9 ⟨rfl, hb⟩
  have S9 := hid (S8.out.below hb)
  clear hb S8 xX xY hIm
  have hQ2 : (Q0 != Q0) = false := by simp
  have xX := (S9.out.at 2 rfl).cell
  have xA := (S9.out.at 5 rfl).cell
  go_upto_region 14 with fail
  have hD9 : Hid (Below w9.heap.size w9 w9.drew) := (Below.refl _ _).drew
  go_region_with (first | (go_at_call 8; refine (tod a0 c0 D _ (hA.out _ (new_trans S9.out.bel hD9.out)) hl).mono ?_; rintro e w10 ⟨u10, rfl, hO, hb⟩; have r10 := hid hO.read; obtain ⟨q1, q2, rfl⟩ := hO.form; have S10 := hid (S9.out.below (new_trans hD9.out hb)); have zX := (S10.out.at 2 rfl).cell; clear hO hb) | (go_at_call 10; refine (eqd_yes _ _ D _ (S10.out.own 3 rfl) r10.out hl).mono ?_; rintro e w11 ⟨rfl, hb11⟩; replace hb11 := hid hb11))
  all_goals
    have S11 := hid (S10.out.below hb11.out)
    clear hb11 S10 S9 zX r10 hD9 xX xA
    have xY := (S11.out.at 0 rfl).cell
    have xB := (S11.out.at 4 rfl).cell
    go_upto_region 16 with fail
    have hD9 : Hid (Below w11.heap.size w11 w11.drew) := (Below.refl _ _).drew
    go_region_with (first | (go_at_call 8; refine (tod a1 c1 D2 _ (hA2.out _ (new_trans S11.out.bel hD9.out)) hl2).mono ?_; rintro e w12 ⟨u12, rfl, hO, hb⟩; have r12 := hid hO.read; obtain ⟨q3, q4, rfl⟩ := hO.form; have S12 := hid (S11.out.below (new_trans hD9.out hb)); have zY := (S12.out.at 0 rfl).cell; clear hO hb) | (go_at_call 10; refine (eqd_yes _ _ D2 _ (S12.out.own 1 rfl) r12.out hl2).mono ?_; rintro e w13 ⟨rfl, hb13⟩; replace hb13 := hid hb13))
    all_goals
      have hBe := hid (S12.out.below hb13.out).bel
      clear hb13 S12 S11 zY r12 hD9 xY xB
      go_wp2
      go_ret
      exact ⟨rfl, hBe.out⟩

set_option maxRecDepth 100000 in
theorem lifted (os : Os) (started : os.Started) (H : Type) (enc : TypeId × Value → H) :
    ReturnsInHanded {} Try.checked os 5 .any (Rows.fnExactSameDeckSpec.pre6 enc Try.prog Try.f5 Rows.fnExactSameDeckRow.domain false) (Rows.fnExactSameDeckSpec.post enc Try.prog Try.f5 false true false false) := by
  refine returnsInHanded_of_change (C := Try.checked) own started (by kernel_rfl) Try.func5
    (ChangeSpec.witness6 (enc := enc) (C := Try.checked) false ⟨#[], #[.agg #[.slice none 0 0, .int .i64 0, .int .i64 0, .bool false, .bool false], .agg #[.slice none 0 0, .int .i64 0, .int .i64 0, .bool false, .bool false]], []⟩ 8 (by kernel_rfl) (by kernel_rfl) (by kernel_rfl) (by kernel_rfl)) ?_
  intro W base args ds gs before hval0 hW hcnd _
  have hval : ∀ (j : Nat) t v, Try.f5.params[j]? = some t → args[j]? = some v → Value.okWide Try.prog W .any base t v := hval0
  have hW' := hW
  obtain ⟨p, q, hA0, hV, rfl, hfz, hnd⟩ := hW
  have hA : DataW.TrodAll enc Try.prog W 0 (fun _ => true) true Try.f5.params.toList args.toList ds p := hA0
  rw [Try.params5] at hA hval
  obtain ⟨v0, vs0, d0, ds0, p0, q0, hargs, rfl, rfl, h0, r0⟩ := trodAll_cons hA
  obtain ⟨v1, vs1, d1, ds1, p1, q1, rfl, rfl, rfl, h1, r1⟩ := trodAll_cons r0
  obtain ⟨rfl, rfl, rfl⟩ := trodAll_nil r1
  obtain rfl : args = #[v0, v1] := by cases args; simp_all
  obtain ⟨rfl, rfl⟩ := trodVars_none hV
  have k0 := h0
  have lt0 : ∀ x ∈ p0, x.block < W.heap.size := by obtain ⟨m, hm⟩ := k0; exact DataW.trod_lt m _ _ _ hm
  obtain ⟨a0, c0, D, rfl, hR0, hm0⟩ := deck_in (hval 0 24 v0 rfl rfl) h0
  have k1 := h1
  have lt1 : ∀ x ∈ p1, x.block < W.heap.size := by obtain ⟨m, hm⟩ := k1; exact DataW.trod_lt m _ _ _ hm
  obtain ⟨a1, c1, D2, rfl, hR1, hm1⟩ := deck_in (hval 1 24 v1 rfl rfl) h1
  clear hA0 hval0
  refine (walk a0 c0 D a1 c1 D2 W hR0 hm0 hR1 hm1).mono fun e W' ⟨he, bel⟩ => ?_
  subst he
  exact ⟨_, rfl, _, _, _, [], _, [], hW', (trodAll_cons_mk (shut_bool Try.underlying4 _) trodAll_mk0), (trodAll_cons_mk (Below.trod laidOut (by kernel_rfl) (of_decide_eq_true (by kernel_rfl)) k0 bel lt0) (trodAll_cons_mk (Below.trod laidOut (by kernel_rfl) (of_decide_eq_true (by kernel_rfl)) k1 bel lt1) trodAll_mk0)), rfl, bel.frame _, fun h => by cases h⟩

theorem said : Rows.FnExactSameDeckSaid :=
  OpenClaim.holds_of_wide 5 Try.f5 rfl rfl rfl rfl rfl rfl rfl ⟨rfl, rfl, rfl, rfl, rfl⟩ rfl rfl rfl rfl rfl (by kernel_rfl) Try.func5 (by kernel_rfl)
    (of_decide_eq_true (by kernel_rfl)) (by unfold Func.isWrapper; first | (rw [if_pos (by decide +kernel)]; kernel_rfl) | (rw [if_neg (by decide +kernel)]; exact ⟨rfl, rfl⟩))
    (fun os started H enc _ => lifted os started H enc)
end Go.Proofs.Ytohnddjijedfkab.fnExactSameDeck
namespace Go.Proofs.Ytohnddjijedfkab
theorem fnExactSameDeck_holds : Rows.FnExactSameDeckSaid := fnExactSameDeck.said
#print axioms fnExactSameDeck_holds
end Go.Proofs.Ytohnddjijedfkab
