/- For every deck and number the law FnExactRunDeck returns true: impl.RunDeck answers as spec.RunDeck, in memory of its own, and changes nothing. -/
import Derived.Test.YtohnddjijedfkabRows
import Derived.Test.YtohnddjijedfkabDi
import Derived.Test.YtohnddjijedfkabDu
import Derived.Test.YtohnddjijedfkabDl
import Derived.WalkKit
import Derived.ProofKit
import Derived.OpenShut
import Derived.ShutString
import Derived.ChangeOld
import Derived.Below
import Derived.Lib.SmallJoins
namespace Go.Proofs.Ytohnddjijedfkab.fnExactRunDeck
open Go.ChangeShapes Go.WideShapes Go.ChangeAt Go.RowKit Go.Joins
open Go.ChangeMaps (open_string shut_string)
set_option linter.unusedVariables false

theorem own : ownKnob Try.prog.godebug = none := by kernel_rfl
theorem laidOut : laidOutB Try.prog = true := by kernel_rfl

set_option maxRecDepth 100000 in
set_option maxHeartbeats 8000000 in
theorem walk (a0 : Option Addr) (c0 : Nat) (D : Dk) (a1 : Int) (w : World) (hR0 : RowR w (.slice a0 D.pulses.length c0) D.pulses) (hm0 : D.pulses.length ≤ maxLen) (w1 : (Lit.int .i64 a1).wf = true) :
    Calls Try.prog 4 #[dkV (.slice a0 D.pulses.length c0) D, .int .i64 a1] w fun e w' => e = .returned (.bool true) ∧ Below w.heap.size w w' := by
  have hSp := hid (fun W a c hh hl => rund_spec a c D a1 W hh hl)
  have hIm := hid (fun W a c hh hl => rund_impl a c D a1 W hh hl)
  have hXl : D.pulses.length ≤ 1048576 → (runV D a1).1.1.pulses.length ≤ 1048576 := fun h => by
    unfold runV
    split
    · rename_i hok
      split
      · rw [show (run2 D a1).1.pulses = D.pulses from (runD_ok (D.pulses.length + 1) D a1 0 hok).2.1]
        exact h
      · exact Nat.zero_le _
    · exact Nat.zero_le _
  obtain ⟨X, hX⟩ : ∃ X, (runV D a1).1.1 = X := ⟨_, rfl⟩
  obtain ⟨E1, hE1⟩ : ∃ E1, (runV D a1).1.2 = E1 := ⟨_, rfl⟩
  obtain ⟨C1, hC1⟩ : ∃ C1, (runV D a1).2 = C1 := ⟨_, rfl⟩
  rw [hX, hE1, hC1] at hSp hIm
  rw [hX] at hXl
  clear hX hC1 hE1
  have hA : Hid (∀ W', Below w.heap.size w W' → RowR W' (.slice a0 D.pulses.length c0) D.pulses) := fun W' hb => hR0.below hb
  have S0 := (StD.nil w).box #[.slice a0 D.pulses.length c0, .int .i64 D.index, .int .i64 D.left, .bool D.level, .bool D.plays] 24
  obtain ⟨bA, hbA⟩ : ∃ b, w.heap.size = b := ⟨_, rfl⟩
  rw [hbA] at S0
  clear hR0
  go_enter Try.func4, Try.ntmps4
  go_upto_region 1 with fail
  try rw [hbA]
  obtain ⟨V, hV⟩ : ∃ V, w.alloc (.cells #[.slice a0 D.pulses.length c0, .int .i64 D.index, .int .i64 D.left, .bool D.level, .bool D.plays] 24) = V := ⟨_, rfl⟩
  rw [hV] at S0 ⊢
  clear hV hbA
  have xA := (S0.at 0 rfl).cell
  replace S0 := hid S0
  go_wp2_with fail
  refine (szd a0 c0 D 1048576 _ hm0 (by omega) (by omega)).mono ?_
  rintro e w1 ⟨R, rfl, hR, hb⟩
  have S1 := hid (S0.out.below hb)
  clear xA S0 hb
  have xA := (S1.out.at 0 rfl).cell
  rcases hR with hR | ⟨hR, hR2⟩
  · go_wp2
    go_ret
    exact ⟨rfl, S1.out.bel⟩
  have hl : D.pulses.length ≤ 1048576 := by omega
  clear hR2
  have hXn := hXl hl
  clear hXl
  go_wp2_with fail
  refine (tod a0 c0 D _ (hA.out _ S1.out.bel) hl).mono ?_
  rintro e w2 ⟨u2, rfl, hO, hb⟩
  have S2 := hid (S1.out.below hb)
  have hr2 := hid hO.read
  obtain ⟨a2, c2, rfl⟩ := hO.form
  clear hO hb S1 xA
  go_wp2_with fail
  refine (hSp.out _ a2 c2 hr2.out hl).mono ?_
  rintro e w3 ⟨v3, rfl, hG⟩
  have S3 := S2.out.row hG.bel (OwnI.of hG)
  obtain ⟨a3, c3, rfl⟩ := hG.form
  clear hG S2 hr2 hSp
  have S4 := S3.box #[.slice a3 X.pulses.length c3, .int .i64 X.index, .int .i64 X.left, .bool X.level, .bool X.plays] 26
  obtain ⟨bW, hbW⟩ : ∃ b, w3.heap.size = b := ⟨_, rfl⟩
  obtain ⟨W4, hW4⟩ : ∃ W, w3.alloc (.cells #[.slice a3 X.pulses.length c3, .int .i64 X.index, .int .i64 X.left, .bool X.level, .bool X.plays] 26) = W := ⟨_, rfl⟩
  rw [hbW, hW4] at S4
  clear S3
  go_upto_region 6 with fail
  (try rw [hbW])
  (try rw [hW4])
  clear hbW hW4
  replace S4 := hid S4
  have xA := (S4.out.at 2 rfl).cell
  go_wp2_with fail
  refine (tod a0 c0 D _ (hA.out _ S4.out.bel) hl).mono ?_
  rintro e w5 ⟨u5, rfl, hO, hb⟩
  have S5 := S4.out.row hb hO
  obtain ⟨a5, c5, rfl⟩ := hO.form
  clear hO hb S4 xA
  have S6 := S5.box #[.slice a5 D.pulses.length c5, .int .i64 D.index, .int .i64 D.left, .bool D.level, .bool D.plays] 26
  obtain ⟨bX, hbX⟩ : ∃ b, w5.heap.size = b := ⟨_, rfl⟩
  obtain ⟨W6, hW6⟩ : ∃ W, w5.alloc (.cells #[.slice a5 D.pulses.length c5, .int .i64 D.index, .int .i64 D.left, .bool D.level, .bool D.plays] 26) = W := ⟨_, rfl⟩
  rw [hbX, hW6] at S6
  clear S5
  go_upto_region 7 with fail
  (try rw [hbX])
  (try rw [hW6])
  clear hbX hW6
  replace S6 := hid S6
  have xX := (S6.out.at 0 rfl).cell
  go_wp2_with fail
  refine (hIm.out _ a5 c5 (S6.out.own 1 rfl) hl).mono ?_
  rintro e w7 ⟨v7, rfl, hG⟩
  have S7 := S6.out.row hG.bel (OwnI.of hG)
  obtain ⟨a7, c7, rfl⟩ := hG.form
  clear hG S6 xX
  have S8 := S7.box #[.slice a7 X.pulses.length c7, .int .i64 X.index, .int .i64 X.left, .bool X.level, .bool X.plays] 26
  obtain ⟨bG, hbG⟩ : ∃ b, w7.heap.size = b := ⟨_, rfl⟩
  obtain ⟨W8, hW8⟩ : ∃ W, w7.alloc (.cells #[.slice a7 X.pulses.length c7, .int .i64 X.index, .int .i64 X.left, .bool X.level, .bool X.plays] 26) = W := ⟨_, rfl⟩
  rw [hbG, hW8] at S8
  clear S7
  go_upto_region 8 with fail
  (try rw [hbG])
  (try rw [hW8])
  clear hbG hW8
  replace S8 := hid S8
  have xG := (S8.out.at 0 rfl).cell
  have xX := (S8.out.at 2 rfl).cell
  have xW := (S8.out.at 4 rfl).cell
  have xA := (S8.out.at 6 rfl).cell
  go_wp2_with fail
  refine (eqd_yes _ _ X _ (S8.out.own 1 rfl) (S8.out.own 5 rfl) hXn).mono ?_
  rintro e w9 ⟨rfl, hb⟩
  have S9 := hid (S8.out.below hb)
  clear hb S8
  clear xG xX xW xA
  have xG := (S9.out.at 0 rfl).cell
  have xX := (S9.out.at 2 rfl).cell
  have xW := (S9.out.at 4 rfl).cell
  have xA := (S9.out.at 6 rfl).cell
  go_upto_region 10 with fail
  have hD9 : Hid (Below w9.heap.size w9 w9.drew) := (Below.refl _ _).drew
  go_region_with (first | (go_at_call 8; refine (tod a0 c0 D _ (hA.out _ (new_trans S9.out.bel hD9.out)) hl).mono ?_; rintro e w10 ⟨u10, rfl, hO, hb⟩; have r10 := hid hO.read; obtain ⟨q1, q2, rfl⟩ := hO.form; have S10 := hid (S9.out.below (new_trans hD9.out hb)); have zX := (S10.out.at 2 rfl).cell; clear hO hb) | (go_at_call 10; refine (eqd_yes _ _ D _ (S10.out.own 3 rfl) r10.out hl).mono ?_; rintro e w11 ⟨rfl, hb11⟩; replace hb11 := hid hb11))
  all_goals
    have S11 := hid (S10.out.below hb11.out)
    clear hb11 S10 S9 zX r10 hD9 xG xX xW xA
    have xG := (S11.out.at 0 rfl).cell
    have xX := (S11.out.at 2 rfl).cell
    have xW := (S11.out.at 4 rfl).cell
    have xA := (S11.out.at 6 rfl).cell
    go_wp2_with fail
    refine (markd _ D D.pulses _ (S11.out.sts.has 3 rfl) hl).mono ?_
    rintro e w12 ⟨rfl, hm, ho⟩
    have S12 := hid (S11.out.mark 3 rfl hm ho)
    clear hm ho S11
    clear xG xX xW xA
    have xG := (S12.out.at 0 rfl).cell
    have xX := (S12.out.at 2 rfl).cell
    have xW := (S12.out.at 4 rfl).cell
    have xA := (S12.out.at 6 rfl).cell
    obtain ⟨kk, hkk⟩ : ∃ kk : Int, 1 + (D.pulses.length : Int) = kk := ⟨_, rfl⟩
    rw [hkk]
    have hk0 : ¬ kk < 0 := by omega
    clear hkk
    go_wp2_with fail
    refine (eqd_yes _ _ X _ (S12.out.own 1 rfl) (S12.out.own 5 rfl) hXn).mono ?_
    rintro e w13 ⟨rfl, hb⟩
    have S13 := hid (S12.out.below hb)
    clear hb S12
    clear xG xX xW xA
    have xG := (S13.out.at 0 rfl).cell
    have xX := (S13.out.at 2 rfl).cell
    have xW := (S13.out.at 4 rfl).cell
    have xA := (S13.out.at 6 rfl).cell
    go_wp2_with fail
    refine (markd _ X X.pulses _ (S13.out.sts.has 1 rfl) hXn).mono ?_
    rintro e w14 ⟨rfl, hm, ho⟩
    have S14 := hid (S13.out.mark 1 rfl hm ho)
    clear hm ho S13
    clear xG xX xW xA
    have xG := (S14.out.at 0 rfl).cell
    have xX := (S14.out.at 2 rfl).cell
    have xW := (S14.out.at 4 rfl).cell
    have xA := (S14.out.at 6 rfl).cell
    obtain ⟨k2, hk2⟩ : ∃ k2 : Int, 1 + (X.pulses.length : Int) = k2 := ⟨_, rfl⟩
    rw [hk2]
    have hk3 : ¬ k2 < 0 := by omega
    replace hk2 := hid hk2
    go_wp2_with fail
    refine (heldd _ X X.pulses.length _ (S14.out.own 1 rfl) hXn).mono ?_
    rintro e w15 ⟨rfl, hb⟩
    rw [hk2.out]
    have S15 := hid (S14.out.below hb)
    clear hb S14
    clear xG xX xW xA
    have xG := (S15.out.at 0 rfl).cell
    have xX := (S15.out.at 2 rfl).cell
    have xW := (S15.out.at 4 rfl).cell
    have xA := (S15.out.at 6 rfl).cell
    have hkk : (k2 != k2) = false := by simp
    go_wp2_with fail
    refine (tod a0 c0 D _ (hA.out _ S15.out.bel) hl).mono ?_
    rintro e w16 ⟨u16, rfl, hO, hb⟩
    have S16 := hid (S15.out.below hb)
    have hr16 := hid hO.read
    obtain ⟨a16, c16, rfl⟩ := hO.form
    clear hO hb S15 xG xX xW xA
    go_wp2_with fail
    refine (hIm.out _ a16 c16 hr16.out hl).mono ?_
    rintro e w17 ⟨v17, rfl, hG⟩
    have S17 := S16.out.row hG.bel (OwnI.of hG)
    obtain ⟨a17, c17, rfl⟩ := hG.form
    clear hG S16 hr16 hIm
    have S18 := S17.box #[.slice a17 X.pulses.length c17, .int .i64 X.index, .int .i64 X.left, .bool X.level, .bool X.plays] 26
    obtain ⟨bH, hbH⟩ : ∃ b, w17.heap.size = b := ⟨_, rfl⟩
    obtain ⟨W18, hW18⟩ : ∃ W, w17.alloc (.cells #[.slice a17 X.pulses.length c17, .int .i64 X.index, .int .i64 X.left, .bool X.level, .bool X.plays] 26) = W := ⟨_, rfl⟩
    rw [hbH, hW18] at S18
    clear S17
    go_upto_region 25 with fail
    (try rw [hbH])
    (try rw [hW18])
    clear hbH hW18
    replace S18 := hid S18
    have xH := (S18.out.at 0 rfl).cell
    have xG := (S18.out.at 2 rfl).cell
    have xW := (S18.out.at 6 rfl).cell
    go_wp2_with fail
    refine (eqd_yes _ _ X _ (S18.out.own 1 rfl) (S18.out.own 7 rfl) hXn).mono ?_
    rintro e w19 ⟨rfl, hb⟩
    have S19 := hid (S18.out.below hb)
    clear hb S18
    clear xH xG xW
    have xH := (S19.out.at 0 rfl).cell
    have xG := (S19.out.at 2 rfl).cell
    have xW := (S19.out.at 6 rfl).cell
    go_wp2_with fail
    refine (heldd _ X X.pulses.length _ (S19.out.own 3 rfl) hXn).mono ?_
    rintro e w20 ⟨rfl, hb⟩
    rw [hk2.out]
    have hBe := hid (S19.out.below hb).bel
    clear hb S19 xH xG xW
    go_wp2
    go_ret
    exact ⟨rfl, hBe.out⟩

set_option maxRecDepth 100000 in
theorem lifted (os : Os) (started : os.Started) (H : Type) (enc : TypeId × Value → H) :
    ReturnsInHanded {} Try.checked os 4 .any (Rows.fnExactRunDeckSpec.pre6 enc Try.prog Try.f4 Rows.fnExactRunDeckRow.domain false) (Rows.fnExactRunDeckSpec.post enc Try.prog Try.f4 false true false false) := by
  refine returnsInHanded_of_change (C := Try.checked) own started (by kernel_rfl) Try.func4
    (ChangeSpec.witness6 (enc := enc) (C := Try.checked) false ⟨#[], #[.agg #[.slice none 0 0, .int .i64 0, .int .i64 0, .bool false, .bool false], .int .i64 0], []⟩ 8 (by kernel_rfl) (by kernel_rfl) (by kernel_rfl) (by kernel_rfl)) ?_
  intro W base args ds gs before hval0 hW hcnd _
  have hval : ∀ (j : Nat) t v, Try.f4.params[j]? = some t → args[j]? = some v → Value.okWide Try.prog W .any base t v := hval0
  have hW' := hW
  obtain ⟨p, q, hA0, hV, rfl, hfz, hnd⟩ := hW
  have hA : DataW.TrodAll enc Try.prog W 0 (fun _ => true) true Try.f4.params.toList args.toList ds p := hA0
  rw [Try.params4] at hA hval
  obtain ⟨v0, vs0, d0, ds0, p0, q0, hargs, rfl, rfl, h0, r0⟩ := trodAll_cons hA
  obtain ⟨v1, vs1, d1, ds1, p1, q1, rfl, rfl, rfl, h1, r1⟩ := trodAll_cons r0
  obtain ⟨rfl, rfl, rfl⟩ := trodAll_nil r1
  obtain rfl : args = #[v0, v1] := by cases args; simp_all
  obtain ⟨rfl, rfl⟩ := trodVars_none hV
  have k0 := h0
  have lt0 : ∀ x ∈ p0, x.block < W.heap.size := by obtain ⟨m, hm⟩ := k0; exact DataW.trod_lt m _ _ _ hm
  obtain ⟨a0, c0, D, rfl, hR0, hm0⟩ := deck_in (hval 0 24 v0 rfl rfl) h0
  obtain ⟨a1, rfl, rfl, rfl, w1⟩ := open_int Try.underlying3 (hval 1 3 v1 rfl rfl) h1
  clear hA0 hval0
  refine (walk a0 c0 D a1 W hR0 hm0 w1).mono fun e W' ⟨he, bel⟩ => ?_
  subst he
  exact ⟨_, rfl, _, _, _, [], _, [], hW', (trodAll_cons_mk (shut_bool Try.underlying4 _) trodAll_mk0), (trodAll_cons_mk (Below.trod laidOut (by kernel_rfl) (of_decide_eq_true (by kernel_rfl)) k0 bel lt0) (trodAll_cons_mk (shut_int Try.underlying3 w1) trodAll_mk0)), rfl, bel.frame _, fun h => by cases h⟩

theorem said : Rows.FnExactRunDeckSaid :=
  OpenClaim.holds_of_wide 4 Try.f4 rfl rfl rfl rfl rfl rfl rfl ⟨rfl, rfl, rfl, rfl, rfl⟩ rfl rfl rfl rfl rfl (by kernel_rfl) Try.func4 (by kernel_rfl)
    (of_decide_eq_true (by kernel_rfl)) (by unfold Func.isWrapper; first | (rw [if_pos (by decide +kernel)]; kernel_rfl) | (rw [if_neg (by decide +kernel)]; exact ⟨rfl, rfl⟩))
    (fun os started H enc _ => lifted os started H enc)
end Go.Proofs.Ytohnddjijedfkab.fnExactRunDeck
namespace Go.Proofs.Ytohnddjijedfkab
theorem fnExactRunDeck_holds : Rows.FnExactRunDeckSaid := fnExactRunDeck.said
#print axioms fnExactRunDeck_holds
end Go.Proofs.Ytohnddjijedfkab
