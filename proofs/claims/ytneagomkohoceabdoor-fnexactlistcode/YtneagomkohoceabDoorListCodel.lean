/- For every list of numbers the law FnExactListCode returns true: impl.ListCode answers as spec.ListCode, its answer is its own, and the list is as it was; the tables being as the program's text lays them. -/
import Derived.Test.YtneagomkohoceabDoorCards
import Derived.Test.YtneagomkohoceabDoorTie
import Derived.Test.YtneagomkohoceabDoorTybl
import Derived.Test.YtneagomkohoceabDoorTycl
import Derived.Test.YtneagomkohoceabDoorTydl
import Derived.Test.YtneagomkohoceabDoorL41
import Derived.Test.YtneagomkohoceabDoorVvl
import Derived.WalkKit
import Derived.ProofKit
import Derived.OpenShut
import Derived.ShutString
import Derived.ChangeOld
import Derived.Below
import Derived.LaidMore
import Derived.OpenVars
import Derived.SevenTiedAt
import Derived.Stop.Joined
import Derived.Lib.SmallJoins
namespace Go.Proofs.YtneagomkohoceabDoor.fnExactListCode
open Go.ChangeShapes Go.WideShapes Go.ChangeAt Go.RowKit Go.Joins
open Go.ChangeMaps (open_string shut_string)
set_option linter.unusedVariables false

theorem own : ownKnob Tryd.prog.godebug = none := by kernel_rfl
theorem laidOut : laidOutB Tryd.prog = true := by kernel_rfl

set_option maxRecDepth 100000 in
set_option maxHeartbeats 8000000 in
theorem walk (a0 : Option Addr) (c0 : Nat) (l0 : List Int) (w : World) (hR0 : RowR w (.slice a0 l0.length c0) l0) (hm0 : l0.length ≤ maxLen) (hL : Kinds w ∧ PowT w) :
    Calls Tryd.prog 7 #[.slice a0 l0.length c0] w fun e w' => e = .returned (.bool true) ∧ Below w.heap.size w w' := by
  obtain ⟨hKd, hPw⟩ := hL
  by_cases hbig : 1048576 < l0.length
  · unfold maxLen at hm0
    clear hKd hPw
    go_enter Tryd.func7, Tryd.ntmps7
    go_wp2
    go_ret
    exact ⟨rfl, Below.refl _ _⟩
  have hl : l0.length ≤ 1048576 := by omega
  have hTo := hid (fun W (h : RowR W (.slice a0 l0.length c0) l0) => tor (.slice a0 l0.length c0) l0 W h (by omega))
  have hSp := hid (fun W a c (h : RowR W (.slice a l0.length c) l0) => llist_spec a c l0 W h hl)
  have hIm : Hid (∀ W, Below w.heap.size w W → ∀ a c, RowR W (.slice a l0.length c) l0 → Calls Tryd.prog 28 #[.slice a l0.length c] W fun e w' => ∃ v, e = .returned (.tuple #[v, .int .i64 (lc2 l0).2]) ∧ w'.ownsRow W.heap.size 9 1 v (lc2 l0).1.length ((lc2 l0).1.map Value.string) ∧ Below W.heap.size W w') := fun W hW a c h => list_impl a c l0 W h hl (hKd.below hW) (hPw.up hW)
  have hTn : (lc2 l0).1.length ≤ 300 := by
    unfold lc2
    split
    · exact Nat.zero_le _
    · split
      · exact Nat.zero_le _
      · split
        · have := lcS_bd l0 l0.length
          dsimp only
          omega
        · exact Nat.zero_le _
  obtain ⟨T, hT⟩ : ∃ T, (lc2 l0).1 = T := ⟨_, rfl⟩
  obtain ⟨C, hC⟩ : ∃ C, (lc2 l0).2 = C := ⟨_, rfl⟩
  rw [hT, hC] at hSp hIm
  rw [hT] at hTn
  clear hT hC hKd hPw
  replace hR0 := hid hR0
  go_enter Tryd.func7, Tryd.ntmps7
  go_wp2_with fail
  refine (hTo.out _ hR0.out).mono ?_
  rintro e w2 ⟨u2, rfl, hO2, hb2⟩
  obtain ⟨a2, c2, rfl⟩ := hO2.reads.formV
  have hR2 := hid hO2.reads
  have B2 := hid hb2
  clear hO2 hb2
  go_wp2_with fail
  refine (hSp.out _ _ _ hR2.out).mono ?_
  rintro e w3 ⟨v3, rfl, ho3, hb3⟩
  have hS3 := hid (OwnS.read (show OwnS w2.heap.size w3 v3 T from ho3))
  have B3 := hid (new_trans B2.out hb3)
  obtain ⟨a3, c3, rfl⟩ := hS3.out.form
  clear hR2 ho3 hb3 hSp B2
  go_wp2_with fail
  refine (hTo.out _ (hR0.out.below B3.out)).mono ?_
  rintro e w4 ⟨u4, rfl, hO4, hb4⟩
  obtain ⟨a4, c4, rfl⟩ := hO4.reads.formV
  have hX4 := hid hO4
  have D4 := hid hb4
  have B4 := hid (new_trans B3.out hb4)
  have hg4 := hO4.lt
  clear hO4 hb4
  obtain ⟨g4, eg⟩ : ∃ b, w3.heap.size = b := ⟨_, rfl⟩
  rw [eg] at hX4 hg4 D4
  have hg34 : Hid (w3.heap.size = g4) := eg
  clear eg
  go_wp2_with fail
  refine (hIm.out _ B4.out _ _ hX4.out.reads).mono ?_
  rintro e w5 ⟨v5, rfl, ho5, hb5⟩
  have hO5 : Hid (OwnS w4.heap.size w5 v5 T) := ho5
  have hX5 := hid (hX4.out.kept (hb5.block g4 hg4))
  have D5 : Hid (Below g4 w3 w5) := D4.out.trans (hb5.mono (by omega))
  have hs45 : Hid (w4.heap.size ≤ w5.heap.size) := hb5.size
  obtain ⟨a5, c5, rfl⟩ := hO5.out.read.form
  clear ho5 hb5 hX4 D4 B4
  go_wp2_with fail
  refine (eqs_yes _ _ T _ hO5.out.read (hS3.out.below (by rw [hg34.out]; exact D5.out)) (by omega)).mono ?_
  rintro e w6 ⟨rfl, n6, rfl⟩
  have hb6 : Below w5.heap.size w5 (w5.drewN n6) := Below.drewN w5 n6 _
  have hO6 := hid (hO5.out.below hb6)
  have hX6 := hid (hX5.out.kept (hb6.block g4 (by have := hs45.out; omega)))
  have D6 : Hid (Below g4 w3 (w5.drewN n6)) := D5.out.trans (hb6.mono (by have := hs45.out; omega))
  have hs46 : Hid (w4.heap.size ≤ (w5.drewN n6).heap.size) := Nat.le_trans hs45.out hb6.size
  obtain ⟨W6, hW6⟩ : ∃ W, w5.drewN n6 = W := ⟨_, rfl⟩
  rw [hW6] at hO6 hX6 D6 hs46 ⊢
  clear hb6 hW6 hO5 hX5 D5 hs45
  go_wp2_with fail
  refine (hTo.out _ (hR0.out.below (B3.out.trans (D6.out.mono (by have := B3.out.size; have := hg34.out; omega))))).mono ?_
  rintro e w7 ⟨u7, rfl, hO7, hb7⟩
  have hR7 := hid hO7.reads
  obtain ⟨a7, c7, rfl⟩ := hO7.reads.formV
  have hl6 : g4 < W6.heap.size := by have := hs46.out; omega
  have hO67 := hid (hO6.out.below hb7)
  have hX7 := hid (hX6.out.kept (hb7.block g4 hl6))
  have D7 : Hid (Below g4 w3 w7) := D6.out.trans (hb7.mono (by omega))
  have hs47 : Hid (w4.heap.size ≤ w7.heap.size) := Nat.le_trans hs46.out hb7.size
  clear hb7 hO7 hO6 hX6 D6 hs46
  go_wp2_with fail
  refine (eqr_yes _ _ l0 _ hX7.out.reads hR7.out (by omega)).mono ?_
  rintro e w8 ⟨rfl, n8, rfl⟩
  have hb8 : Below w7.heap.size w7 (w7.drewN n8) := Below.drewN w7 n8 _
  have hl7 : g4 < w7.heap.size := by have := hs47.out; omega
  have hO8 := hid (hO67.out.below hb8)
  have hX8 := hid (hX7.out.kept (hb8.block g4 hl7))
  have D8 : Hid (Below g4 w3 (w7.drewN n8)) := D7.out.trans (hb8.mono (by omega))
  have hs48 : Hid (w4.heap.size ≤ (w7.drewN n8).heap.size) := Nat.le_trans hs47.out hb8.size
  obtain ⟨W8, hW8⟩ : ∃ W, w7.drewN n8 = W := ⟨_, rfl⟩
  rw [hW8] at hO8 hX8 D8 hs48 ⊢
  clear hb8 hW8 hO67 hX7 D7 hs47 hR7
  go_wp2_with fail
  refine (markr _ g4 1 l0 _ hX8.out (by omega) (by omega) (by omega)).mono ?_
  rintro e w9 ⟨rfl, _, hG9⟩
  have hl8 : g4 < W8.heap.size := by have := hs48.out; omega
  have hO9 : Hid (OwnS w4.heap.size w9 (.slice a5 T.length c5) T) := hO8.out.kept hG9 (by
    cases hx : (Value.slice a5 T.length c5).ownBlock with
    | none => exact .inl rfl
    | some k => exact .inr (fun e => by injection e with e; have := (hO8.out.lt k hx).1; omega))
  have D9 : Hid (Below g4 w3 w9) := D8.out.trans ((Below.refl _ _).grown hG9 (by omega) (fun k hk => by cases hk; exact Nat.le_refl _))
  have hs49 : Hid (w4.heap.size ≤ w9.heap.size) := Nat.le_trans hs48.out hG9.size
  have hk9 : ¬ (1 + (l0.length : Int)) < 0 := by omega
  clear hG9 hO8 hX8 D8 hs48
  go_wp2_with fail
  refine (eqs_yes _ _ T _ hO9.out.read (hS3.out.below (by rw [hg34.out]; exact D9.out)) (by omega)).mono ?_
  rintro e w10 ⟨rfl, n10, rfl⟩
  have hb10 : Below w9.heap.size w9 (w9.drewN n10) := Below.drewN w9 n10 _
  have hO10 := hid (hO9.out.below hb10)
  have D10 : Hid (Below g4 w3 (w9.drewN n10)) := D9.out.trans (hb10.mono (by have := hs49.out; omega))
  have hs410 : Hid (w4.heap.size ≤ (w9.drewN n10).heap.size) := Nat.le_trans hs49.out hb10.size
  obtain ⟨W10, hW10⟩ : ∃ W, w9.drewN n10 = W := ⟨_, rfl⟩
  rw [hW10] at hO10 D10 hs410 ⊢
  clear hb10 hW10 hO9 D9 hs49
  go_wp2_with fail
  refine (marks_ _ _ T _ hO10.out (by omega)).mono ?_
  rintro e w11 ⟨rfl, hS11, hG11⟩
  have hM11 := hid hS11
  have D11 : Hid (Below g4 w3 w11) := D10.out.trans ((Below.refl _ _).grown hG11 (by have := hs410.out; omega) (fun k hk => by have := (hO10.out.lt k hk).1; omega))
  have hs411 : Hid (w4.heap.size ≤ w11.heap.size) := Nat.le_trans hs410.out hG11.size
  clear hS11 hG11 hO10 D10 hs410
  go_wp2_with fail
  refine (helds_ _ T.length _ hM11.out (by omega)).mono ?_
  rintro e w12 ⟨rfl, hb12⟩
  have hM12 := hid (hM11.out.below hb12)
  have D12 : Hid (Below g4 w3 w12) := D11.out.trans (hb12.mono (by have := hs411.out; omega))
  have hs412 : Hid (w4.heap.size ≤ w12.heap.size) := Nat.le_trans hs411.out hb12.size
  have hk12 : ¬ (1 + (T.length : Int)) < 0 := by omega
  clear hb12 hM11 D11 hs411
  go_wp2_with fail
  refine (hTo.out _ (hR0.out.below (B3.out.trans (D12.out.mono (by have := B3.out.size; have := hg34.out; omega))))).mono ?_
  rintro e w13 ⟨u13, rfl, hO13, hb13⟩
  have hR13 := hid hO13.reads
  obtain ⟨a13, c13, rfl⟩ := hO13.reads.formV
  have hM13 := hid (hM12.out.below hb13)
  have D13 : Hid (Below g4 w3 w13) := D12.out.trans (hb13.mono (by have := hs412.out; omega))
  have hs413 : Hid (w4.heap.size ≤ w13.heap.size) := Nat.le_trans hs412.out hb13.size
  have B13 : Hid (Below w.heap.size w w13) := B3.out.trans (D13.out.mono (by have := B3.out.size; have := hg34.out; omega))
  clear hb13 hO13 hM12 D12 hs412
  go_wp2_with fail
  refine (hIm.out _ B13.out _ _ hR13.out).mono ?_
  rintro e w14 ⟨v14, rfl, ho14, hb14⟩
  have hS14 := hid (OwnS.read (show OwnS w13.heap.size w14 v14 T from ho14))
  have hM14 := hid (hM13.out.below hb14)
  have D14 : Hid (Below g4 w3 w14) := D13.out.trans (hb14.mono (by have := hs413.out; omega))
  have B14 := hid (new_trans B13.out hb14)
  obtain ⟨a14, c14, rfl⟩ := hS14.out.form
  clear ho14 hb14 hM13 D13 hs413 B13 hR13
  go_wp2_with fail
  refine (eqs_yes _ _ T _ hS14.out (hS3.out.below (by rw [hg34.out]; exact D14.out)) (by omega)).mono ?_
  rintro e w15 ⟨rfl, n15, rfl⟩
  have hM15 := hid (hM14.out.below (Below.drewN w14 n15 _))
  have B15 := hid (new_trans B14.out (Below.drewN w14 n15 _))
  clear hS14 hM14 D14 B14
  go_wp2_with fail
  refine (helds_ _ T.length _ hM15.out (by omega)).mono ?_
  rintro e w16 ⟨rfl, hb16⟩
  have B16 := hid (new_trans B15.out hb16)
  clear hb16 hM15 B15
  go_wp2_with fail
  go_ret
  exact ⟨rfl, B16.out⟩

theorem door_met (os : Os) (args : Array Value) : laidMetH Tryd.prog Rows.fnExactListCodeRow.laid ((World.doorLaid Tryd.prog 400 os).forCall (fun _ _ => 0) ⟨#[], args, []⟩).memory :=
  laidMetH_of_parts3 (fuel := 8) (laidMet_of_run' 8 (by kernel_rfl) (by kernel_rfl)) (by kernel_rfl) (by kernel_rfl)

set_option maxRecDepth 100000 in
theorem lifted (os : Os) (started : os.Started) (H : Type) (enc : TypeId × Value → H) :
    ReturnsInHanded {} Tryd.checked os 7 .any (fun w args => (Rows.fnExactListCodeSpec.pre enc Tryd.prog Tryd.f7 [] false w args ∧ laidMetH Tryd.prog Rows.fnExactListCodeRow.laid w) ∧ sizedMet enc Tryd.prog Tryd.f7 (OpenSpec.ofChange Rows.fnExactListCodeSpec) false w args)
      (Rows.fnExactListCodeSpec.post enc Tryd.prog Tryd.f7 false true false false) := by
  refine returnsInHanded_of_change_and (C := Tryd.checked) (X := fun w _ => laidMetH Tryd.prog Rows.fnExactListCodeRow.laid w) (fun _ _ _ hh h => h.of_heap hh) own started (by kernel_rfl) Tryd.func7
    (ChangeSpec.witness_shaped (enc := enc) (C := Tryd.checked) (os := os) (X := fun w _ => laidMetH Tryd.prog Rows.fnExactListCodeRow.laid w) false (World.doorLaid Tryd.prog 400 os) #[.slice none 0 0] 8 rfl (World.shaped_of_RefB (by kernel_rfl) (by kernel_rfl)) (by kernel_rfl) (by kernel_rfl) (by kernel_rfl) (door_met os _)) ?_
  intro W base args ds gs before hval0 hW _ _ hL _
  have hval : ∀ (j : Nat) t v, Tryd.f7.params[j]? = some t → args[j]? = some v → Value.okWide Tryd.prog W .any base t v := hval0
  have hW' := hW
  obtain ⟨p, q, hA0, hV, hbefore, hfz, hnd⟩ := hW
  have hA : DataW.TrodAll enc Tryd.prog W 0 (fun _ => true) true Tryd.f7.params.toList args.toList ds p := hA0
  rw [Tryd.params7] at hA hval
  obtain ⟨v0, vs0, d0, ds0, p0, q0, hargs, rfl, rfl, h0, r0⟩ := trodAll_cons hA
  obtain ⟨rfl, rfl, rfl⟩ := trodAll_nil r0
  obtain rfl : args = #[v0] := by cases args; simp_all
  obtain ⟨g0, rfl⟩ := vars1_form hV
  have k0 := h0
  have lt0 : ∀ x ∈ p0, x.block < W.heap.size := by obtain ⟨m, hm⟩ := k0; exact DataW.trod_lt m _ _ _ hm
  obtain ⟨a0, ll, c0, rfl⟩ := okWide_slice Tryd.underlying32 (hval 0 32 v0 rfl rfl)
  obtain ⟨fuel0, hf0⟩ := h0
  obtain ⟨aa, cc, l0, hv0, hR0, hm0, _⟩ := row_inV Tryd.underlying32 Tryd.underlying3 (by kernel_rfl) (by simpa [Value.cells] using hf0)
  obtain ⟨rfl, rfl, rfl⟩ : a0 = aa ∧ ll = l0.length ∧ c0 = cc := by simpa using hv0
  clear hA0 hval0
  refine (walk a0 c0 l0 W hR0 hm0 (list_laid hL)).mono fun e W' ⟨he, bel⟩ => ?_
  subst he
  exact ⟨_, rfl, _, _, _, [], _, _, hW', trodAll_mk1 (shut_bool Tryd.underlying4 _), (trodAll_cons_mk (Below.trod laidOut (by kernel_rfl) (of_decide_eq_true (by kernel_rfl)) k0 bel lt0) trodAll_mk0), Below.trodVars laidOut bel (by kernel_rfl) hV, bel.frame _, fun h => by cases h⟩

theorem said : Rows.FnExactListCodeSaid :=
  OpenClaim.holds_of_wide 7 Tryd.f7 rfl rfl rfl rfl rfl rfl rfl ⟨rfl, rfl, rfl, rfl, rfl⟩ rfl rfl rfl rfl rfl (by kernel_rfl) Tryd.func7 (by kernel_rfl)
    (of_decide_eq_true (by kernel_rfl)) (by unfold Func.isWrapper; first | (rw [if_pos (by decide +kernel)]; kernel_rfl) | (rw [if_neg (by decide +kernel)]; exact ⟨rfl, rfl⟩))
    (fun os started H enc _ => lifted os started H enc)

theorem card : Rows.FnExactListCodeCardSaid :=
  Claim7.holds_tied_plain_at .later [] _ _ _ _ said (fun _ h => by cases h) (by kernel_rfl) (fun _ h => by cases h) fnExactListCode_row_tie rfl ⟨rfl, rfl⟩ (by kernel_rfl) rfl
    (fun f fn hf hfn => by
      obtain rfl : f = 7 := Option.some.inj ((show Tryd.prog.funcNamed "loop.example/g00644/laws.FnExactListCode" = some 7 by kernel_rfl).symm.trans hf) |>.symm
      obtain rfl : fn = Tryd.f7 := (Option.some.inj (Tryd.func7.symm.trans hfn)).symm
      exact ⟨by kernel_rfl, fun j t ht => by
        rw [Tryd.params7] at ht
        have hm : t ∈ [32] := by simpa using Array.mem_of_getElem? ht
        have hall : ([32].all fun u => !Tryd.prog.wantsStandIn u) = true := by kernel_rfl
        exact (show Tryd.prog.wantsStandIn t = false by simpa using List.all_eq_true.1 hall t hm)⟩)
    (by kernel_rfl)
end Go.Proofs.YtneagomkohoceabDoor.fnExactListCode
namespace Go.Proofs.YtneagomkohoceabDoor
theorem fnExactListCode_holds : Rows.FnExactListCodeCardSaid := fnExactListCode.card
#print axioms fnExactListCode_holds
end Go.Proofs.YtneagomkohoceabDoor
