/- For every list of blocks the law FnExactTapePulses returns true: impl.TapePulses answers as spec.TapePulses, its answer is its own, and the list is as it was; the times of bits being as the program's text lays them. -/
import Derived.Test.YtakdhmlegickmabDoorCards
import Derived.Test.YtakdhmlegickmabDoorTie
import Derived.Test.YtakdhmlegickmabDoorVr
import Derived.Test.YtakdhmlegickmabDoorVc
import Derived.Test.YtakdhmlegickmabDoorVv
import Derived.Test.YtakdhmlegickmabDoorZq
import Derived.Test.YtakdhmlegickmabDoorXt
import Derived.WalkKit
import Derived.ProofKit
import Derived.OpenShut
import Derived.ShutString
import Derived.ChangeOld
import Derived.Below
import Derived.LaidMore
import Derived.OpenVars
import Derived.SevenTiedAt
import Derived.Stop.Joined
import Derived.Lib.SmallJoins
namespace Go.Proofs.YtakdhmlegickmabDoor.fnExactTapePulses
open Go.ChangeShapes Go.WideShapes Go.ChangeAt Go.RowKit Go.Joins
open Go.ChangeMaps (open_string shut_string)
set_option linter.unusedVariables false

theorem own : ownKnob Tryd.prog.godebug = none := by kernel_rfl
theorem laidOut : laidOutB Tryd.prog = true := by kernel_rfl

set_option maxRecDepth 100000 in
set_option maxHeartbeats 8000000 in
theorem walk (a0 : Option Addr) (c0 : Nat) (l0 : List (Int × ByteArray)) (w : World) (hR0 : BkR w a0 l0) (hm0 : l0.length ≤ maxLen) (hs0 : ∀ y ∈ l0, y.2.size ≤ maxLen) (hL : Tim w) :
    Calls Tryd.prog 4 #[.slice a0 l0.length c0] w fun e w' => e = .returned (.bool true) ∧ Below w.heap.size w w' := by
  have hgw : 0 < w.heap.size := World.block_lt_of_cell? w _ hL.1
  have hSp := hid (fun W a c (h : BkR W a l0) (hl : l0.length ≤ 1048576) => tapepulses_spec a c l0 W h hl hs0)
  have hIm : Hid (∀ W, Below w.heap.size w W → ∀ a c, BkR W a l0 → l0.length ≤ 1048576 → Calls Tryd.prog 16 #[.slice a l0.length c] W fun e w' => ∃ v, e = .returned (.tuple #[v, .int .i64 (tp2 l0).2]) ∧ Grow W w' v (tp2 l0).1) := fun W hb a c h hl => tapepulses_impl a c l0 W h hl hs0 (hL.kept (hb.block _ hgw)) (Nat.lt_of_lt_of_le hgw hb.size)
  have hLn : (tp2 l0).1.length ≤ 5000 := by
    unfold tp2
    split
    · exact Nat.zero_le _
    · split
      · rename_i hal
        have h1 := tpN_len hal l0.length (Nat.le_refl _)
        have h2 := allL_len hal
        show (tpN l0 l0.length).length ≤ _
        omega
      · exact Nat.zero_le _
  obtain ⟨T, hT⟩ : ∃ T, (tp2 l0).1 = T := ⟨_, rfl⟩
  obtain ⟨C, hC⟩ : ∃ C, (tp2 l0).2 = C := ⟨_, rfl⟩
  rw [hT, hC] at hSp hIm
  rw [hT] at hLn
  clear hT hC hL hgw
  have hSz := hid (szbks a0 c0 l0 w hR0 hm0 hs0)
  replace hR0 := hid hR0
  go_enter Tryd.func4, Tryd.ntmps4
  go_wp2_with fail
  refine hSz.out.mono ?_
  rintro e w1 ⟨z, rfl, hz1, hb⟩
  have B1 := hid hb
  replace hz1 := hid hz1
  clear hSz hb
  by_cases hz : z < 0
  · go_wp2
    go_ret
    exact ⟨rfl, B1.out⟩
  have hl := hz1.out (by omega)
  have hTo := hid (fun W (h : BkR W a0 l0) => tobks a0 c0 l0 W h hl)
  go_wp2_with fail
  refine (hTo.out _ (hR0.out.below B1.out)).mono ?_
  rintro e w2 ⟨rfl, hO2, hb⟩
  have B2 := hid (new_trans B1.out hb)
  have hRr := hid hO2.read
  clear hb hO2 B1
  go_wp2_with fail
  refine (hSp.out _ _ _ hRr.out hl).mono ?_
  rintro e w3 ⟨v3, rfl, hG⟩
  have hR3 := hid (OwnI.of hG).read
  have B3 := hid (new_trans B2.out hG.bel)
  obtain ⟨a3, c3, rfl⟩ := hG.form
  clear hG B2 hRr hSp
  go_wp2_with fail
  refine (hTo.out _ (hR0.out.below B3.out)).mono ?_
  rintro e w4 ⟨rfl, hO4, hb⟩
  have hb34 := hid hb
  have B4 := hid (new_trans B3.out hb)
  replace hO4 := hid hO4
  clear hb
  go_upto_region 7 with fail
  obtain ⟨g4, eg⟩ : ∃ b, w3.heap.size = b := ⟨_, rfl⟩
  rw [eg] at hO4 ⊢
  have hg34 : Hid (w3.heap.size = g4) := eg
  clear eg
  go_wp2_with fail
  refine (hIm.out _ B4.out _ _ hO4.out.read hl).mono ?_
  rintro e w5 ⟨v5, rfl, hG⟩
  have hO45 := hid (hO4.out.below hG.bel)
  have hO5 : Hid (OwnI w4.heap.size w5 v5 T) := OwnI.of hG
  have hB35 := hid (new_trans hb34.out hG.bel)
  have hB45 := hid hG.bel
  have hR35 := hid (hR3.out.below hB35.out)
  have B5 := hid (new_trans B4.out hG.bel)
  have hl4 := hO4.out.lt
  obtain ⟨a5, c5, rfl⟩ := hG.form
  clear hG B4 hO4
  go_wp2_with fail
  refine (eqr_yes _ _ T _ hO5.out.read hR35.out (by omega)).mono ?_
  rintro e w6 ⟨rfl, n6, rfl⟩
  have hb6 : Below w5.heap.size w5 (w5.drewN n6) := Below.drewN w5 n6 _
  have hO6 := hid (hO5.out.below hb6)
  have hO46 := hid (hO45.out.below hb6)
  have hB36 := hid (new_trans hB35.out hb6)
  have hB46 := hid (new_trans hB45.out hb6)
  have B6 := hid (new_trans B5.out hb6)
  obtain ⟨W6, hW6⟩ : ∃ W, w5.drewN n6 = W := ⟨_, rfl⟩
  rw [hW6] at hO6 hO46 hB36 hB46 B6 ⊢
  clear hb6 hO5 hB35 hR35 B5 hW6 hO45 hB45
  go_wp2_with fail
  refine (hTo.out _ (hR0.out.below B6.out)).mono ?_
  rintro e w7 ⟨rfl, hO7, hb⟩
  have hR7 := hid hO7.read
  have hO47 := hid (hO46.out.below hb)
  have hO67 := hid (hO6.out.below hb)
  have hB37 := hid (new_trans hB36.out hb)
  have hB47 := hid (new_trans hB46.out hb)
  have B7 := hid (new_trans B6.out hb)
  clear hb hO7 hO46 hO6 hB36 hB46 B6
  go_wp2_with fail
  refine (eqbks _ _ _ _ l0 _ hO47.out.read hR7.out hl).mono ?_
  rintro e w8 ⟨rfl, hb⟩
  have hO48 := hid (hO47.out.below hb)
  have hO68 := hid (hO67.out.below hb)
  have hB38 := hid (new_trans hB37.out hb)
  have hB48 := hid (new_trans hB47.out hb)
  have B8 := hid (new_trans B7.out hb)
  clear hb hR7 hO47 hO67 hB37 hB47 B7
  go_wp2_with fail
  refine (markb g4 _ l0 _ hO48.out hl).mono ?_
  rintro e w9 ⟨rfl, _, hS9⟩
  have hbs : Below g4 w8 w9 := (Below.refl _ _).grown hS9 (by have := hO48.out.lt; omega) (fun g' e => by cases e; exact Nat.le_refl _)
  have hO69 : Hid (OwnI w4.heap.size w9 (.slice a5 T.length c5) T) := by
    rcases hO68.out with h | ⟨g, hg, h⟩
    · exact .inl h
    · exact .inr ⟨g, hg, h.kept (hS9.block g h.lt (fun e => by cases e; omega))⟩
  have hB39 : Hid (Below w3.heap.size w3 w9) := hB38.out.trans (by rw [hg34.out]; exact hbs)
  have hB49 : Hid (w4.heap.size ≤ w9.heap.size) := Nat.le_trans hB48.out.size hbs.size
  have hR39 := hid (hR3.out.below hB39.out)
  have B9 := hid (new_trans B3.out hB39.out)
  clear hS9 hbs hO48 hO68 hB38 hB48 B8
  have hk9 : ¬ ((2 * l0.length + 1 : Nat) : Int) < 0 := by omega
  go_wp2_with fail
  refine (eqr_yes _ _ T _ hO69.out.read hR39.out (by omega)).mono ?_
  rintro e w10 ⟨rfl, n10, rfl⟩
  have hb10 : Below w9.heap.size w9 (w9.drewN n10) := Below.drewN w9 n10 _
  have hO10 := hid (hO69.out.below hb10)
  have hB310 := hid (new_trans hB39.out hb10)
  have hB410 : Hid (w4.heap.size ≤ (w9.drewN n10).heap.size) := Nat.le_trans hB49.out hb10.size
  obtain ⟨W10, hW10⟩ : ∃ W, w9.drewN n10 = W := ⟨_, rfl⟩
  rw [hW10] at hO10 hB310 hB410 ⊢
  clear hb10 hO69 hB39 hR39 B9 hW10 hB49
  go_wp2_with fail
  refine (markV _ _ T _ hO10.out (by omega) hB410.out).mono ?_
  rintro e w11 ⟨rfl, hO11, hb11⟩
  replace hO11 := hid hO11
  have hB311 := hid (hB310.out.trans (hb11.mono hb34.out.size))
  have B11 := hid (new_trans B3.out hB311.out)
  clear hb11 hO10 hB310 hB410
  go_wp2_with fail
  refine (heldr _ 1 T.length _ hO11.out.read (by omega) (by omega) (by omega)).mono ?_
  rintro e w12 ⟨rfl, hww⟩
  obtain rfl := hww.symm
  go_wp2_with fail
  refine (hTo.out _ (hR0.out.below B11.out)).mono ?_
  rintro e w13 ⟨rfl, hO13, hb⟩
  have hR13 := hid hO13.read
  have hOg13 := hid (hO11.out.below hb)
  have hB313 := hid (new_trans hB311.out hb)
  have B13 := hid (new_trans B11.out hb)
  clear hb hO13 hO11 hB311 B11
  go_wp2_with fail
  refine (hIm.out _ B13.out _ _ hR13.out hl).mono ?_
  rintro e w14 ⟨v14, rfl, hG⟩
  have hR14 := hid (OwnI.of hG).read
  have hOg14 := hid (hOg13.out.below hG.bel)
  have hR314 := hid (hR3.out.below (new_trans hB313.out hG.bel))
  have B14 := hid (new_trans B13.out hG.bel)
  obtain ⟨a14, c14, rfl⟩ := hG.form
  clear hG B13 hOg13 hB313 hR13
  go_wp2_with fail
  refine (eqr_yes _ _ T _ hR14.out hR314.out (by omega)).mono ?_
  rintro e w15 ⟨rfl, n15, rfl⟩
  have hO15 := hid (hOg14.out.below (Below.drewN w14 n15 _))
  have B15 := hid (new_trans B14.out (Below.drewN w14 n15 _))
  clear hR14 hR314 B14 hOg14
  go_wp2_with fail
  refine (heldr _ 1 T.length _ hO15.out.read (by omega) (by omega) (by omega)).mono ?_
  rintro e w16 ⟨rfl, hww⟩
  obtain rfl := hww.symm
  go_wp2_with fail
  go_ret
  exact ⟨rfl, B15.out⟩

theorem door_met (os : Os) (args : Array Value) : laidMetH Tryd.prog Rows.fnExactTapePulsesRow.laid ((World.doorLaid Tryd.prog 400 os).forCall (fun _ _ => 0) ⟨#[], args, []⟩).memory :=
  laidMetH_of_parts3 (fuel := 8) (laidMet_of_run' 8 (by kernel_rfl) (by kernel_rfl)) (by kernel_rfl) (by kernel_rfl)

set_option maxRecDepth 100000 in
theorem lifted (os : Os) (started : os.Started) (H : Type) (enc : TypeId × Value → H) :
    ReturnsInHanded {} Tryd.checked os 4 .any (fun w args => (Rows.fnExactTapePulsesSpec.pre enc Tryd.prog Tryd.f4 [] false w args ∧ laidMetH Tryd.prog Rows.fnExactTapePulsesRow.laid w) ∧ sizedMet enc Tryd.prog Tryd.f4 (OpenSpec.ofChange Rows.fnExactTapePulsesSpec) false w args)
      (Rows.fnExactTapePulsesSpec.post enc Tryd.prog Tryd.f4 false true false false) := by
  refine returnsInHanded_of_change_and (C := Tryd.checked) (X := fun w _ => laidMetH Tryd.prog Rows.fnExactTapePulsesRow.laid w) (fun _ _ _ hh h => h.of_heap hh) own started (by kernel_rfl) Tryd.func4
    (ChangeSpec.witness_shaped (enc := enc) (C := Tryd.checked) (os := os) (X := fun w _ => laidMetH Tryd.prog Rows.fnExactTapePulsesRow.laid w) false (World.doorLaid Tryd.prog 400 os) #[.slice none 0 0] 8 rfl (World.shaped_of_RefB (by kernel_rfl) (by kernel_rfl)) (by kernel_rfl) (by kernel_rfl) (by kernel_rfl) (door_met os _)) ?_
  intro W base args ds gs before hval0 hW _ _ hL _
  have hval : ∀ (j : Nat) t v, Tryd.f4.params[j]? = some t → args[j]? = some v → Value.okWide Tryd.prog W .any base t v := hval0
  have hW' := hW
  obtain ⟨p, q, hA0, hV, hbefore, hfz, hnd⟩ := hW
  have hA : DataW.TrodAll enc Tryd.prog W 0 (fun _ => true) true Tryd.f4.params.toList args.toList ds p := hA0
  rw [Tryd.params4] at hA hval
  obtain ⟨v0, vs0, d0, ds0, p0, q0, hargs, rfl, rfl, h0, r0⟩ := trodAll_cons hA
  obtain ⟨rfl, rfl, rfl⟩ := trodAll_nil r0
  obtain rfl : args = #[v0] := by cases args; simp_all
  obtain ⟨g0, rfl⟩ := vars1_form hV
  have k0 := h0
  have lt0 : ∀ x ∈ p0, x.block < W.heap.size := by obtain ⟨m, hm⟩ := k0; exact DataW.trod_lt m _ _ _ hm
  obtain ⟨a0, ll, c0, rfl⟩ := okWide_slice Tryd.underlying33 (hval 0 33 v0 rfl rfl)
  obtain ⟨fuel0, hf0⟩ := h0
  obtain ⟨aa, cc, l0, hv0, hR0, hm0, hs0⟩ := blocks_in Tryd.underlying33 Tryd.underlying23 (by kernel_rfl) (by kernel_rfl) Tryd.underlying3 Tryd.underlying9 (by simpa [Value.cells] using hf0)
  obtain ⟨rfl, rfl, rfl⟩ : a0 = aa ∧ ll = l0.length ∧ c0 = cc := by simpa using hv0
  clear hA0 hval0
  refine (walk a0 c0 l0 W hR0 hm0 hs0 (tim_of hL)).mono fun e W' ⟨he, bel⟩ => ?_
  subst he
  exact ⟨_, rfl, _, _, _, [], _, _, hW', trodAll_mk1 (shut_bool Tryd.underlying4 _), (trodAll_cons_mk (Below.trod laidOut (by kernel_rfl) (of_decide_eq_true (by kernel_rfl)) k0 bel lt0) trodAll_mk0), Below.trodVars laidOut bel (by kernel_rfl) hV, bel.frame _, fun h => by cases h⟩

theorem said : Rows.FnExactTapePulsesSaid :=
  OpenClaim.holds_of_wide 4 Tryd.f4 rfl rfl rfl rfl rfl rfl rfl ⟨rfl, rfl, rfl, rfl, rfl⟩ rfl rfl rfl rfl rfl (by kernel_rfl) Tryd.func4 (by kernel_rfl)
    (of_decide_eq_true (by kernel_rfl)) (by unfold Func.isWrapper; first | (rw [if_pos (by decide +kernel)]; kernel_rfl) | (rw [if_neg (by decide +kernel)]; exact ⟨rfl, rfl⟩))
    (fun os started H enc _ => lifted os started H enc)

theorem card : Rows.FnExactTapePulsesCardSaid :=
  Claim7.holds_tied_plain_at .later [] _ _ _ _ said (fun _ h => by cases h) (by kernel_rfl) (fun _ h => by cases h) fnExactTapePulses_row_tie rfl ⟨rfl, rfl⟩ (by kernel_rfl) rfl
    (fun f fn hf hfn => by
      obtain rfl : f = 4 := Option.some.inj ((show Tryd.prog.funcNamed "loop.example/g00644/laws.FnExactTapePulses" = some 4 by kernel_rfl).symm.trans hf) |>.symm
      obtain rfl : fn = Tryd.f4 := (Option.some.inj (Tryd.func4.symm.trans hfn)).symm
      exact ⟨by kernel_rfl, fun j t ht => by
        rw [Tryd.params4] at ht
        have hm : t ∈ [33] := by simpa using Array.mem_of_getElem? ht
        have hall : ([33].all fun u => !Tryd.prog.wantsStandIn u) = true := by kernel_rfl
        exact (show Tryd.prog.wantsStandIn t = false by simpa using List.all_eq_true.1 hall t hm)⟩)
    (by kernel_rfl)
end Go.Proofs.YtakdhmlegickmabDoor.fnExactTapePulses
namespace Go.Proofs.YtakdhmlegickmabDoor
theorem fnExactTapePulses_holds : Rows.FnExactTapePulsesCardSaid := fnExactTapePulses.card
#print axioms fnExactTapePulses_holds
end Go.Proofs.YtakdhmlegickmabDoor
