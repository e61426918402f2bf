/- For every text and list of blocks the law FnExactNewMachine returns true: impl.NewMachine answers as spec.NewMachine, its answer is its own, and the list is as it was; the listed tables being as the program's text lays them. -/
import Derived.Test.YtifcdojaocndhaaDoorCards
import Derived.Test.YtifcdojaocndhaaDoorTie
import Derived.Test.YtifcdojaocndhaaDoorM47
import Derived.WalkKit
import Derived.ProofKit
import Derived.OpenShut
import Derived.ShutString
import Derived.ChangeOld
import Derived.Below
import Derived.LaidMore
import Derived.OpenVars
import Derived.SevenTiedAt
import Derived.Stop.Joined
import Derived.Lib.SmallJoins
namespace Go.Proofs.YtifcdojaocndhaaDoor.fnExactNewMachine
open Go.ChangeShapes Go.WideShapes Go.ChangeAt Go.RowKit Go.Joins
open Go.ChangeMaps (open_string shut_string)
set_option linter.unusedVariables false

theorem own : ownKnob Tryd.prog.godebug = none := by kernel_rfl
theorem laidOut : laidOutB Tryd.prog = true := by kernel_rfl

set_option maxRecDepth 100000 in
set_option maxHeartbeats 8000000 in
theorem walk (a0 : ByteArray) (b0 : Option Addr) (c0 : Nat) (l0 : List (Int × ByteArray)) (w : World) (w0 : a0.size ≤ maxLen) (hR0 : BkR w b0 l0) (hm0 : l0.length ≤ maxLen) (hs0 : ∀ y ∈ l0, y.2.size ≤ maxLen) (hL : PBit w ∧ Tim w) :
    Calls Tryd.prog 3 #[.string a0, .slice b0 l0.length c0] w fun e w' => e = .returned (.bool true) ∧ Below w.heap.size w w' := by
  have hgw : 3 < w.heap.size := World.block_lt_of_cell? w _ hL.2.1
  have hsi : (a0.size : Int) ≤ 9223372036854775807 := by have := w0; unfold maxLen at this; omega
  by_cases hlong : (1048576 : Int) < (a0.size : Int)
  · clear hR0 hm0 hs0 hL hgw
    go_enter Tryd.func3, Tryd.ntmps3
    go_wp2
    go_ret
    exact ⟨rfl, Below.refl _ _⟩
  have hSp := hid (fun W a c (h : BkR W a l0) (hl : l0.length ≤ 1048576) => newM_spec a0 a c l0 W w0 h hl hs0)
  have hIm := hid (fun W (hb : Below w.heap.size w W) a c (h : BkR W a l0) (hl : l0.length ≤ 1048576) => newM_impl a0 a c l0 W w0 h hl hs0 (hL.2.kept (hb.block _ hgw)) (Nat.lt_of_lt_of_le hgw hb.size) (PBit.below hL.1 hb))
  have hsm := hid (small_new a0 l0)
  obtain ⟨X, hX⟩ : ∃ X, (newMc a0 l0).1 = X := ⟨_, rfl⟩
  obtain ⟨C1, hC1⟩ : ∃ C1, (newMc a0 l0).2 = C1 := ⟨_, rfl⟩
  rw [hX, hC1] at hSp hIm
  rw [hX] at hsm
  clear hX hC1 hL hgw
  have hSz := hid (szbks b0 c0 l0 w hR0 hm0 hs0)
  have hA : Hid (∀ W', Below w.heap.size w W' → BkR W' b0 l0) := fun W' hb => hR0.below hb
  have hCC : (C1 != C1) = false := by simp
  have hw0 := hid w0
  clear hR0 hm0 hs0 w0
  go_enter Tryd.func3, Tryd.ntmps3
  go_wp2_with fail
  refine hSz.out.mono ?_
  rintro e w1 ⟨z, rfl, hz1, hb⟩
  have S1 := hid ((StD.nil w).below hb)
  replace hz1 := hid hz1
  clear hSz hb
  by_cases hz : z < 0
  · go_wp2
    go_ret
    exact ⟨rfl, S1.out.bel⟩
  have hl := hz1.out (by omega)
  have hTo := hid (fun W (h : BkR W b0 l0) => tobks b0 c0 l0 W h hl)
  clear hz1
  go_wp2_with fail
  refine (hTo.out _ (hA.out _ S1.out.bel)).mono ?_
  rintro e w2 ⟨rfl, hO, hb⟩
  have S2 := hid (S1.out.below hb)
  have hr2 := hid hO.read
  clear hO hb S1
  go_wp2_with fail
  refine (hSp.out _ _ _ hr2.out hl).mono ?_
  rintro e w3 ⟨lo, hi, vr, vm, vd, ve, rfl, hN⟩
  have S3 := S2.out.mac hN
  have hzW := hid hN.z
  clear hN S2 hr2 hSp
  have hone4 := hid (mc_one (p := fun _ => false) (S3.at 0 rfl).read.macR)
  have Sb := S3.box (mcA mc0 nlV nlV nlV nlV) 41
  have hth4 := hid (mc_there (Sb.at 0 rfl) (o := 0) (n := (mcA X vr vm vd ve).size) (by show 0 + 58 ≤ 58; omega))
  have Sl := Sb.lay 0 rfl 0 (mcA X vr vm vd ve).toList (mlay_x _ _ _ _ _ X _ _ _ _)
  obtain ⟨X4, hX4⟩ : ∃ W, (w3.alloc (.cells mcZ 41)).setCells w3.heap.size 0 (mcA X vr vm vd ve).toList = W := ⟨_, rfl⟩
  rw [← mcZ_eq, hX4] at Sl
  replace hX4 := hid hX4
  have S4 := hid Sl
  clear Sb Sl
  clear S3
  go_wp2_with (guard_target = wpList _ _ _ (Oper.mk _ (Op.store _ _ _) _ _ _ _ :: _) _ _; refine wpList_store_mid rfl 41 _ _ rfl w3.heap.size 0 (mcA X vr vm vd ve) rfl rfl hth4.out (szMcA _ _ _ _ _) hone4.out ?_; rw [hX4.out])
  refine (hTo.out _ (hA.out _ S4.out.bel)).mono ?_
  rintro e w5 ⟨rfl, hO, hb⟩
  have S5 := S4.out.bko hb hO
  clear hO hb S4 hone4 hth4 hX4
  obtain ⟨g5, hg5⟩ : ∃ b, X4.heap.size = b := ⟨_, rfl⟩
  rw [hg5] at S5
  replace S5 := hid S5
  go_upto_region 9 with fail
  (try rw [hg5])
  clear hg5
  go_wp2_with fail
  refine (hIm.out _ S5.out.bel _ _ (S5.out.bkr 0 rfl) hl).mono ?_
  rintro e w7 ⟨lo', hi', ur, um, ud, ue, rfl, hN⟩
  have S7 := S5.out.mac hN
  have hzG := hid hN.z
  clear hN S5
  have hone8 := hid (mc_one (p := fun _ => false) (S7.at 0 rfl).read.macR)
  have Sb := S7.box (mcA mc0 nlV nlV nlV nlV) 41
  have hth8 := hid (mc_there (Sb.at 0 rfl) (o := 0) (n := (mcA X ur um ud ue).size) (by show 0 + 58 ≤ 58; omega))
  have Sl := Sb.lay 0 rfl 0 (mcA X ur um ud ue).toList (mlay_x _ _ _ _ _ X _ _ _ _)
  obtain ⟨X8, hX8⟩ : ∃ W, (w7.alloc (.cells mcZ 41)).setCells w7.heap.size 0 (mcA X ur um ud ue).toList = W := ⟨_, rfl⟩
  rw [← mcZ_eq, hX8] at Sl
  replace hX8 := hid hX8
  have S8 := hid Sl
  clear Sb Sl
  clear S7
  have xG := hid (mc_all (S8.out.at 0 rfl))
  have xW := hid (mc_all (S8.out.at 3 rfl))
  go_wp2_with (first | (guard_target = wpList _ _ _ (Oper.mk _ (Op.store _ _ _) _ _ _ _ :: _) _ _; refine wpList_store_mid rfl 41 _ _ rfl w7.heap.size 0 (mcA X ur um ud ue) rfl rfl hth8.out (szMcA _ _ _ _ _) hone8.out ?_; rw [hX8.out]) | (refine wpList_load_mid rfl 41 _ rfl w7.heap.size 0 rfl (mcA X ur um ud ue).toList _ xG.out Tryd.underlying41 rfl (szMc _ _ _ _ _) ?_) | (refine wpList_load_mid rfl 41 _ rfl w3.heap.size 0 rfl (mcA X vr vm vd ve).toList _ xW.out Tryd.underlying41 rfl (szMc _ _ _ _ _) ?_))
  refine (eqmc X _ _ _ (S8.out.at 1 rfl).read (S8.out.at 4 rfl).read hsm.out).mono ?_
  rintro e w9 ⟨rfl, hb⟩
  have S9 := hid (S8.out.below hb)
  clear hb S8 hone8 hth8 hX8 xG xW
  go_wp2_with fail
  refine (hTo.out _ (hA.out _ S9.out.bel)).mono ?_
  rintro e w10 ⟨rfl, hO, hb⟩
  have r10 := hid hO.read
  have S10 := hid (S9.out.below hb)
  clear hO hb S9
  go_wp2_with fail
  refine (eqbks _ _ _ _ l0 _ (S10.out.bkr 2 rfl) r10.out hl).mono ?_
  rintro e w11 ⟨rfl, hb⟩
  have S11 := hid (S10.out.below hb)
  clear hb S10 r10
  go_wp2_with fail
  refine (markb g5 _ l0 _ (S11.out.at 2 rfl) hl).mono ?_
  rintro e w12 ⟨rfl, hm, ho⟩
  have S12 := hid (S11.out.markb 2 rfl hm ho)
  clear hm ho S11
  have xG := hid (mc_all (S12.out.at 0 rfl))
  have xW := hid (mc_all (S12.out.at 3 rfl))
  have hk9 : ¬ ((2 * l0.length + 1 : Nat) : Int) < 0 := by omega
  have hk8 : decide (((2 * l0.length + 1 : Nat) : Int) < 0) = false := decide_eq_false hk9
  go_wp2_with (first | (guard_target = wpList _ _ _ (Oper.mk _ (Op.load 41 _) _ _ _ (some _) :: _) _ _; refine ld_wantM 41 _ rfl w7.heap.size 0 rfl (by kernel_rfl) (mcA X ur um ud ue).toList _ xG.out Tryd.underlying41 rfl (szMc _ _ _ _ _) ?_; simp only [Act.put, List.setIfInBounds_toArray, List.set_cons_zero, List.set_cons_succ]) | (guard_target = wpList _ _ _ (Oper.mk _ (Op.load 41 _) _ _ _ (some _) :: _) _ _; refine ld_wantM 41 _ rfl w3.heap.size 0 rfl (by kernel_rfl) (mcA X vr vm vd ve).toList _ xW.out Tryd.underlying41 rfl (szMc _ _ _ _ _) ?_; simp only [Act.put, List.setIfInBounds_toArray, List.set_cons_zero, List.set_cons_succ]))
  refine (eqmc X _ _ _ (S12.out.at 1 rfl).read (S12.out.at 4 rfl).read hsm.out).mono ?_
  rintro e w13 ⟨rfl, hb⟩
  have S13 := hid (S12.out.below hb)
  clear hb S12 xG xW
  have xG := hid (mc_all (S13.out.at 0 rfl))
  go_wp2_with (refine wpList_load_mid rfl 41 _ rfl w7.heap.size 0 rfl (mcA X ur um ud ue).toList _ xG.out Tryd.underlying41 rfl (szMc _ _ _ _ _) ?_)
  refine (markMc X 1 lo' hi' ur um ud ue _ (S13.out.at 1 rfl) hsm.out (by decide) (by decide)).mono ?_
  rintro e w14 ⟨rfl, hm, ho⟩
  have S14 := hid (S13.out.markMac 1 rfl hm ho hzG.out)
  clear hm ho S13 xG
  have hcb : cntMc X ≤ 100000000 := by
    have h1 := hsm.out.m.1
    have h2 := hsm.out.m.2.2
    have h3 := hsm.out.d
    have h4 := hsm.out.e
    unfold cntMc cntM
    omega
  obtain ⟨k2, hk2⟩ : ∃ k2 : Int, 1 + (cntMc X : Nat) = k2 := ⟨_, rfl⟩
  rw [hk2]
  have hk3 : ¬ k2 < 0 := by omega
  replace hk2 := hid hk2
  clear hcb
  have xG := hid (mc_all (S14.out.at 0 rfl))
  go_wp2_with (refine wpList_load_mid rfl 41 _ rfl w7.heap.size 0 rfl (mcA X ur um ud ue).toList _ xG.out Tryd.underlying41 rfl (szMc _ _ _ _ _) ?_)
  refine (heldMc X 1 lo' hi' ur um ud ue _ (S14.out.at 1 rfl) hsm.out (by decide) (by decide)).mono ?_
  rintro e w15 ⟨rfl, hb⟩
  rw [hk2.out]
  have S15 := hid (S14.out.below hb)
  clear hb S14 xG
  have hkk : (k2 != k2) = false := by simp
  go_wp2_with fail
  refine (hTo.out _ (hA.out _ S15.out.bel)).mono ?_
  rintro e w16 ⟨rfl, hO, hb⟩
  have S16 := hid (S15.out.below hb)
  have hr16 := hid hO.read
  clear hO hb S15
  go_wp2_with fail
  refine (hIm.out _ S16.out.bel _ _ hr16.out hl).mono ?_
  rintro e w17 ⟨lo2, hi2, tr, tm, td, te, rfl, hN⟩
  have S17 := S16.out.mac hN
  clear hN S16 hr16 hIm
  have hone18 := hid (mc_one (p := fun _ => false) (S17.at 0 rfl).read.macR)
  have Sb := S17.box (mcA mc0 nlV nlV nlV nlV) 41
  have hth18 := hid (mc_there (Sb.at 0 rfl) (o := 0) (n := (mcA X tr tm td te).size) (by show 0 + 58 ≤ 58; omega))
  have Sl := Sb.lay 0 rfl 0 (mcA X tr tm td te).toList (mlay_x _ _ _ _ _ X _ _ _ _)
  obtain ⟨X18, hX18⟩ : ∃ W, (w17.alloc (.cells mcZ 41)).setCells w17.heap.size 0 (mcA X tr tm td te).toList = W := ⟨_, rfl⟩
  rw [← mcZ_eq, hX18] at Sl
  replace hX18 := hid hX18
  have S18 := hid Sl
  clear Sb Sl
  clear S17
  have xH := hid (mc_all (S18.out.at 0 rfl))
  have xW := hid (mc_all (S18.out.at 5 rfl))
  go_wp2_with (first | (guard_target = wpList _ _ _ (Oper.mk _ (Op.store _ _ _) _ _ _ _ :: _) _ _; refine wpList_store_mid rfl 41 _ _ rfl w17.heap.size 0 (mcA X tr tm td te) rfl rfl hth18.out (szMcA _ _ _ _ _) hone18.out ?_; rw [hX18.out]) | (refine wpList_load_mid rfl 41 _ rfl w17.heap.size 0 rfl (mcA X tr tm td te).toList _ xH.out Tryd.underlying41 rfl (szMc _ _ _ _ _) ?_) | (refine wpList_load_mid rfl 41 _ rfl w3.heap.size 0 rfl (mcA X vr vm vd ve).toList _ xW.out Tryd.underlying41 rfl (szMc _ _ _ _ _) ?_))
  refine (eqmc X _ _ _ (S18.out.at 1 rfl).read (S18.out.at 6 rfl).read hsm.out).mono ?_
  rintro e w19 ⟨rfl, hb⟩
  have S19 := hid (S18.out.below hb)
  clear hb S18 xH xW hone18 hth18 hX18
  have xG := hid (mc_all (S19.out.at 2 rfl))
  go_wp2_with (refine wpList_load_mid rfl 41 _ rfl w7.heap.size 0 rfl (mcA X ur um ud ue).toList _ xG.out Tryd.underlying41 rfl (szMc _ _ _ _ _) ?_)
  refine (heldMc X 1 lo' hi' ur um ud ue _ (S19.out.at 3 rfl) hsm.out (by decide) (by decide)).mono ?_
  rintro e w20 ⟨rfl, hb⟩
  rw [hk2.out]
  have hBe := hid (S19.out.below hb).bel
  clear hb S19 xG
  go_wp2
  go_ret
  exact ⟨rfl, hBe.out⟩

theorem door_met (os : Os) (args : Array Value) : laidMetH Tryd.prog Rows.fnExactNewMachineRow.laid ((World.doorLaid Tryd.prog 400 os).forCall (fun _ _ => 0) ⟨#[], args, []⟩).memory :=
  laidMetH_of_parts3 (fuel := 8) (laidMet_of_run' 8 (by kernel_rfl) (by kernel_rfl)) (by kernel_rfl) (by kernel_rfl)

set_option maxRecDepth 100000 in
theorem lifted (os : Os) (started : os.Started) (H : Type) (enc : TypeId × Value → H) :
    ReturnsInHanded {} Tryd.checked os 3 .any (fun w args => (Rows.fnExactNewMachineSpec.pre enc Tryd.prog Tryd.f3 [] false w args ∧ laidMetH Tryd.prog Rows.fnExactNewMachineRow.laid w) ∧ sizedMet enc Tryd.prog Tryd.f3 (OpenSpec.ofChange Rows.fnExactNewMachineSpec) false w args)
      (Rows.fnExactNewMachineSpec.post enc Tryd.prog Tryd.f3 false true false false) := by
  refine returnsInHanded_of_change_and (C := Tryd.checked) (X := fun w _ => laidMetH Tryd.prog Rows.fnExactNewMachineRow.laid w) (fun _ _ _ hh h => h.of_heap hh) own started (by kernel_rfl) Tryd.func3
    (ChangeSpec.witness_shaped (enc := enc) (C := Tryd.checked) (os := os) (X := fun w _ => laidMetH Tryd.prog Rows.fnExactNewMachineRow.laid w) false (World.doorLaid Tryd.prog 400 os) #[.string ByteArray.empty, .slice none 0 0] 8 rfl (World.shaped_of_RefB (by kernel_rfl) (by kernel_rfl)) (by kernel_rfl) (by kernel_rfl) (by kernel_rfl) (door_met os _)) ?_
  intro W base args ds gs before hval0 hW _ _ hL _
  have hval : ∀ (j : Nat) t v, Tryd.f3.params[j]? = some t → args[j]? = some v → Value.okWide Tryd.prog W .any base t v := hval0
  have hW' := hW
  obtain ⟨p, q, hA0, hV, hbefore, hfz, hnd⟩ := hW
  have hA : DataW.TrodAll enc Tryd.prog W 0 (fun _ => true) true Tryd.f3.params.toList args.toList ds p := hA0
  rw [Tryd.params3] at hA hval
  obtain ⟨v0, vs0, d0, ds0, p0, q0, hargs, rfl, rfl, h0, r0⟩ := trodAll_cons hA
  obtain ⟨v1, vs1, d1, ds1, p1, q1, rfl, rfl, rfl, h1, r1⟩ := trodAll_cons r0
  obtain ⟨rfl, rfl, rfl⟩ := trodAll_nil r1
  obtain rfl : args = #[v0, v1] := by cases args; simp_all
  obtain ⟨g0, g1, rfl⟩ := vars2_form hV
  obtain ⟨a0, rfl, rfl, rfl, w0⟩ := open_string Tryd.underlying9 (hval 0 9 v0 rfl rfl) h0
  have k1 := h1
  have lt1 : ∀ x ∈ p1, x.block < W.heap.size := by obtain ⟨m, hm⟩ := k1; exact DataW.trod_lt m _ _ _ hm
  obtain ⟨b0, ll, c0, rfl⟩ := okWide_slice Tryd.underlying22 (hval 1 22 v1 rfl rfl)
  obtain ⟨fuel1, hf1⟩ := h1
  obtain ⟨aa, cc, l0, hv0, hR0, hm0, hs0⟩ := blocks_in Tryd.underlying22 Tryd.underlying74 (by kernel_rfl) (by kernel_rfl) Tryd.underlying3 Tryd.underlying9 (by simpa [Value.cells] using hf1)
  obtain ⟨rfl, rfl, rfl⟩ : b0 = aa ∧ ll = l0.length ∧ c0 = cc := by simpa using hv0
  clear hA0 hval0
  refine (walk a0 b0 c0 l0 W w0 hR0 hm0 hs0 (newm2_of hL)).mono fun e W' ⟨he, bel⟩ => ?_
  subst he
  exact ⟨_, rfl, _, _, _, [], _, _, hW', trodAll_mk1 (shut_bool Tryd.underlying4 _), (trodAll_cons_mk (shut_string Tryd.underlying9 w0) (trodAll_cons_mk (Below.trod laidOut (by kernel_rfl) (of_decide_eq_true (by kernel_rfl)) k1 bel lt1) trodAll_mk0)), Below.trodVars laidOut bel (by kernel_rfl) hV, bel.frame _, fun h => by cases h⟩

theorem said : Rows.FnExactNewMachineSaid :=
  OpenClaim.holds_of_wide 3 Tryd.f3 rfl rfl rfl rfl rfl rfl rfl ⟨rfl, rfl, rfl, rfl, rfl⟩ rfl rfl rfl rfl rfl (by kernel_rfl) Tryd.func3 (by kernel_rfl)
    (of_decide_eq_true (by kernel_rfl)) (by unfold Func.isWrapper; first | (rw [if_pos (by decide +kernel)]; kernel_rfl) | (rw [if_neg (by decide +kernel)]; exact ⟨rfl, rfl⟩))
    (fun os started H enc _ => lifted os started H enc)

theorem card : Rows.FnExactNewMachineCardSaid :=
  Claim7.holds_tied_plain_at .later [] _ _ _ _ said (fun _ h => by cases h) (by kernel_rfl) (fun _ h => by cases h) fnExactNewMachine_row_tie rfl ⟨rfl, rfl⟩ (by kernel_rfl) rfl
    (fun f fn hf hfn => by
      obtain rfl : f = 3 := Option.some.inj ((show Tryd.prog.funcNamed "loop.example/g00644/laws.FnExactNewMachine" = some 3 by kernel_rfl).symm.trans hf) |>.symm
      obtain rfl : fn = Tryd.f3 := (Option.some.inj (Tryd.func3.symm.trans hfn)).symm
      exact ⟨by kernel_rfl, fun j t ht => by
        rw [Tryd.params3] at ht
        have hm : t ∈ [9, 22] := by simpa using Array.mem_of_getElem? ht
        have hall : ([9, 22].all fun u => !Tryd.prog.wantsStandIn u) = true := by kernel_rfl
        exact (show Tryd.prog.wantsStandIn t = false by simpa using List.all_eq_true.1 hall t hm)⟩)
    (by kernel_rfl)
end Go.Proofs.YtifcdojaocndhaaDoor.fnExactNewMachine
namespace Go.Proofs.YtifcdojaocndhaaDoor
theorem fnExactNewMachine_holds : Rows.FnExactNewMachineCardSaid := fnExactNewMachine.card
#print axioms fnExactNewMachine_holds
end Go.Proofs.YtifcdojaocndhaaDoor
