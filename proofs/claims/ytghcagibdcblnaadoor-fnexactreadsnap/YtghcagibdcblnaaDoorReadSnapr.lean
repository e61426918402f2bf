/- For all pairs of texts the law FnExactReadSnap returns true: impl.ReadSnap answers as spec.ReadSnap, in memory of its own. -/
import Derived.Test.YtghcagibdcblnaaDoorCards
import Derived.Test.YtghcagibdcblnaaDoorTie
import Derived.Test.YtghcagibdcblnaaDoorR29
import Derived.Test.YtghcagibdcblnaaDoorR49
import Derived.WalkKit
import Derived.ProofKit
import Derived.OpenShut
import Derived.ShutString
import Derived.ChangeOld
import Derived.Below
import Derived.LaidMore
import Derived.OpenVars
import Derived.SevenTiedAt
import Derived.Stop.Joined
import Derived.Lib.SmallJoins
namespace Go.Proofs.YtghcagibdcblnaaDoor.fnExactReadSnap
open Go.ChangeShapes Go.WideShapes Go.ChangeAt Go.RowKit Go.Joins
open Go.ChangeMaps (open_string shut_string)
set_option linter.unusedVariables false

theorem own : ownKnob Tryd.prog.godebug = none := by kernel_rfl
theorem laidOut : laidOutB Tryd.prog = true := by kernel_rfl

set_option maxRecDepth 100000 in
set_option maxHeartbeats 8000000 in
theorem walk (a0 : ByteArray) (a1 : ByteArray) (w : World) (w0 : a0.size ≤ maxLen) (w1 : a1.size ≤ maxLen) (hL : ∃ e0 e1 e2, Errs w e0 e1 e2) :
    Calls Tryd.prog 3 #[.string a0, .string a1] w fun e w' => e = .returned (.bool true) ∧ Below w.heap.size w w' := by
  obtain ⟨e0, e1, e2, hE⟩ := hL
  by_cases h1 : 1048576 < a0.size
  · unfold maxLen at w0
    go_enter Tryd.func3, Tryd.ntmps3
    go_wp2
    go_ret
    exact ⟨rfl, Below.refl _ _⟩
  by_cases h2 : 1048576 < a1.size
  · unfold maxLen at w0 w1
    go_enter Tryd.func3, Tryd.ntmps3
    go_wp2
    go_ret
    exact ⟨rfl, Below.refl _ _⟩
  have hSp := hid (fun W => readsn_spec a0 a1 W w0 w1)
  have hIm := hid (fun W (hb : Below w.heap.size w W) => readsn_impl a0 a1 e0 e1 e2 W w0 w1 (hE.below hb))
  have hsm : Hid (Small (read2 a0 a1).1.m) := read_small a0 a1
  unfold maxLen at w0 w1
  generalize read2 a0 a1 = R at *
  obtain ⟨S, C⟩ := R
  have c1 : ¬ (1048576 : Int) < (a0.size : Int) := by omega
  have c2 : ¬ (1048576 : Int) < (a1.size : Int) := by omega
  go_enter Tryd.func3, Tryd.ntmps3
  go_wp2_with fail
  refine (hSp.out _).mono ?_
  rintro e wa ⟨u5, m5, rfl, hO5, hb1⟩
  dsimp only at hO5 ⊢
  have hone := hid (sn_one S (memO_form2 hO5).1 (memO_form2 hO5).2)
  obtain ⟨wb, hwb, hb2, q5, hth⟩ := box_sn wa S u5 m5
  have hBb := new_trans hb1 hb2
  have hO5b := hO5.below hb2 (Nat.le_refl _)
  have hord : Hid (w.heap.size ≤ wa.heap.size ∧ wa.heap.size < wb.heap.size) := ⟨hb1.size, q5.lt⟩
  replace hwb := hid hwb
  replace hth := hid hth
  replace q5 := hid q5
  replace hBb := hid hBb
  replace hO5b := hid hO5b
  clear hb1 hb2 hO5 hSp
  go_wp2_with (guard_target = wpList _ _ _ (Oper.mk _ (Op.store _ _ _) _ _ _ _ :: _) _ _; refine wpList_store_mid rfl 32 _ _ rfl wa.heap.size 0 (snA S u5 m5) rfl rfl hth.out (szS2 _ _ _) hone.out ?_; rw [hwb.out])
  refine (hIm.out _ hBb.out).mono ?_
  rintro e wc ⟨u7, m7, rfl, hO7, hb3⟩
  dsimp only at hO7 ⊢
  have hone7 := hid (sn_one S (memO_form2 hO7).1 (memO_form2 hO7).2)
  obtain ⟨wd, hwd, hb4, q7, hth7⟩ := box_sn wc S u7 m7
  have L0 : Hid (LS w wd S S.m wa.heap.size wc.heap.size w.heap.size wb.heap.size u5 m5 u7 m7) := by
    have h5 := hord.out
    have h6 := hb3.size
    refine ⟨⟨Nat.le_refl _, h5.1, h5.2, h6, q7.lt⟩, (q5.out.below hb3 q5.out.lt).below hb4 (q5.out.below hb3 q5.out.lt).lt, q7, (hO5b.out.below hb3 (by omega)).below hb4 (by omega), hO7.below hb4 (Nat.le_refl _), new_trans (new_trans hBb.out hb3) hb4⟩
  replace hwd := hid hwd
  replace hth7 := hid hth7
  clear hb3 hb4 hO7 q7 q5 hBb hO5b hwb hth hone hord
  have x7 := hid (sn_all L0.out.q7)
  have x5 := hid (sn_all L0.out.q5)
  go_wp2_with (first | (guard_target = wpList _ _ _ (Oper.mk _ (Op.store _ _ _) _ _ _ _ :: _) _ _; refine wpList_store_mid rfl 32 _ _ rfl wc.heap.size 0 (snA S u7 m7) rfl rfl hth7.out (szS2 _ _ _) hone7.out ?_; rw [hwd.out]) | (refine wpList_load_mid rfl 32 _ rfl wc.heap.size 0 rfl (snA S u7 m7).toList _ x7.out Tryd.underlying32 rfl (szS S u7 m7) ?_) | (refine wpList_load_mid rfl 32 _ rfl wa.heap.size 0 rfl (snA S u5 m5).toList _ x5.out Tryd.underlying32 rfl (szS S u5 m5) ?_))
  refine (eqsn_yes S u7 m7 u5 m5 wd L0.out.o7.reads L0.out.o5.reads hsm.out).mono ?_
  rintro e we ⟨rfl, hb⟩
  have L1 := hid (L0.out.below hb)
  clear hb L0 x7 x5 hwd hth7 hone7
  generalize wa.heap.size = b5 at *
  generalize wc.heap.size = b7 at *
  generalize wb.heap.size = lo7 at *
  have x7 := hid (sn_all L1.out.q7)
  have ho := L1.out.ord
  go_wp2_with (refine wpList_load_mid rfl 32 _ rfl b7 0 rfl (snA S u7 m7).toList _ x7.out Tryd.underlying32 rfl (szS S u7 m7) ?_)
  refine (marksn S u7 m7 1 lo7 b7 we L1.out.o7 (by omega) hsm.out (by omega) (by omega)).mono ?_
  rintro e wf ⟨rfl, hm, ht⟩
  have L2 := hid (L1.out.mark ht hm)
  clear hm ht L1 x7 ho
  obtain ⟨K, hK⟩ : ∃ K : Int, 1 + (cntM S.m : Nat) = K := ⟨_, rfl⟩
  have hHd := hid (fun W (h : MemR W (memV u7 m7 S.m.page S.m.screen S.m.locked) (markM S.m 1)) => heldsn S u7 m7 1 W h hsm.out (by omega) (by omega))
  rw [hK] at hHd ⊢
  have hK0 : ¬ K < 0 := by omega
  have hKK : (K == K) = true := by simp
  clear hK
  have x7 := hid (sn_all L2.out.q7)
  go_wp2_with (refine wpList_load_mid rfl 32 _ rfl b7 0 rfl (snA S u7 m7).toList _ x7.out Tryd.underlying32 rfl (szS S u7 m7) ?_)
  refine (hHd.out _ L2.out.o7.reads).mono ?_
  rintro e wg ⟨rfl, hb⟩
  have L3 := hid (L2.out.below hb)
  clear hb L2 x7
  go_wp2_with fail
  refine (hIm.out _ L3.out.bel).mono ?_
  rintro e wh ⟨u9, m9, rfl, hO9, hb⟩
  dsimp only at hO9 ⊢
  have hone9 := hid (sn_one S (memO_form2 hO9).1 (memO_form2 hO9).2)
  obtain ⟨wi, hwi, hb4, q9, hth9⟩ := box_sn wh S u9 m9
  have L4 := hid ((L3.out.below hb).below hb4)
  have hm9 := hid (hO9.reads.below hb4)
  have x9 := hid (sn_all q9)
  have x5 := hid (sn_all L4.out.q5)
  replace hwi := hid hwi
  replace hth9 := hid hth9
  clear hb hb4 hO9 q9 L3 hIm
  go_wp2_with (first | (guard_target = wpList _ _ _ (Oper.mk _ (Op.store _ _ _) _ _ _ _ :: _) _ _; refine wpList_store_mid rfl 32 _ _ rfl wh.heap.size 0 (snA S u9 m9) rfl rfl hth9.out (szS2 _ _ _) hone9.out ?_; rw [hwi.out]) | (refine wpList_load_mid rfl 32 _ rfl wh.heap.size 0 rfl (snA S u9 m9).toList _ x9.out Tryd.underlying32 rfl (szS S u9 m9) ?_) | (refine wpList_load_mid rfl 32 _ rfl b5 0 rfl (snA S u5 m5).toList _ x5.out Tryd.underlying32 rfl (szS S u5 m5) ?_))
  refine (eqsn_yes S u9 m9 u5 m5 wi hm9.out L4.out.o5.reads hsm.out).mono ?_
  rintro e wj ⟨rfl, hb⟩
  have L5 := hid (L4.out.below hb)
  clear hb L4 x9 x5 hwi hth9 hone9 hm9
  have x7 := hid (sn_all L5.out.q7)
  go_wp2_with (refine wpList_load_mid rfl 32 _ rfl b7 0 rfl (snA S u7 m7).toList _ x7.out Tryd.underlying32 rfl (szS S u7 m7) ?_)
  refine (hHd.out _ L5.out.o7.reads).mono ?_
  rintro e wk ⟨rfl, hb⟩
  have L6 := hid (L5.out.below hb)
  clear hb L5 x7 hHd
  go_wp2
  go_ret
  exact ⟨rfl, L6.out.bel⟩

theorem door_met (os : Os) (args : Array Value) : laidMetH Tryd.prog Rows.fnExactReadSnapRow.laid ((World.doorLaid Tryd.prog 400 os).forCall (fun _ _ => 0) ⟨#[], args, []⟩).memory :=
  laidMetH_of_parts3 (fuel := 8) (laidMet_of_run' 8 (by kernel_rfl) (by kernel_rfl)) (by kernel_rfl) (by kernel_rfl)

set_option maxRecDepth 100000 in
theorem lifted (os : Os) (started : os.Started) (H : Type) (enc : TypeId × Value → H) :
    ReturnsInHanded {} Tryd.checked os 3 .any (fun w args => (Rows.fnExactReadSnapSpec.pre enc Tryd.prog Tryd.f3 [] false w args ∧ laidMetH Tryd.prog Rows.fnExactReadSnapRow.laid w) ∧ sizedMet enc Tryd.prog Tryd.f3 (OpenSpec.ofChange Rows.fnExactReadSnapSpec) false w args)
      (Rows.fnExactReadSnapSpec.post enc Tryd.prog Tryd.f3 false true false false) := by
  refine returnsInHanded_of_change_and (C := Tryd.checked) (X := fun w _ => laidMetH Tryd.prog Rows.fnExactReadSnapRow.laid w) (fun _ _ _ hh h => h.of_heap hh) own started (by kernel_rfl) Tryd.func3
    (ChangeSpec.witness_shaped (enc := enc) (C := Tryd.checked) (os := os) (X := fun w _ => laidMetH Tryd.prog Rows.fnExactReadSnapRow.laid w) false (World.doorLaid Tryd.prog 400 os) #[.string ByteArray.empty, .string ByteArray.empty] 8 rfl (World.shaped_of_RefB (by kernel_rfl) (by kernel_rfl)) (by kernel_rfl) (by kernel_rfl) (by kernel_rfl) (door_met os _)) ?_
  intro W base args ds gs before hval0 hW _ _ hL _
  have hval : ∀ (j : Nat) t v, Tryd.f3.params[j]? = some t → args[j]? = some v → Value.okWide Tryd.prog W .any base t v := hval0
  have hW' := hW
  obtain ⟨p, q, hA0, hV, hbefore, hfz, hnd⟩ := hW
  have hA : DataW.TrodAll enc Tryd.prog W 0 (fun _ => true) true Tryd.f3.params.toList args.toList ds p := hA0
  rw [Tryd.params3] at hA hval
  obtain ⟨v0, vs0, d0, ds0, p0, q0, hargs, rfl, rfl, h0, r0⟩ := trodAll_cons hA
  obtain ⟨v1, vs1, d1, ds1, p1, q1, rfl, rfl, rfl, h1, r1⟩ := trodAll_cons r0
  obtain ⟨rfl, rfl, rfl⟩ := trodAll_nil r1
  obtain rfl : args = #[v0, v1] := by cases args; simp_all
  obtain ⟨g0, g1, g2, rfl⟩ := vars3_form hV
  obtain ⟨a0, rfl, rfl, rfl, w0⟩ := open_string Tryd.underlying9 (hval 0 9 v0 rfl rfl) h0
  obtain ⟨a1, rfl, rfl, rfl, w1⟩ := open_string Tryd.underlying9 (hval 1 9 v1 rfl rfl) h1
  clear hA0 hval0
  refine (walk a0 a1 W w0 w1 (errs_of hL)).mono fun e W' ⟨he, bel⟩ => ?_
  subst he
  exact ⟨_, rfl, _, _, _, [], _, _, hW', trodAll_mk1 (shut_bool Tryd.underlying4 _), (trodAll_cons_mk (shut_string Tryd.underlying9 w0) (trodAll_cons_mk (shut_string Tryd.underlying9 w1) trodAll_mk0)), Below.trodVars laidOut bel (by kernel_rfl) hV, bel.frame _, fun h => by cases h⟩

theorem said : Rows.FnExactReadSnapSaid :=
  OpenClaim.holds_of_wide 3 Tryd.f3 rfl rfl rfl rfl rfl rfl rfl ⟨rfl, rfl, rfl, rfl, rfl⟩ rfl rfl rfl rfl rfl (by kernel_rfl) Tryd.func3 (by kernel_rfl)
    (of_decide_eq_true (by kernel_rfl)) (by unfold Func.isWrapper; first | (rw [if_pos (by decide +kernel)]; kernel_rfl) | (rw [if_neg (by decide +kernel)]; exact ⟨rfl, rfl⟩))
    (fun os started H enc _ => lifted os started H enc)

theorem card : Rows.FnExactReadSnapCardSaid :=
  Claim7.holds_tied_plain_at .later [] _ _ _ _ said (fun _ h => by cases h) (by kernel_rfl) (fun _ h => by cases h) fnExactReadSnap_row_tie rfl ⟨rfl, rfl⟩ (by kernel_rfl) rfl
    (fun f fn hf hfn => by
      obtain rfl : f = 3 := Option.some.inj ((show Tryd.prog.funcNamed "loop.example/g00644/laws.FnExactReadSnap" = some 3 by kernel_rfl).symm.trans hf) |>.symm
      obtain rfl : fn = Tryd.f3 := (Option.some.inj (Tryd.func3.symm.trans hfn)).symm
      exact ⟨by kernel_rfl, fun j t ht => by
        rw [Tryd.params3] at ht
        have hm : t ∈ [9, 9] := by simpa using Array.mem_of_getElem? ht
        have hall : ([9, 9].all fun u => !Tryd.prog.wantsStandIn u) = true := by kernel_rfl
        exact (show Tryd.prog.wantsStandIn t = false by simpa using List.all_eq_true.1 hall t hm)⟩)
    (by kernel_rfl)
end Go.Proofs.YtghcagibdcblnaaDoor.fnExactReadSnap
namespace Go.Proofs.YtghcagibdcblnaaDoor
theorem fnExactReadSnap_holds : Rows.FnExactReadSnapCardSaid := fnExactReadSnap.card
#print axioms fnExactReadSnap_holds
end Go.Proofs.YtghcagibdcblnaaDoor
