/- For every machine and list of cycles the law FnExactCyclesTime returns true: impl.CyclesTime answers as spec.CyclesTime and changes nothing, the listed tables being as the program's text lays them. -/
import Derived.Test.YtifcdojaocndhaaDoorCards
import Derived.Test.YtifcdojaocndhaaDoorTie
import Derived.Test.YtifcdojaocndhaaDoorC47
import Derived.WalkKit
import Derived.ProofKit
import Derived.OpenShut
import Derived.ShutString
import Derived.ChangeOld
import Derived.Below
import Derived.LaidMore
import Derived.OpenVars
import Derived.SevenTiedAt
import Derived.Stop.Joined
import Derived.Lib.SmallJoins
namespace Go.Proofs.YtifcdojaocndhaaDoor.fnExactCyclesTime
open Go.ChangeShapes Go.WideShapes Go.ChangeAt Go.RowKit Go.Joins
open Go.ChangeMaps (open_string shut_string)
set_option linter.unusedVariables false

theorem own : ownKnob Tryd.prog.godebug = none := by kernel_rfl
theorem laidOut : laidOutB Tryd.prog = true := by kernel_rfl

set_option maxRecDepth 100000 in
set_option maxHeartbeats 8000000 in
theorem walk (v0 : Value) (x : Mc) (a1 : Option Addr) (n1 c1 : Nat) (l : List Evt) (w : World) (m0 : MacB w v0 x) (b0 : BigMc x) (m1 : EvR w (.slice a1 n1 c1) l) (b1 : l.length ≤ maxLen) (hL : PBit w ∧ Pat w ∧ Times w) :
    Calls Tryd.prog 4 #[v0, .slice a1 n1 c1] w fun e w' => e = .returned (.bool true) ∧ Below w.heap.size w w' := by
  obtain ⟨vr, vm, vd, ve, rfl, hm, hd, he⟩ := m0
  have hA : Hid (∀ W, Below w.heap.size w W → MacB W (mcV x vr vm vd ve) x) := fun W hb => MacB.below ⟨vr, vm, vd, ve, rfl, hm, hd, he⟩ hb
  have hE : Hid (∀ W, Below w.heap.size w W → EvR W (.slice a1 n1 c1) l) := fun W hb => m1.below hb
  have hbig : Hid (BigMc x) := b0
  have hlen : Hid (l.length ≤ maxLen) := b1
  have hP : Hid (∀ W, Below w.heap.size w W → PBit W ∧ Pat W ∧ Times W) := fun W hb => ⟨PBit.below hL.1 hb, pat_below hL.2.1 hb, Times.below hL.2.2 hb⟩
  have qA := hid (Blk.new w (mcA x vr vm vd ve) 58)
  have hB := hid ((Below.refl w.heap.size w).alloc (Nat.le_refl _) (.cells (mcA x vr vm vd ve) 58))
  clear hm hd he b0 hL m1 b1
  go_enter Tryd.func4, Tryd.ntmps4
  go_upto_region 2 with fail
  obtain ⟨V, hV⟩ : ∃ V, w.alloc (.cells (mcA x vr vm vd ve) 58) = V := ⟨_, rfl⟩
  rw [hV] at qA hB ⊢
  clear hV
  have x1 := hid (mc_all qA.out)
  go_wp2_with (refine wpList_load_mid rfl 58 _ rfl w.heap.size 0 rfl (mcA x vr vm vd ve).toList _ x1.out Tryd.underlying58 rfl (szLMc _ _ _ _ _) ?_)
  refine (szmc x _ 1048576 V (hA.out _ hB.out) hbig.out (by omega) (by omega)).mono ?_
  rintro e w1 ⟨R, rfl, hR, hb⟩
  have qA1 := hid (qA.out.below hb qA.out.lt)
  have hB1 := hid (new_trans hB.out hb)
  clear hb qA hB x1
  rcases hR with hR | ⟨hR, hR2⟩
  · go_wp2
    go_ret
    exact ⟨rfl, hB1.out⟩
  have hs : Hid (SmallMc x) := by
    unfold Hid
    refine ⟨⟨by omega, by omega, by omega⟩, by omega, by omega⟩
  have hRm : R ≤ 1048576 := by omega
  clear hR2 hbig
  go_wp2_with fail
  refine (szccs _ l R w1 (hE.out _ hB1.out) hlen.out hR hRm).mono ?_
  rintro e w1' ⟨R2, rfl, hR2, hb⟩
  have qA1 := hid (qA1.out.below hb qA1.out.lt)
  have hB1 := hid (new_trans hB1.out hb)
  clear hb
  rcases hR2 with hR2 | ⟨hR2, hR3⟩
  · go_wp2
    go_ret
    exact ⟨rfl, hB1.out⟩
  have hl := hid (show l.length ≤ 1048576 by omega)
  clear hR3 hRm hlen
  have hSp := hid (fun W v u (h : MacB W v x) (h2 : EvR W u l) => lcyt_spec x v u l W h.macR hs.out.fit h2 hl.out)
  have hIm := hid (fun W v u (h : MacB W v x) (h2 : EvR W u l) (hp : PBit W ∧ Pat W ∧ Times W) => cyt_impl x v u l W h.macR hs.out.fit h2 hl.out hp.1 hp.2.1 hp.2.2)
  obtain ⟨⟨Q0, Q1⟩, hQ⟩ : ∃ Q, cyt2 x l = Q := ⟨_, rfl⟩
  rw [hQ] at hSp hIm
  clear hQ
  have x1 := hid (mc_all qA1.out)
  go_wp2_with (refine wpList_load_mid rfl 58 _ rfl w.heap.size 0 rfl (mcA x vr vm vd ve).toList _ x1.out Tryd.underlying58 rfl (szLMc _ _ _ _ _) ?_)
  refine (tomcB x _ w1' (hA.out _ hB1.out) hs.out).mono ?_
  rintro e w2 ⟨ur, um, ud, ue, rfl, hO, hb⟩
  replace hO := hid hO
  have qA2 := hid (qA1.out.below hb qA1.out.lt)
  have hB2 := hid (new_trans hB1.out hb)
  clear hb qA1 hB1 x1
  go_wp2_with fail
  refine (toccs _ l w2 (hE.out _ hB2.out) hl.out).mono ?_
  rintro e w3 ⟨rfl, hC, hb⟩
  have hC := hid hC
  have hO := hid (hO.out.below hb)
  have qA3 := hid (qA2.out.below hb qA2.out.lt)
  have hB3 := hid (new_trans hB2.out hb)
  clear hb qA2 hB2
  go_wp2_with fail
  refine (hSp.out _ _ _ hO.out hC.out.read).mono ?_
  rintro e w4 ⟨rfl, hb⟩
  have qA3 := hid (qA3.out.below hb qA3.out.lt)
  have hB3 := hid (new_trans hB3.out hb)
  clear hb hO hSp hC
  have x1 := hid (mc_all qA3.out)
  go_wp2_with (refine wpList_load_mid rfl 58 _ rfl w.heap.size 0 rfl (mcA x vr vm vd ve).toList _ x1.out Tryd.underlying58 rfl (szLMc _ _ _ _ _) ?_)
  refine (tomcB x _ w4 (hA.out _ hB3.out) hs.out).mono ?_
  rintro e w5 ⟨ur, um, ud, ue, rfl, hO, hb⟩
  have hone := hid (mc_one (p := fun _ => false) hO.macR)
  have qA4 := qA3.out.below hb qA3.out.lt
  have hB4 := new_trans hB3.out hb
  have qn := Blk.new w5 mcZ 41
  rw [mcZ_eq] at qn
  have hth := hid (mc_there qn (o := 0) (n := (mcA x ur um ud ue).size) (by show 0 + 58 ≤ 58; omega))
  have hbn : Below w5.heap.size w5 (w5.alloc (.cells (mcA mc0 nlV nlV nlV nlV) 41)) := (Below.refl _ _).alloc (Nat.le_refl _) _
  obtain ⟨w6, hw6⟩ : ∃ W, (w5.alloc (.cells mcZ 41)).setCells w5.heap.size 0 (mcA x ur um ud ue).toList = W := ⟨_, rfl⟩
  have hb56 : Below w5.heap.size w5 w6 := by rw [← hw6, mcZ_eq]; exact layE_below _ 0 _ (Nat.le_refl _) hbn
  have qX5 : Hid (Blk w6 w5.heap.size (mcA x ur um ud ue)) := by
    rw [← hw6, mcZ_eq]
    have := lay_blk w5.heap.size (mcA x ur um ud ue).toList _ 0 _ qn
    rw [mlay_x] at this
    exact this
  have qA5 := hid (qA4.below hb56 qA4.lt)
  have hB5 := hid (new_trans hB4 hb56)
  have hmX5 := hid (hO.below hb56)
  replace hw6 := hid hw6
  clear hb hO qA4 hB4 qn hbn hb56 qA3 hB3 x1
  go_wp2_with (guard_target = wpList _ _ _ (Oper.mk _ (Op.store _ _ _) _ _ _ _ :: _) _ _; refine wpList_store_mid rfl 41 _ _ rfl w5.heap.size 0 (mcA x ur um ud ue) rfl rfl hth.out (szMcA _ _ _ _ _) hone.out ?_; rw [hw6.out])
  refine (toccs _ l w6 (hE.out _ hB5.out) hl.out).mono ?_
  rintro e w7 ⟨rfl, hC, hb⟩
  have hC := hid hC
  have qX5 := hid (qX5.out.below hb qX5.out.lt)
  have qA5 := hid (qA5.out.below hb qA5.out.lt)
  have hB5 := hid (new_trans hB5.out hb)
  have hmX5 := hid (hmX5.out.below hb)
  clear hb hw6 hth hone
  have x2 := hid (mc_all qX5.out)
  go_wp2_with (refine wpList_load_mid rfl 41 _ rfl w5.heap.size 0 rfl (mcA x ur um ud ue).toList _ x2.out Tryd.underlying41 rfl (szMc _ _ _ _ _) ?_)
  refine (hIm.out _ _ _ hmX5.out hC.out.read (hP.out _ hB5.out)).mono ?_
  rintro e w8 ⟨rfl, hb⟩
  have qX6 := hid (qX5.out.below hb qX5.out.lt)
  have qA6 := hid (qA5.out.below hb qA5.out.lt)
  have hB6 := hid (new_trans hB5.out hb)
  have hmX6 := hid (hmX5.out.below hb)
  have hC6 := hid (hC.out.below hb)
  clear hb qX5 qA5 hB5 hmX5 hIm x2 hC
  go_wp2
  refine w3f_reg _ w8 _ w5.heap.size w.heap.size x ur um ud ue vr vm vd ve rfl rfl qX6.out qA6.out (fun W hb => (tomcB x _ W (hA.out _ (new_trans hB6.out hb)) hs.out).mono (by rintro e w' ⟨ur, um, ud, ue, rfl, hO, hb'⟩; exact ⟨_, rfl, hO, hb'⟩)) (fun W v hb hm => eqmc x _ v W (hmX6.out.below hb) hm hs.out) (by simp) ?_
  intro w9 e9 hb9
  simp only [putsA, Act.put, List.setIfInBounds_toArray, List.set_cons_zero, List.set_cons_succ]
  have hB9 := hid (new_trans hB6.out hb9)
  have hC9 := hid (hC6.out.below hb9)
  clear hb9 hB6 qX6 qA6 hmX6 hA hC6
  go_wp2_with fail
  refine (toccs _ l w9 (hE.out _ hB9.out) hl.out).mono ?_
  rintro e w10 ⟨rfl, hD, hb⟩
  have hD := hid hD
  have hC10 := hid (hC9.out.below hb)
  have hB10 := hid (new_trans hB9.out hb)
  clear hb hB9 hC9
  go_wp2_with fail
  refine (eqccs _ _ l w10 hC10.out.read hD.out.read hl.out).mono ?_
  rintro e w11 ⟨rfl, hb⟩
  have hB11 := hid (new_trans hB10.out hb)
  clear hb hB10 hC10 hD
  go_wp2
  go_ret
  exact ⟨rfl, hB11.out⟩

theorem door_met (os : Os) (args : Array Value) : laidMetH Tryd.prog Rows.fnExactCyclesTimeRow.laid ((World.doorLaid Tryd.prog 400 os).forCall (fun _ _ => 0) ⟨#[], args, []⟩).memory :=
  laidMetH_of_parts3 (fuel := 8) (laidMet_of_run' 8 (by kernel_rfl) (by kernel_rfl)) (by kernel_rfl) (by kernel_rfl)

set_option maxRecDepth 100000 in
theorem lifted (os : Os) (started : os.Started) (H : Type) (enc : TypeId × Value → H) :
    ReturnsInHanded {} Tryd.checked os 4 .any (fun w args => (Rows.fnExactCyclesTimeSpec.pre enc Tryd.prog Tryd.f4 [] false w args ∧ laidMetH Tryd.prog Rows.fnExactCyclesTimeRow.laid w) ∧ sizedMet enc Tryd.prog Tryd.f4 (OpenSpec.ofChange Rows.fnExactCyclesTimeSpec) false w args)
      (Rows.fnExactCyclesTimeSpec.post enc Tryd.prog Tryd.f4 false true false false) := by
  refine returnsInHanded_of_change_and (C := Tryd.checked) (X := fun w _ => laidMetH Tryd.prog Rows.fnExactCyclesTimeRow.laid w) (fun _ _ _ hh h => h.of_heap hh) own started (by kernel_rfl) Tryd.func4
    (ChangeSpec.witness_shaped (enc := enc) (C := Tryd.checked) (os := os) (X := fun w _ => laidMetH Tryd.prog Rows.fnExactCyclesTimeRow.laid w) false (World.doorLaid Tryd.prog 400 os) #[.agg mcZ, .slice none 0 0] 8 rfl (World.shaped_of_RefB (by kernel_rfl) (by kernel_rfl)) (by kernel_rfl) (by kernel_rfl) (by kernel_rfl) (door_met os _)) ?_
  intro W base args ds gs before hval0 hW _ _ hL _
  have hval : ∀ (j : Nat) t v, Tryd.f4.params[j]? = some t → args[j]? = some v → Value.okWide Tryd.prog W .any base t v := hval0
  have hW' := hW
  obtain ⟨p, q, hA0, hV, hbefore, hfz, hnd⟩ := hW
  have hA : DataW.TrodAll enc Tryd.prog W 0 (fun _ => true) true Tryd.f4.params.toList args.toList ds p := hA0
  rw [Tryd.params4] at hA hval
  obtain ⟨v0, vs0, d0, ds0, p0, q0, hargs, rfl, rfl, h0, r0⟩ := trodAll_cons hA
  obtain ⟨v1, vs1, d1, ds1, p1, q1, rfl, rfl, rfl, h1, r1⟩ := trodAll_cons r0
  obtain ⟨rfl, rfl, rfl⟩ := trodAll_nil r1
  obtain rfl : args = #[v0, v1] := by cases args; simp_all
  obtain ⟨g0, g1, g2, rfl⟩ := vars3_form hV
  have k0 := h0
  have lt0 : ∀ x ∈ p0, x.block < W.heap.size := by obtain ⟨m, hm⟩ := k0; exact DataW.trod_lt m _ _ _ hm
  obtain ⟨x, m0, b0⟩ := mc_in (hval 0 58 v0 rfl rfl) h0
  have k1 := h1
  have lt1 : ∀ x ∈ p1, x.block < W.heap.size := by obtain ⟨m, hm⟩ := k1; exact DataW.trod_lt m _ _ _ hm
  obtain ⟨a1, n1, c1, rfl⟩ := okWide_slice Tryd.underlying59 (hval 1 59 v1 rfl rfl)
  obtain ⟨fuel1, hf1⟩ := h1
  obtain ⟨l, m1, b1⟩ := events_in Tryd.underlying59 Tryd.underlying110 (by kernel_rfl) (by kernel_rfl) Tryd.underlying3 Tryd.underlying3 Tryd.underlying3 (by simpa [Value.cells] using hf1)
  clear hA0 hval0
  refine (walk v0 x a1 n1 c1 l W m0 b0 m1 b1 (time3_of hL)).mono fun e W' ⟨he, bel⟩ => ?_
  subst he
  exact ⟨_, rfl, _, _, _, [], _, _, hW', trodAll_mk1 (shut_bool Tryd.underlying4 _), (trodAll_cons_mk (Below.trod laidOut (by kernel_rfl) (of_decide_eq_true (by kernel_rfl)) k0 bel lt0) (trodAll_cons_mk (Below.trod laidOut (by kernel_rfl) (of_decide_eq_true (by kernel_rfl)) k1 bel lt1) trodAll_mk0)), Below.trodVars laidOut bel (by kernel_rfl) hV, bel.frame _, fun h => by cases h⟩

theorem said : Rows.FnExactCyclesTimeSaid :=
  OpenClaim.holds_of_wide 4 Tryd.f4 rfl rfl rfl rfl rfl rfl rfl ⟨rfl, rfl, rfl, rfl, rfl⟩ rfl rfl rfl rfl rfl (by kernel_rfl) Tryd.func4 (by kernel_rfl)
    (of_decide_eq_true (by kernel_rfl)) (by unfold Func.isWrapper; first | (rw [if_pos (by decide +kernel)]; kernel_rfl) | (rw [if_neg (by decide +kernel)]; exact ⟨rfl, rfl⟩))
    (fun os started H enc _ => lifted os started H enc)

theorem card : Rows.FnExactCyclesTimeCardSaid :=
  Claim7.holds_tied_plain_at .later [] _ _ _ _ said (fun _ h => by cases h) (by kernel_rfl) (fun _ h => by cases h) fnExactCyclesTime_row_tie rfl ⟨rfl, rfl⟩ (by kernel_rfl) rfl
    (fun f fn hf hfn => by
      obtain rfl : f = 4 := Option.some.inj ((show Tryd.prog.funcNamed "loop.example/g00644/laws.FnExactCyclesTime" = some 4 by kernel_rfl).symm.trans hf) |>.symm
      obtain rfl : fn = Tryd.f4 := (Option.some.inj (Tryd.func4.symm.trans hfn)).symm
      exact ⟨by kernel_rfl, fun j t ht => by
        rw [Tryd.params4] at ht
        have hm : t ∈ [58, 59] := by simpa using Array.mem_of_getElem? ht
        have hall : ([58, 59].all fun u => !Tryd.prog.wantsStandIn u) = true := by kernel_rfl
        exact (show Tryd.prog.wantsStandIn t = false by simpa using List.all_eq_true.1 hall t hm)⟩)
    (by kernel_rfl)
end Go.Proofs.YtifcdojaocndhaaDoor.fnExactCyclesTime
namespace Go.Proofs.YtifcdojaocndhaaDoor
theorem fnExactCyclesTime_holds : Rows.FnExactCyclesTimeCardSaid := fnExactCyclesTime.card
#print axioms fnExactCyclesTime_holds
end Go.Proofs.YtifcdojaocndhaaDoor
