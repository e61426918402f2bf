/- For every cursor the law FnExactTakeBlock returns true: impl.TakeBlock answers as spec.TakeBlock, the errors of the cursor and of blocks being as the program's text lays them. -/
import Derived.Test.YthffhfafnohndabDoorCards
import Derived.Test.YthffhfafnohndabDoorTie
import Derived.Test.YthffhfafnohndabDoorUe
import Derived.Test.YthffhfafnohndabDoorTo
import Derived.Test.YthffhfafnohndabDoorZe
import Derived.Test.YthffhfafnohndabDoorZh
import Derived.Test.YthffhfafnohndabDoorZd
import Derived.WalkKit
import Derived.ProofKit
import Derived.OpenShut
import Derived.ShutString
import Derived.ChangeOld
import Derived.Below
import Derived.LaidMore
import Derived.OpenVars
import Derived.SevenTiedAt
import Derived.Stop.Joined
import Derived.Lib.SmallJoins
namespace Go.Proofs.YthffhfafnohndabDoor.fnExactTakeBlock
open Go.ChangeShapes Go.WideShapes Go.ChangeAt Go.RowKit Go.Joins
open Go.ChangeMaps (open_string shut_string)
set_option linter.unusedVariables false

theorem own : ownKnob Tryd.prog.godebug = none := by kernel_rfl
theorem laidOut : laidOutB Tryd.prog = true := by kernel_rfl

set_option maxRecDepth 100000 in
set_option maxHeartbeats 4000000 in
theorem walk (s0 : ByteArray) (a0 : Int) (w : World) (w0 : s0.size ≤ maxLen) (hL : ∃ e0 e1 e2 e3 e4 e5, Err6 w e0 e1 e2 e3 e4 e5) :
    Calls Tryd.prog 3 #[.agg #[.string s0, .int .i64 a0]] w fun e w' => e = .returned (.bool true) ∧ Below w.heap.size w w' := by
  obtain ⟨e0, e1, e2, e3, e4, e5, hE⟩ := hL
  have hSp := hid (fun W => tkb_spec s0 a0 W w0)
  have hIm := hid (fun W (h : Err6 W e0 e1 e2 e3 e4 e5) => tkb_impl s0 a0 e0 e1 e2 e3 e4 e5 W w0 h)
  obtain ⟨X, hX⟩ : ∃ X, tkB s0 a0 = X := ⟨_, rfl⟩
  rw [hX] at hSp hIm
  clear hX
  obtain ⟨⟨⟨S, A⟩, ⟨F, D⟩⟩, c⟩ := X
  have q0 := hid (Blk.new w (curA s0 a0) 23)
  have hb0 := hid ((Below.refl w.heap.size w).alloc (Nat.le_refl _) (.cells (curA s0 a0) 23))
  have x0 := q0.out.cell
  replace hE := hid hE
  go_enter Tryd.func3, Tryd.ntmps3
  go_upto_region 1 with fail
  obtain ⟨V, hV⟩ : ∃ V, w.alloc (Obj.cells (curA s0 a0) 23) = V := ⟨_, rfl⟩
  rw [hV] at q0 hb0 x0 ⊢
  clear hV
  go_wp2_with fail
  refine (sz_any s0 a0 _ w0).mono ?_
  rintro e w1 ⟨⟨z, rfl, _⟩, hb⟩
  have q1 := hid (q0.out.below hb q0.out.lt)
  have hb1 := hid (new_trans hb0.out hb)
  have x1 := q1.out.cell
  clear hb q0 hb0 x0
  by_cases hz : z < 0
  · go_wp2
    go_ret
    exact ⟨rfl, hb1.out⟩
  go_wp2_with fail
  refine (to_any s0 a0 _).mono ?_
  rintro e w2 ⟨rfl, hb⟩
  have q2 := hid (q1.out.below hb q1.out.lt)
  have hb2 := hid (new_trans hb1.out hb)
  clear hb q1 hb1 x1
  go_wp2_with fail
  refine (hSp.out _).mono ?_
  rintro e w3 ⟨rfl, hb⟩
  obtain ⟨q4, q5, hal⟩ := two_new w3 (curA S A) (bkA F D) 25 27
  have q3 := hid ((q2.out.below hb q2.out.lt).below hal (q2.out.below hb q2.out.lt).lt)
  have hb3 := hid (new_trans (new_trans hb2.out hb) hal)
  replace q4 := hid q4
  replace q5 := hid q5
  clear hb q2 hb2 hal
  go_upto_region 6 with fail
  obtain ⟨b4, eb⟩ : ∃ b, w3.heap.size = b := ⟨_, rfl⟩
  obtain ⟨W3, eW⟩ : ∃ W, (w3.alloc (.cells (curA S A) 25)).alloc (.cells (bkA F D) 27) = W := ⟨_, rfl⟩
  rw [eW, eb] at q4 q5
  rw [eW] at q3 hb3 ⊢
  rw [eb]
  clear eW eb
  have x3 := q3.out.cell
  go_wp2_with fail
  refine (to_any s0 a0 _).mono ?_
  rintro e w4 ⟨rfl, hb⟩
  have hb4 := hid (new_trans hb3.out hb)
  have q44 := hid (q4.out.below hb q4.out.lt)
  have q54 := hid (q5.out.below hb q5.out.lt)
  clear hb q3 hb3 x3 q4 q5
  go_wp2_with fail
  refine (hIm.out _ (hE.out.below hb4.out)).mono ?_
  rintro e w5 ⟨rfl, hb⟩
  obtain ⟨q7, q8, hal⟩ := two_new w5 (curA S A) (bkA F D) 25 27
  have q45 := hid ((q44.out.below hb q44.out.lt).below hal (q44.out.below hb q44.out.lt).lt)
  have q55 := hid ((q54.out.below hb q54.out.lt).below hal (q54.out.below hb q54.out.lt).lt)
  have hb5 := hid (new_trans (new_trans hb4.out hb) hal)
  replace q7 := hid q7
  replace q8 := hid q8
  clear hb q44 q54 hb4 hal
  go_upto_region 7 with fail
  obtain ⟨b7, eb⟩ : ∃ b, w5.heap.size = b := ⟨_, rfl⟩
  obtain ⟨W5, eW⟩ : ∃ W, (w5.alloc (.cells (curA S A) 25)).alloc (.cells (bkA F D) 27) = W := ⟨_, rfl⟩
  rw [eW, eb] at q7 q8
  rw [eW] at q45 q55 hb5 ⊢
  rw [eb]
  clear eW eb
  have x4 := q45.out.cell
  have x7 := q7.out.cell
  go_wp2_with fail
  refine (eq_any S A _).mono ?_
  rintro e w6 ⟨rfl, hb⟩
  have hb6 := hid (new_trans hb5.out hb)
  have x5 := (q55.out.below hb q55.out.lt).cell
  have x8 := (q8.out.below hb q8.out.lt).cell
  clear hb hb5 x4 x7 q45 q55 q7 q8
  go_wp2_with fail
  refine (eqbk F D _).mono ?_
  rintro e w7 ⟨rfl, hb⟩
  have hb7 := hid (new_trans hb6.out hb)
  clear hb hb6 x5 x8
  go_wp2_with fail
  go_ret
  exact ⟨rfl, hb7.out⟩

theorem door_met (os : Os) (args : Array Value) : laidMetH Tryd.prog Rows.fnExactTakeBlockRow.laid ((World.doorLaid Tryd.prog 400 os).forCall (fun _ _ => 0) ⟨#[], args, []⟩).memory :=
  laidMetH_of_parts3 (fuel := 8) (laidMet_of_run' 8 (by kernel_rfl) (by kernel_rfl)) (by kernel_rfl) (by kernel_rfl)

set_option maxRecDepth 100000 in
theorem lifted (os : Os) (started : os.Started) (H : Type) (enc : TypeId × Value → H) :
    ReturnsInHanded {} Tryd.checked os 3 .any (fun w args => (Rows.fnExactTakeBlockSpec.pre enc Tryd.prog Tryd.f3 [] false w args ∧ laidMetH Tryd.prog Rows.fnExactTakeBlockRow.laid w) ∧ sizedMet enc Tryd.prog Tryd.f3 (OpenSpec.ofChange Rows.fnExactTakeBlockSpec) false w args)
      (Rows.fnExactTakeBlockSpec.post enc Tryd.prog Tryd.f3 false true false false) := by
  refine returnsInHanded_of_change_and (C := Tryd.checked) (X := fun w _ => laidMetH Tryd.prog Rows.fnExactTakeBlockRow.laid w) (fun _ _ _ hh h => h.of_heap hh) own started (by kernel_rfl) Tryd.func3
    (ChangeSpec.witness_shaped (enc := enc) (C := Tryd.checked) (os := os) (X := fun w _ => laidMetH Tryd.prog Rows.fnExactTakeBlockRow.laid w) false (World.doorLaid Tryd.prog 400 os) #[.agg #[.string ByteArray.empty, .int .i64 0]] 8 rfl (World.shaped_of_RefB (by kernel_rfl) (by kernel_rfl)) (by kernel_rfl) (by kernel_rfl) (by kernel_rfl) (door_met os _)) ?_
  intro W base args ds gs before hval0 hW _ _ hL _
  have hval : ∀ (j : Nat) t v, Tryd.f3.params[j]? = some t → args[j]? = some v → Value.okWide Tryd.prog W .any base t v := hval0
  have hW' := hW
  obtain ⟨p, q, hA0, hV, hbefore, hfz, hnd⟩ := hW
  have hA : DataW.TrodAll enc Tryd.prog W 0 (fun _ => true) true Tryd.f3.params.toList args.toList ds p := hA0
  rw [Tryd.params3] at hA hval
  obtain ⟨v0, vs0, d0, ds0, p0, q0, hargs, rfl, rfl, h0, r0⟩ := trodAll_cons hA
  obtain ⟨rfl, rfl, rfl⟩ := trodAll_nil r0
  obtain rfl : args = #[v0] := by cases args; simp_all
  obtain ⟨g0, g1, g2, g3, g4, g5, rfl⟩ := vars6_form hV
  have k0 := h0
  have lt0 : ∀ x ∈ p0, x.block < W.heap.size := by obtain ⟨m, hm⟩ := k0; exact DataW.trod_lt m _ _ _ hm
  obtain ⟨c0, c1, y0, y1, m, rfl, rfl, rfl, hy0, hy1⟩ := open_agg2 Tryd.underlying23 (by kernel_rfl) (by kernel_rfl) (hval 0 23 v0 rfl rfl) h0
  obtain ⟨s0, i0, rfl, w0⟩ := DataW.trod_string Tryd.underlying9 hy0
  obtain ⟨a0, i1, rfl, _⟩ := DataW.trod_int Tryd.underlying3 hy1
  simp at i0 i1
  subst i0 i1
  clear hA0 hval0
  refine (walk s0 a0 W w0 (err6_of hL)).mono fun e W' ⟨he, bel⟩ => ?_
  subst he
  exact ⟨_, rfl, _, _, _, [], _, _, hW', trodAll_mk1 (shut_bool Tryd.underlying4 _), (trodAll_cons_mk (Below.trod laidOut (by kernel_rfl) (of_decide_eq_true (by kernel_rfl)) k0 bel lt0) trodAll_mk0), Below.trodVars laidOut bel (by kernel_rfl) hV, bel.frame _, fun h => by cases h⟩

theorem said : Rows.FnExactTakeBlockSaid :=
  OpenClaim.holds_of_wide 3 Tryd.f3 rfl rfl rfl rfl rfl rfl rfl ⟨rfl, rfl, rfl, rfl, rfl⟩ rfl rfl rfl rfl rfl (by kernel_rfl) Tryd.func3 (by kernel_rfl)
    (of_decide_eq_true (by kernel_rfl)) (by unfold Func.isWrapper; first | (rw [if_pos (by decide +kernel)]; kernel_rfl) | (rw [if_neg (by decide +kernel)]; exact ⟨rfl, rfl⟩))
    (fun os started H enc _ => lifted os started H enc)

theorem card : Rows.FnExactTakeBlockCardSaid :=
  Claim7.holds_tied_plain_at .later [] _ _ _ _ said (fun _ h => by cases h) (by kernel_rfl) (fun _ h => by cases h) fnExactTakeBlock_row_tie rfl ⟨rfl, rfl⟩ (by kernel_rfl) rfl
    (fun f fn hf hfn => by
      obtain rfl : f = 3 := Option.some.inj ((show Tryd.prog.funcNamed "loop.example/g00644/laws.FnExactTakeBlock" = some 3 by kernel_rfl).symm.trans hf) |>.symm
      obtain rfl : fn = Tryd.f3 := (Option.some.inj (Tryd.func3.symm.trans hfn)).symm
      exact ⟨by kernel_rfl, fun j t ht => by
        rw [Tryd.params3] at ht
        have hm : t ∈ [23] := by simpa using Array.mem_of_getElem? ht
        have hall : ([23].all fun u => !Tryd.prog.wantsStandIn u) = true := by kernel_rfl
        exact (show Tryd.prog.wantsStandIn t = false by simpa using List.all_eq_true.1 hall t hm)⟩)
    (by kernel_rfl)
end Go.Proofs.YthffhfafnohndabDoor.fnExactTakeBlock
namespace Go.Proofs.YthffhfafnohndabDoor
theorem fnExactTakeBlock_holds : Rows.FnExactTakeBlockCardSaid := fnExactTakeBlock.card
#print axioms fnExactTakeBlock_holds
end Go.Proofs.YthffhfafnohndabDoor
