/- For every block the law FnExactPulsesOf returns true: impl.PulsesOf answers as spec.PulsesOf, and its answer is its own; the times of bits being as the program's text lays them. -/
import Derived.Test.YtakdhmlegickmabDoorCards
import Derived.Test.YtakdhmlegickmabDoorTie
import Derived.Test.YtakdhmlegickmabDoorVp
import Derived.Test.YtakdhmlegickmabDoorVc
import Derived.Test.YtakdhmlegickmabDoorVv
import Derived.Test.YtakdhmlegickmabDoorZh
import Derived.Test.YtakdhmlegickmabDoorXt
import Derived.WalkKit
import Derived.ProofKit
import Derived.OpenShut
import Derived.ShutString
import Derived.ChangeOld
import Derived.Below
import Derived.LaidMore
import Derived.OpenVars
import Derived.SevenTiedAt
import Derived.Stop.Joined
import Derived.Lib.SmallJoins
namespace Go.Proofs.YtakdhmlegickmabDoor.fnExactPulsesOf
open Go.ChangeShapes Go.WideShapes Go.ChangeAt Go.RowKit Go.Joins
open Go.ChangeMaps (open_string shut_string)
set_option linter.unusedVariables false

theorem own : ownKnob Tryd.prog.godebug = none := by kernel_rfl
theorem laidOut : laidOutB Tryd.prog = true := by kernel_rfl

set_option maxRecDepth 100000 in
set_option maxHeartbeats 8000000 in
theorem walk (f0 : Int) (s0 : ByteArray) (w : World) (w0 : s0.size ≤ maxLen) (hL : Tim w) :
    Calls Tryd.prog 3 #[bkV f0 s0] w fun e w' => e = .returned (.bool true) ∧ Below w.heap.size w w' := by
  have hgw : 0 < w.heap.size := World.block_lt_of_cell? w _ hL.1
  have hSp := hid (fun W => pulsesof_spec f0 s0 W w0)
  have hIm : Hid (∀ W, Below w.heap.size w W → Calls Tryd.prog 9 #[bkV f0 s0] W fun e w' => ∃ v, e = .returned (.tuple #[v, .int .i64 (pls2 f0 s0).2]) ∧ Grow W w' v (pls2 f0 s0).1) := fun W hb => pulsesof_impl f0 s0 W w0 (hL.kept (hb.block _ hgw)) (Nat.lt_of_lt_of_le hgw hb.size)
  have hLn : (pls2 f0 s0).1.length ≤ 1000 := by
    unfold pls2
    split
    · rename_i hok
      show (plsB f0 s0).length ≤ _
      rw [plsB_len]
      have := ((okB_iff f0 s0).1 hok).2
      have := pilN_le f0
      omega
    · exact Nat.zero_le _
  obtain ⟨T, hT⟩ : ∃ T, (pls2 f0 s0).1 = T := ⟨_, rfl⟩
  obtain ⟨C, hC⟩ : ∃ C, (pls2 f0 s0).2 = C := ⟨_, rfl⟩
  rw [hT, hC] at hSp hIm
  rw [hT] at hLn
  clear hT hC hL hgw
  have q0 := hid (Blk.new w (bkA f0 s0) 23)
  have B0 := hid ((Below.refl w.heap.size w).alloc (Nat.le_refl _) (.cells (bkA f0 s0) 23))
  have x0 := q0.out.cell
  go_enter Tryd.func3, Tryd.ntmps3
  go_upto_region 1 with fail
  obtain ⟨V, hV⟩ : ∃ V, w.alloc (Obj.cells (bkA f0 s0) 23) = V := ⟨_, rfl⟩
  rw [hV] at q0 B0 x0 ⊢
  clear hV
  go_wp2_with fail
  refine (szbk f0 s0 _ _ w0 (by omega) (by omega)).mono ?_
  rintro e w1 ⟨rfl, hb⟩
  obtain ⟨z, hz⟩ : ∃ z, szB s0 1048576 = z := ⟨_, rfl⟩
  rw [hz]
  clear hz
  have q1 := hid (q0.out.below hb q0.out.lt)
  have B1 := hid (new_trans B0.out hb)
  clear hb q0 B0 x0
  by_cases hz : z < 0
  · go_wp2
    go_ret
    exact ⟨rfl, B1.out⟩
  have x1 := q1.out.cell
  go_wp2_with fail
  refine (tobk f0 s0 _).mono ?_
  rintro e w2 ⟨rfl, hb⟩
  have q2 := hid (q1.out.below hb q1.out.lt)
  have B2 := hid (new_trans B1.out hb)
  clear hb q1 B1 x1
  go_wp2_with fail
  refine (hSp.out _).mono ?_
  rintro e w3 ⟨v3, rfl, hG⟩
  have hR3 := hid (OwnI.of hG).read
  have q3 := hid (q2.out.below hG.bel q2.out.lt)
  have B3 := hid (new_trans B2.out hG.bel)
  obtain ⟨a3, c3, rfl⟩ := hG.form
  clear hG q2 B2 hSp
  have x3 := q3.out.cell
  go_wp2_with fail
  refine (tobk f0 s0 _).mono ?_
  rintro e w4 ⟨rfl, hb⟩
  have q4 := hid (q3.out.below hb q3.out.lt)
  have B4 := hid (new_trans B3.out hb)
  have hb34 := hid hb
  clear hb
  go_wp2_with fail
  refine (hIm.out _ B4.out).mono ?_
  rintro e w5 ⟨v5, rfl, hG⟩
  have hO5 : Hid (OwnI w3.heap.size w5 v5 T) := by
    rcases OwnI.of hG with h | ⟨g, hg, h⟩
    · exact .inl h
    · exact .inr ⟨g, Nat.le_trans hb34.out.size hg, h⟩
  have hB35 := hid (new_trans hb34.out hG.bel)
  have hR35 := hid (hR3.out.below hB35.out)
  have q5 := hid (q4.out.below hG.bel q4.out.lt)
  have B5 := hid (new_trans B4.out hG.bel)
  obtain ⟨a5, c5, rfl⟩ := hG.form
  clear hG q4 B4 hb34 x3
  go_wp2_with fail
  refine (eqr_yes _ _ T _ hO5.out.read hR35.out (by omega)).mono ?_
  rintro e w6 ⟨rfl, n6, rfl⟩
  have hb6 : Below w5.heap.size w5 (w5.drewN n6) := Below.drewN w5 n6 _
  have hO6 := hid (hO5.out.below hb6)
  have hB36 := hid (new_trans hB35.out hb6)
  obtain ⟨W6, hW6⟩ : ∃ W, w5.drewN n6 = W := ⟨_, rfl⟩
  rw [hW6] at hO6 hB36 ⊢
  clear hb6 hO5 hB35 hR35 q5 B5 hW6
  go_wp2_with fail
  refine (markV _ _ T _ hO6.out (by omega) hB36.out.size).mono ?_
  rintro e w7 ⟨rfl, hO7, hb7⟩
  replace hO7 := hid hO7
  have hB37 := hid (hB36.out.trans hb7)
  have q7 := hid (q3.out.below hB37.out q3.out.lt)
  have B7 := hid (new_trans B3.out hB37.out)
  clear hb7 hO6 hB36
  go_wp2_with fail
  refine (heldr _ 1 T.length _ hO7.out.read (by omega) (by omega) (by omega)).mono ?_
  rintro e w8 ⟨rfl, hww⟩
  obtain rfl := hww.symm
  have x7 := q7.out.cell
  go_wp2_with fail
  refine (tobk f0 s0 _).mono ?_
  rintro e w9 ⟨rfl, hb⟩
  have q9 := hid (q7.out.below hb q7.out.lt)
  have B9 := hid (new_trans B7.out hb)
  have hO9 := hid (hO7.out.below hb)
  have hB39 := hid (new_trans hB37.out hb)
  clear hb q7 B7 x7 hO7 hB37
  go_wp2_with fail
  refine (hIm.out _ B9.out).mono ?_
  rintro e w10 ⟨v10, rfl, hG⟩
  have hR10 := hid (OwnI.of hG).read
  have hO10 := hid (hO9.out.below hG.bel)
  have hR310 := hid (hR3.out.below (new_trans hB39.out hG.bel))
  have B10 := hid (new_trans B9.out hG.bel)
  obtain ⟨a10, c10, rfl⟩ := hG.form
  clear hG q9 B9 hO9 hB39 hIm
  go_wp2_with fail
  refine (eqr_yes _ _ T _ hR10.out hR310.out (by omega)).mono ?_
  rintro e w11 ⟨rfl, n11, rfl⟩
  have hO11 := hid (hO10.out.below (Below.drewN w10 n11 _))
  have B11 := hid (new_trans B10.out (Below.drewN w10 n11 _))
  clear hR10 hR310 B10 hO10
  go_wp2_with fail
  refine (heldr _ 1 T.length _ hO11.out.read (by omega) (by omega) (by omega)).mono ?_
  rintro e w12 ⟨rfl, hww⟩
  obtain rfl := hww.symm
  go_wp2_with fail
  go_ret
  exact ⟨rfl, B11.out⟩

theorem door_met (os : Os) (args : Array Value) : laidMetH Tryd.prog Rows.fnExactPulsesOfRow.laid ((World.doorLaid Tryd.prog 400 os).forCall (fun _ _ => 0) ⟨#[], args, []⟩).memory :=
  laidMetH_of_parts3 (fuel := 8) (laidMet_of_run' 8 (by kernel_rfl) (by kernel_rfl)) (by kernel_rfl) (by kernel_rfl)

set_option maxRecDepth 100000 in
theorem lifted (os : Os) (started : os.Started) (H : Type) (enc : TypeId × Value → H) :
    ReturnsInHanded {} Tryd.checked os 3 .any (fun w args => (Rows.fnExactPulsesOfSpec.pre enc Tryd.prog Tryd.f3 [] false w args ∧ laidMetH Tryd.prog Rows.fnExactPulsesOfRow.laid w) ∧ sizedMet enc Tryd.prog Tryd.f3 (OpenSpec.ofChange Rows.fnExactPulsesOfSpec) false w args)
      (Rows.fnExactPulsesOfSpec.post enc Tryd.prog Tryd.f3 false true false false) := by
  refine returnsInHanded_of_change_and (C := Tryd.checked) (X := fun w _ => laidMetH Tryd.prog Rows.fnExactPulsesOfRow.laid w) (fun _ _ _ hh h => h.of_heap hh) own started (by kernel_rfl) Tryd.func3
    (ChangeSpec.witness_shaped (enc := enc) (C := Tryd.checked) (os := os) (X := fun w _ => laidMetH Tryd.prog Rows.fnExactPulsesOfRow.laid w) false (World.doorLaid Tryd.prog 400 os) #[.agg #[.int .i64 0, .string ByteArray.empty]] 8 rfl (World.shaped_of_RefB (by kernel_rfl) (by kernel_rfl)) (by kernel_rfl) (by kernel_rfl) (by kernel_rfl) (door_met os _)) ?_
  intro W base args ds gs before hval0 hW _ _ hL _
  have hval : ∀ (j : Nat) t v, Tryd.f3.params[j]? = some t → args[j]? = some v → Value.okWide Tryd.prog W .any base t v := hval0
  have hW' := hW
  obtain ⟨p, q, hA0, hV, hbefore, hfz, hnd⟩ := hW
  have hA : DataW.TrodAll enc Tryd.prog W 0 (fun _ => true) true Tryd.f3.params.toList args.toList ds p := hA0
  rw [Tryd.params3] at hA hval
  obtain ⟨v0, vs0, d0, ds0, p0, q0, hargs, rfl, rfl, h0, r0⟩ := trodAll_cons hA
  obtain ⟨rfl, rfl, rfl⟩ := trodAll_nil r0
  obtain rfl : args = #[v0] := by cases args; simp_all
  obtain ⟨g0, rfl⟩ := vars1_form hV
  have k0 := h0
  have lt0 : ∀ x ∈ p0, x.block < W.heap.size := by obtain ⟨m, hm⟩ := k0; exact DataW.trod_lt m _ _ _ hm
  obtain ⟨c0, c1, y0, y1, m, rfl, rfl, rfl, hy0, hy1⟩ := open_agg2 Tryd.underlying23 (by kernel_rfl) (by kernel_rfl) (hval 0 23 v0 rfl rfl) h0
  obtain ⟨f0, i0, rfl, _⟩ := DataW.trod_int Tryd.underlying3 hy0
  obtain ⟨s0, i1, rfl, w0⟩ := DataW.trod_string Tryd.underlying9 hy1
  simp at i0 i1
  subst i0 i1
  clear hA0 hval0
  refine (walk f0 s0 W w0 (tim_of hL)).mono fun e W' ⟨he, bel⟩ => ?_
  subst he
  exact ⟨_, rfl, _, _, _, [], _, _, hW', trodAll_mk1 (shut_bool Tryd.underlying4 _), (trodAll_cons_mk (Below.trod laidOut (by kernel_rfl) (of_decide_eq_true (by kernel_rfl)) k0 bel lt0) trodAll_mk0), Below.trodVars laidOut bel (by kernel_rfl) hV, bel.frame _, fun h => by cases h⟩

theorem said : Rows.FnExactPulsesOfSaid :=
  OpenClaim.holds_of_wide 3 Tryd.f3 rfl rfl rfl rfl rfl rfl rfl ⟨rfl, rfl, rfl, rfl, rfl⟩ rfl rfl rfl rfl rfl (by kernel_rfl) Tryd.func3 (by kernel_rfl)
    (of_decide_eq_true (by kernel_rfl)) (by unfold Func.isWrapper; first | (rw [if_pos (by decide +kernel)]; kernel_rfl) | (rw [if_neg (by decide +kernel)]; exact ⟨rfl, rfl⟩))
    (fun os started H enc _ => lifted os started H enc)

theorem card : Rows.FnExactPulsesOfCardSaid :=
  Claim7.holds_tied_plain_at .later [] _ _ _ _ said (fun _ h => by cases h) (by kernel_rfl) (fun _ h => by cases h) fnExactPulsesOf_row_tie rfl ⟨rfl, rfl⟩ (by kernel_rfl) rfl
    (fun f fn hf hfn => by
      obtain rfl : f = 3 := Option.some.inj ((show Tryd.prog.funcNamed "loop.example/g00644/laws.FnExactPulsesOf" = some 3 by kernel_rfl).symm.trans hf) |>.symm
      obtain rfl : fn = Tryd.f3 := (Option.some.inj (Tryd.func3.symm.trans hfn)).symm
      exact ⟨by kernel_rfl, fun j t ht => by
        rw [Tryd.params3] at ht
        have hm : t ∈ [23] := by simpa using Array.mem_of_getElem? ht
        have hall : ([23].all fun u => !Tryd.prog.wantsStandIn u) = true := by kernel_rfl
        exact (show Tryd.prog.wantsStandIn t = false by simpa using List.all_eq_true.1 hall t hm)⟩)
    (by kernel_rfl)
end Go.Proofs.YtakdhmlegickmabDoor.fnExactPulsesOf
namespace Go.Proofs.YtakdhmlegickmabDoor
theorem fnExactPulsesOf_holds : Rows.FnExactPulsesOfCardSaid := fnExactPulsesOf.card
#print axioms fnExactPulsesOf_holds
end Go.Proofs.YtakdhmlegickmabDoor
