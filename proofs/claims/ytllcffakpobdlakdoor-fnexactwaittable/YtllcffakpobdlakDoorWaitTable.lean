/- The law FnExactWaitTable returns true: impl.WaitTable answers as spec.WaitTable, a row of its own each time; the pattern of waits being as the program's text lays it. -/
import Derived.Test.YtllcffakpobdlakDoorCards
import Derived.Test.YtllcffakpobdlakDoorTie
import Derived.Test.YtllcffakpobdlakDoorBase
import Derived.Test.YtllcffakpobdlakDoorIn
import Derived.Test.YtllcffakpobdlakDoorSa
import Derived.Test.YtllcffakpobdlakDoorSc
import Derived.Test.YtllcffakpobdlakDoorQa
import Derived.Test.YtllcffakpobdlakDoorQc
import Derived.Test.YtllcffakpobdlakDoorQd
import Derived.Test.YtllcffakpobdlakDoorQe
import Derived.Test.YtllcffakpobdlakDoorEi
import Derived.WalkKit
import Derived.ProofKit
import Derived.OpenShut
import Derived.ShutString
import Derived.ChangeOld
import Derived.Below
import Derived.LaidMore
import Derived.OpenVars
import Derived.SevenTiedAt
import Derived.Stop.Joined
import Derived.Lib.SmallJoins
namespace Go.Proofs.YtllcffakpobdlakDoor.fnExactWaitTable
open Go.ChangeShapes Go.WideShapes Go.ChangeAt Go.RowKit Go.Joins
open Go.ChangeMaps (open_string shut_string)
set_option linter.unusedVariables false

theorem own : ownKnob Tryd.prog.godebug = none := by kernel_rfl
theorem laidOut : laidOutB Tryd.prog = true := by kernel_rfl

set_option maxRecDepth 100000 in
set_option maxHeartbeats 2000000 in
theorem walk  (w : World)  (hL : Pat w) :
    Calls Tryd.prog 3 #[] w fun e w' => e = .returned (.bool true) ∧ Below w.heap.size w w' := by
  have ints : ∀ {W : World} {B g cap : Nat}, W.ownsRow B 3 1 (.slice (some ⟨g, 0, none⟩) 640 cap) 640 (wtN 640) → IntsAt W g 640 (fun i => waitI (i : Int)) := fun h i hi => by
    rw [h.cellAt i (by omega)]
    exact wtN_at 640 i hi
  have hg0 : 1 < w.heap.size := World.block_lt_of_cell? w _ (hL 0 (by omega))
  go_enter Tryd.func3, Tryd.ntmps3
  go_wp2_with fail
  refine (table_spec _).mono ?_
  rintro e w1 ⟨v0, rfl, ho0, hb1⟩
  obtain ⟨g0, cap0, rfl, hlo0, hlt0⟩ := ho0.form (by omega)
  go_wp2_with fail
  refine (table_impl _ (pat_below hL hb1)).mono ?_
  rintro e w2 ⟨v1, rfl, ho1, hb2⟩
  obtain ⟨g1, cap1, rfl, hlo1, hlt1⟩ := ho1.form (by omega)
  have z0 : IntsAt w2 g0 640 (fun i => waitI (i : Int)) := IntsAt.below (ints ho0) hb2
  have z1 : IntsAt w2 g1 640 (fun i => waitI (i : Int)) := ints ho1
  have fz : ∀ i, w2.frozen? ⟨g1, i, none⟩ = false := fun i => ho1.frozenAt i
  have B2 : Below w.heap.size w w2 := hb1.trans (hb2.mono hb1.size)
  have hs1 := hb1.size
  have hs2 := hb2.size
  clear ho0 ho1 hb1 hb2
  replace z0 : Hid (IntsAt w2 g0 640 (fun i => waitI (i : Int))) := z0
  replace B2 : Hid (Below w.heap.size w w2) := B2
  replace hL : Hid (Pat w) := hL
  go_wp2_with fail
  refine (eqi_yes g1 g0 640 _ _ _ _ z1 z0.out (by omega)).mono ?_
  rintro e w3 ⟨rfl, hb3⟩
  have y1 : IntsAt w3 g1 640 (fun i => waitI (i : Int)) := IntsAt.below z1 hb3
  have y0 : Hid (IntsAt w3 g0 640 (fun i => waitI (i : Int))) := IntsAt.below z0.out hb3
  have fy : ∀ i, w3.frozen? ⟨g1, i, none⟩ = false := fun i => by rw [hb3.frozen (p := ⟨g1, i, none⟩) hlt1]; exact fz i
  have B3 : Hid (Below w.heap.size w w3) := B2.out.trans (hb3.mono B2.out.size)
  have hs3 := hb3.size
  clear z1 z0 fz hb3 B2
  go_wp2_with fail
  refine (mark_yes g1 640 _ 1 _ _ y1 fy (by omega) (by omega) (by omega)).mono ?_
  rintro e w4 ⟨rfl, m4, f4, gr4⟩
  have x0 : Hid (IntsAt w4 g0 640 (fun i => waitI (i : Int))) := fun i hi => gr4.cell (y0.out i hi) (by simp; omega)
  have B4 : Hid (Below w.heap.size w w4) := B3.out.grown gr4 (by omega) (fun g hg => by cases hg; omega)
  have P4 : Hid (Pat w4) := pat_below hL.out B4.out
  have hs4 := gr4.size
  clear y1 y0 fy f4 gr4 B3
  replace m4 : Hid (IntsAt w4 g1 640 (fun i => 1 + (i : Int))) := m4
  go_wp2_with fail
  refine (held_yes g1 640 _ 1 _ m4.out (by omega) (by omega) (by omega)).mono ?_
  rintro e w5 ⟨rfl, e5⟩
  subst e5
  go_wp2_with fail
  refine (table_impl _ P4.out).mono ?_
  rintro e w6 ⟨v2, rfl, ho2, hb6⟩
  obtain ⟨g2, cap2, rfl, hlo2, hlt2⟩ := ho2.form (by omega)
  have u2 : IntsAt w6 g2 640 (fun i => waitI (i : Int)) := ints ho2
  have u0 : Hid (IntsAt w6 g0 640 (fun i => waitI (i : Int))) := IntsAt.below x0.out hb6
  have m6 : Hid (IntsAt w6 g1 640 (fun i => 1 + (i : Int))) := IntsAt.below m4.out hb6
  have B6 : Hid (Below w.heap.size w w6) := B4.out.trans (hb6.mono B4.out.size)
  clear ho2 hb6 x0 m4 B4 P4
  go_wp2_with fail
  refine (eqi_yes g2 g0 640 _ _ _ _ u2 u0.out (by omega)).mono ?_
  rintro e w7 ⟨rfl, hb7⟩
  have m7 : Hid (IntsAt w7 g1 640 (fun i => 1 + (i : Int))) := IntsAt.below m6.out hb7
  have B7 : Hid (Below w.heap.size w w7) := B6.out.trans (hb7.mono B6.out.size)
  clear u2 u0 hb7 m6 B6
  go_wp2_with fail
  refine (held_yes g1 640 _ 1 _ m7.out (by omega) (by omega) (by omega)).mono ?_
  rintro e w8 ⟨rfl, e8⟩
  subst e8
  go_wp2
  go_ret
  exact ⟨rfl, B7.out⟩

theorem door_met (os : Os) (args : Array Value) : laidMetH Tryd.prog Rows.fnExactWaitTableRow.laid ((World.doorLaid Tryd.prog 400 os).forCall (fun _ _ => 0) ⟨#[], args, []⟩).memory :=
  laidMetH_of_parts3 (fuel := 8) (laidMet_of_run' 8 (by kernel_rfl) (by kernel_rfl)) (by kernel_rfl) (by kernel_rfl)

set_option maxRecDepth 100000 in
theorem lifted (os : Os) (started : os.Started) (H : Type) (enc : TypeId × Value → H) :
    ReturnsInHanded {} Tryd.checked os 3 .any (fun w args => (Rows.fnExactWaitTableSpec.pre enc Tryd.prog Tryd.f3 [] false w args ∧ laidMetH Tryd.prog Rows.fnExactWaitTableRow.laid w) ∧ sizedMet enc Tryd.prog Tryd.f3 (OpenSpec.ofChange Rows.fnExactWaitTableSpec) false w args)
      (Rows.fnExactWaitTableSpec.post enc Tryd.prog Tryd.f3 false true false false) := by
  refine returnsInHanded_of_change_and (C := Tryd.checked) (X := fun w _ => laidMetH Tryd.prog Rows.fnExactWaitTableRow.laid w) (fun _ _ _ hh h => h.of_heap hh) own started (by kernel_rfl) Tryd.func3
    (ChangeSpec.witness_shaped (enc := enc) (C := Tryd.checked) (os := os) (X := fun w _ => laidMetH Tryd.prog Rows.fnExactWaitTableRow.laid w) false (World.doorLaid Tryd.prog 400 os) #[] 8 rfl (World.shaped_of_RefB (by kernel_rfl) (by kernel_rfl)) (by kernel_rfl) (by kernel_rfl) (by kernel_rfl) (door_met os _)) ?_
  intro W base args ds gs before hval0 hW _ _ hL _
  have hval : ∀ (j : Nat) t v, Tryd.f3.params[j]? = some t → args[j]? = some v → Value.okWide Tryd.prog W .any base t v := hval0
  have hW' := hW
  obtain ⟨p, q, hA0, hV, hbefore, hfz, hnd⟩ := hW
  have hA : DataW.TrodAll enc Tryd.prog W 0 (fun _ => true) true Tryd.f3.params.toList args.toList ds p := hA0
  rw [Tryd.params3] at hA hval
  obtain ⟨hargs, rfl, rfl⟩ := trodAll_nil hA
  obtain rfl : args = #[] := by cases args; simp_all
  obtain ⟨g0, rfl⟩ := vars1_form hV

  clear hA0 hval0
  refine (walk  W  (pat_of hL)).mono fun e W' ⟨he, bel⟩ => ?_
  subst he
  exact ⟨_, rfl, _, _, _, [], _, _, hW', trodAll_mk1 (shut_bool Tryd.underlying4 _), trodAll_mk0, Below.trodVars laidOut bel (by kernel_rfl) hV, bel.frame _, fun h => by cases h⟩

theorem said : Rows.FnExactWaitTableSaid :=
  OpenClaim.holds_of_wide 3 Tryd.f3 rfl rfl rfl rfl rfl rfl rfl ⟨rfl, rfl, rfl, rfl, rfl⟩ rfl rfl rfl rfl rfl (by kernel_rfl) Tryd.func3 (by kernel_rfl)
    (of_decide_eq_true (by kernel_rfl)) (by unfold Func.isWrapper; first | (rw [if_pos (by decide +kernel)]; kernel_rfl) | (rw [if_neg (by decide +kernel)]; exact ⟨rfl, rfl⟩))
    (fun os started H enc _ => lifted os started H enc)

theorem card : Rows.FnExactWaitTableCardSaid :=
  Claim7.holds_tied_plain_at .later [] _ _ _ _ said (fun _ h => by cases h) (by kernel_rfl) (fun _ h => by cases h) fnExactWaitTable_row_tie rfl ⟨rfl, rfl⟩ (by kernel_rfl) rfl
    (fun f fn hf hfn => by
      obtain rfl : f = 3 := Option.some.inj ((show Tryd.prog.funcNamed "loop.example/g00644/laws.FnExactWaitTable" = some 3 by kernel_rfl).symm.trans hf) |>.symm
      obtain rfl : fn = Tryd.f3 := (Option.some.inj (Tryd.func3.symm.trans hfn)).symm
      exact ⟨by kernel_rfl, fun j t ht => by
        rw [Tryd.params3] at ht
        have hm : t ∈ [] := by simpa using Array.mem_of_getElem? ht
        have hall : ([].all fun u => !Tryd.prog.wantsStandIn u) = true := by kernel_rfl
        exact (show Tryd.prog.wantsStandIn t = false by simpa using List.all_eq_true.1 hall t hm)⟩)
    (by kernel_rfl)
end Go.Proofs.YtllcffakpobdlakDoor.fnExactWaitTable
namespace Go.Proofs.YtllcffakpobdlakDoor
theorem fnExactWaitTable_holds : Rows.FnExactWaitTableCardSaid := fnExactWaitTable.card
#print axioms fnExactWaitTable_holds
end Go.Proofs.YtllcffakpobdlakDoor
