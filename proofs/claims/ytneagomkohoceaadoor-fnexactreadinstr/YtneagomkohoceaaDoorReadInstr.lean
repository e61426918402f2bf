/- For every text the law FnExactReadInstr returns true: impl.ReadInstr answers as spec.ReadInstr, the table of kinds being as the program's text lays it. -/
import Derived.Test.YtneagomkohoceaaDoorCards
import Derived.Test.YtneagomkohoceaaDoorTie
import Derived.Test.YtneagomkohoceaaDoorBase
import Derived.Test.YtneagomkohoceaaDoorIn
import Derived.Test.YtneagomkohoceaaDoorBl
import Derived.Test.YtneagomkohoceaaDoorIa
import Derived.Test.YtneagomkohoceaaDoorKa
import Derived.Test.YtneagomkohoceaaDoorKb
import Derived.Test.YtneagomkohoceaaDoorKc
import Derived.Test.YtneagomkohoceaaDoorIq
import Derived.Test.YtneagomkohoceaaDoorIp
import Derived.Test.YtneagomkohoceaaDoorIr
import Derived.Test.YtneagomkohoceaaDoorKo
import Derived.WalkKit
import Derived.ProofKit
import Derived.OpenShut
import Derived.ShutString
import Derived.ChangeOld
import Derived.Below
import Derived.LaidMore
import Derived.OpenVars
import Derived.SevenTiedAt
import Derived.Stop.Joined
import Derived.Lib.SmallJoins
import Derived.OpenVars
namespace Go.Proofs.YtneagomkohoceaaDoor.fnExactReadInstr
open Go.ChangeShapes Go.WideShapes Go.ChangeAt Go.RowKit Go.Joins
open Go.ChangeMaps (open_string shut_string)
set_option linter.unusedVariables false

theorem own : ownKnob Tryd.prog.godebug = none := by kernel_rfl
theorem laidOut : laidOutB Tryd.prog = true := by kernel_rfl

set_option maxRecDepth 100000 in
set_option maxHeartbeats 2000000 in
theorem walk (a0 : ByteArray) (w : World) (w0 : a0.size ≤ maxLen) (hL : Kinds w) :
    Calls Tryd.prog 5 #[.string a0] w fun e w' => e = .returned (.bool true) ∧ Below w.heap.size w w' := by
  have hL2 := hid hL
  clear hL
  by_cases hlen : 1048576 < a0.size
  · unfold maxLen at w0
    go_enter Tryd.func5, Tryd.ntmps5
    go_wp2
    go_ret
    exact ⟨rfl, Below.refl _ _⟩
  have w1 := hid w0
  unfold maxLen at w0
  go_enter Tryd.func5, Tryd.ntmps5
  go_wp2_with fail
  refine (readi_spec a0 _ w1.out).mono ?_
  rintro e v1 ⟨he, hb⟩
  obtain ⟨o, a, b, n, l, c, hee⟩ := he.form
  rw [hee] at he
  rw [hee]
  have hE := hid he
  have hb1 := hid hb
  clear he hee hb
  have hb1' := hid (hb1.out.alloc hb1.out.size (.cells (insA o a b n l) 24))
  have hq1 := hid (Blk.new v1 (insA o a b n l) 24)
  go_wp2_with fail
  refine (readi_impl a0 _ (hL2.out.below hb1'.out) w1.out).mono ?_
  rintro e v2 ⟨he, hb⟩
  rw [he.one hE.out]
  have hb2 := hid (new_trans hb1'.out hb)
  have hq2 := hid (hq1.out.below hb hq1.out.lt)
  clear he hb hb1 hb1' hq1 hE
  have x2 := hq2.out.cell
  have z2 := hq2.out.lt
  have hb2' := hid (hb2.out.alloc hb2.out.size (.cells (insA o a b n l) 24))
  go_wp2_with fail
  clear x2 z2
  refine (eqi_yes _ _ _ _ _ _).mono ?_
  rintro e v3 ⟨rfl, hb⟩
  have hb3 := hid (new_trans hb2'.out hb)
  clear hb hb2 hb2' hq2
  go_wp2
  go_ret
  exact ⟨rfl, hb3.out⟩

theorem door_met (os : Os) (args : Array Value) : laidMetH Tryd.prog Rows.fnExactReadInstrRow.laid ((World.doorLaid Tryd.prog 400 os).forCall (fun _ _ => 0) ⟨#[], args, []⟩).memory :=
  laidMetH_of_parts3 (fuel := 8) (laidMet_of_run' 8 (by kernel_rfl) (by kernel_rfl)) (by kernel_rfl) (by kernel_rfl)

set_option maxRecDepth 100000 in
theorem lifted (os : Os) (started : os.Started) (H : Type) (enc : TypeId × Value → H) :
    ReturnsInHanded {} Tryd.checked os 5 .any (fun w args => (Rows.fnExactReadInstrSpec.pre enc Tryd.prog Tryd.f5 [] false w args ∧ laidMetH Tryd.prog Rows.fnExactReadInstrRow.laid w) ∧ sizedMet enc Tryd.prog Tryd.f5 (OpenSpec.ofChange Rows.fnExactReadInstrSpec) false w args)
      (Rows.fnExactReadInstrSpec.post enc Tryd.prog Tryd.f5 false true false false) := by
  refine returnsInHanded_of_change_and (C := Tryd.checked) (X := fun w _ => laidMetH Tryd.prog Rows.fnExactReadInstrRow.laid w) (fun _ _ _ hh h => h.of_heap hh) own started (by kernel_rfl) Tryd.func5
    (ChangeSpec.witness_shaped (enc := enc) (C := Tryd.checked) (os := os) (X := fun w _ => laidMetH Tryd.prog Rows.fnExactReadInstrRow.laid w) false (World.doorLaid Tryd.prog 400 os) #[.string ByteArray.empty] 8 rfl (World.shaped_of_RefB (by kernel_rfl) (by kernel_rfl)) (by kernel_rfl) (by kernel_rfl) (by kernel_rfl) (door_met os _)) ?_
  intro W base args ds gs before hval0 hW _ _ hL _
  have hval : ∀ (j : Nat) t v, Tryd.f5.params[j]? = some t → args[j]? = some v → Value.okWide Tryd.prog W .any base t v := hval0
  have hW' := hW
  obtain ⟨p, q, hA0, hV, hbefore, hfz, hnd⟩ := hW
  have hA : DataW.TrodAll enc Tryd.prog W 0 (fun _ => true) true Tryd.f5.params.toList args.toList ds p := hA0
  rw [Tryd.params5] at hA hval
  obtain ⟨v0, vs0, d0, ds0, p0, q0, hargs, rfl, rfl, h0, r0⟩ := trodAll_cons hA
  obtain ⟨rfl, rfl, rfl⟩ := trodAll_nil r0
  obtain rfl : args = #[v0] := by cases args; simp_all
  obtain ⟨g0, rfl⟩ := vars1_form hV
  obtain ⟨a0, rfl, rfl, rfl, w0⟩ := open_string Tryd.underlying9 (hval 0 9 v0 rfl rfl) h0
  clear hA0 hval0
  refine (walk a0 W w0 (kinds_of hL)).mono fun e W' ⟨he, bel⟩ => ?_
  subst he
  exact ⟨_, rfl, _, _, _, [], _, _, hW', trodAll_mk1 (shut_bool Tryd.underlying4 _), (trodAll_cons_mk (shut_string Tryd.underlying9 w0) trodAll_mk0), Below.trodVars laidOut bel (by kernel_rfl) hV, bel.frame _, fun h => by cases h⟩

theorem said : Rows.FnExactReadInstrSaid :=
  OpenClaim.holds_of_wide 5 Tryd.f5 rfl rfl rfl rfl rfl rfl rfl ⟨rfl, rfl, rfl, rfl, rfl⟩ rfl rfl rfl rfl rfl (by kernel_rfl) Tryd.func5 (by kernel_rfl)
    (of_decide_eq_true (by kernel_rfl)) (by unfold Func.isWrapper; first | (rw [if_pos (by decide +kernel)]; kernel_rfl) | (rw [if_neg (by decide +kernel)]; exact ⟨rfl, rfl⟩))
    (fun os started H enc _ => lifted os started H enc)

theorem card : Rows.FnExactReadInstrCardSaid :=
  Claim7.holds_tied_plain_at .later [] _ _ _ _ said (fun _ h => by cases h) (by kernel_rfl) (fun _ h => by cases h) fnExactReadInstr_row_tie rfl ⟨rfl, rfl⟩ (by kernel_rfl) rfl
    (fun f fn hf hfn => by
      obtain rfl : f = 5 := Option.some.inj ((show Tryd.prog.funcNamed "loop.example/g00644/laws.FnExactReadInstr" = some 5 by kernel_rfl).symm.trans hf) |>.symm
      obtain rfl : fn = Tryd.f5 := (Option.some.inj (Tryd.func5.symm.trans hfn)).symm
      exact ⟨by kernel_rfl, fun j t ht => by
        rw [Tryd.params5] at ht
        have hm : t ∈ [9] := by simpa using Array.mem_of_getElem? ht
        have hall : ([9].all fun u => !Tryd.prog.wantsStandIn u) = true := by kernel_rfl
        exact (show Tryd.prog.wantsStandIn t = false by simpa using List.all_eq_true.1 hall t hm)⟩)
    (by kernel_rfl)
end Go.Proofs.YtneagomkohoceaaDoor.fnExactReadInstr
namespace Go.Proofs.YtneagomkohoceaaDoor
theorem fnExactReadInstr_holds : Rows.FnExactReadInstrCardSaid := fnExactReadInstr.card
#print axioms fnExactReadInstr_holds
end Go.Proofs.YtneagomkohoceaaDoor
