/- For every list of numbers the law FnExactDecode returns true: impl.Decode answers as spec.Decode and does not change the list, the table of kinds being as the program's text lays it. -/
import Derived.Test.YtdejmbchaghchamDoorCards
import Derived.Test.YtdejmbchaghchamDoorTie
import Derived.Test.YtdejmbchaghchamDoorBase
import Derived.Test.YtdejmbchaghchamDoorIn
import Derived.Test.YtdejmbchaghchamDoorBl
import Derived.Test.YtdejmbchaghchamDoorMa
import Derived.Test.YtdejmbchaghchamDoorMb
import Derived.Test.YtdejmbchaghchamDoorMf
import Derived.Test.YtdejmbchaghchamDoorIa
import Derived.Test.YtdejmbchaghchamDoorIb
import Derived.Test.YtdejmbchaghchamDoorIc
import Derived.Test.YtdejmbchaghchamDoorKa
import Derived.Test.YtdejmbchaghchamDoorKb
import Derived.Test.YtdejmbchaghchamDoorKc
import Derived.Test.YtdejmbchaghchamDoorKe
import Derived.Test.YtdejmbchaghchamDoorKf
import Derived.Test.YtdejmbchaghchamDoorKh
import Derived.WalkKit
import Derived.ProofKit
import Derived.OpenShut
import Derived.ShutString
import Derived.ChangeOld
import Derived.Below
import Derived.LaidMore
import Derived.OpenVars
import Derived.SevenTiedAt
import Derived.Stop.Joined
import Derived.Lib.SmallJoins
import Derived.OpenVars
namespace Go.Proofs.YtdejmbchaghchamDoor.fnExactDecode
open Go.ChangeShapes Go.WideShapes Go.ChangeAt Go.RowKit Go.Joins
open Go.ChangeMaps (open_string shut_string)
set_option linter.unusedVariables false

theorem own : ownKnob Tryd.prog.godebug = none := by kernel_rfl
theorem laidOut : laidOutB Tryd.prog = true := by kernel_rfl

set_option maxRecDepth 100000 in
set_option maxHeartbeats 2000000 in
theorem walk (a0 : Option Addr) (len0 cap0 : Nat) (zs : List Int) (w : World) (w0 : RowR w (.slice a0 len0 cap0) zs ∧ zs.length ≤ maxLen) (hL : Kinds w) :
    Calls Tryd.prog 3 #[.slice a0 len0 cap0] w fun e w' => e = .returned (.bool true) ∧ Below w.heap.size w w' := by
  obtain ⟨hr, hm⟩ := w0
  obtain rfl : len0 = zs.length := by
    obtain ⟨a, c, e, _⟩ := hr
    injection e
  unfold maxLen at hm
  replace hr := hid hr
  by_cases hlen : 1048576 < zs.length
  · go_enter Tryd.func3, Tryd.ntmps3
    go_wp2
    go_ret
    exact ⟨rfl, Below.refl _ _⟩
  replace hL := hid hL
  obtain ⟨o, a, b, n, l, c, hd⟩ : ∃ o a b n l c, dec2 zs = .tuple #[insV o a b n l, .int .i64 c] := by
    unfold dec2
    split
    · exact ⟨_, _, _, _, _, _, rfl⟩
    · exact ⟨_, _, _, _, _, _, rfl⟩
  replace hd := hid hd
  go_enter Tryd.func3, Tryd.ntmps3
  go_wp2_with fail
  refine (tor _ zs _ hr.out (by omega)).mono ?_
  rintro e v1 ⟨u1, rfl, ho, hb⟩
  have hb1 := hid hb
  have R1 := hid ho.reads
  clear hb ho
  go_wp2_with fail
  refine (dec_spec _ zs _ R1.out (by omega)).mono ?_
  rintro e v2 ⟨rfl, hb⟩
  rw [hd.out]
  have hb2 := hid (new_trans hb1.out hb)
  clear hb hb1 R1
  have hb2' := hid (hb2.out.alloc hb2.out.size (.cells (insA o a b n l) 24))
  have hq2 := hid (Blk.new v2 (insA o a b n l) 24)
  go_wp2_with fail
  refine (tor _ zs _ (hr.out.below hb2'.out) (by omega)).mono ?_
  rintro e v3 ⟨u3, rfl, ho, hb⟩
  have hb3 := hid (new_trans hb2'.out hb)
  have hq3 := hid (hq2.out.below hb hq2.out.lt)
  have R3 := hid ho.reads
  clear hb hb2 hb2' hq2 ho
  go_wp2_with fail
  refine (dec_impl _ zs _ (hL.out.below hb3.out) R3.out (by omega)).mono ?_
  rintro e v4 ⟨rfl, hb⟩
  rw [hd.out]
  have hb4 := hid (new_trans hb3.out hb)
  have hq4 := hid (hq3.out.below hb hq3.out.lt)
  have R4 := hid (R3.out.below hb)
  clear hb hb3 hq3 R3
  have hb4' := hid (hb4.out.alloc hb4.out.size (.cells (insA o a b n l) 24))
  have x4 := hq4.out.cell
  have z4 := hq4.out.lt
  have s4 := hb4.out.size
  go_wp2_with fail
  clear x4 z4 s4
  refine (eqi_yes _ _ _ _ _ _).mono ?_
  rintro e v5 ⟨rfl, hb⟩
  have hb5 := hid (new_trans hb4'.out hb)
  have R5 := hid ((R4.out.below ((Below.refl _ _).alloc (Nat.le_refl _) (.cells (insA o a b n l) 24))).below hb)
  clear hb hb4 hb4' hq4 R4
  go_wp2_with fail
  refine (tor _ zs _ (hr.out.below hb5.out) (by omega)).mono ?_
  rintro e v6 ⟨u6, rfl, ho, hb⟩
  have hb6 := hid (new_trans hb5.out hb)
  have R6 := hid ho.reads
  have R6' := hid (R5.out.below hb)
  clear hb hb5 R5 ho
  go_wp2_with fail
  refine (eqr_yes _ _ zs _ R6'.out R6.out (by omega)).mono ?_
  rintro e v7 ⟨rfl, n7, rfl⟩
  go_wp2
  go_ret
  exact ⟨rfl, hb6.out.trans (belD _ _ n7)⟩

theorem door_met (os : Os) (args : Array Value) : laidMetH Tryd.prog Rows.fnExactDecodeRow.laid ((World.doorLaid Tryd.prog 400 os).forCall (fun _ _ => 0) ⟨#[], args, []⟩).memory :=
  laidMetH_of_parts3 (fuel := 8) (laidMet_of_run' 8 (by kernel_rfl) (by kernel_rfl)) (by kernel_rfl) (by kernel_rfl)

set_option maxRecDepth 100000 in
theorem lifted (os : Os) (started : os.Started) (H : Type) (enc : TypeId × Value → H) :
    ReturnsInHanded {} Tryd.checked os 3 .any (fun w args => (Rows.fnExactDecodeSpec.pre enc Tryd.prog Tryd.f3 [] false w args ∧ laidMetH Tryd.prog Rows.fnExactDecodeRow.laid w) ∧ sizedMet enc Tryd.prog Tryd.f3 (OpenSpec.ofChange Rows.fnExactDecodeSpec) false w args)
      (Rows.fnExactDecodeSpec.post enc Tryd.prog Tryd.f3 false true false false) := by
  refine returnsInHanded_of_change_and (C := Tryd.checked) (X := fun w _ => laidMetH Tryd.prog Rows.fnExactDecodeRow.laid w) (fun _ _ _ hh h => h.of_heap hh) own started (by kernel_rfl) Tryd.func3
    (ChangeSpec.witness_shaped (enc := enc) (C := Tryd.checked) (os := os) (X := fun w _ => laidMetH Tryd.prog Rows.fnExactDecodeRow.laid w) false (World.doorLaid Tryd.prog 400 os) #[.slice none 0 0] 8 rfl (World.shaped_of_RefB (by kernel_rfl) (by kernel_rfl)) (by kernel_rfl) (by kernel_rfl) (by kernel_rfl) (door_met os _)) ?_
  intro W base args ds gs before hval0 hW _ _ hL _
  have hval : ∀ (j : Nat) t v, Tryd.f3.params[j]? = some t → args[j]? = some v → Value.okWide Tryd.prog W .any base t v := hval0
  have hW' := hW
  obtain ⟨p, q, hA0, hV, hbefore, hfz, hnd⟩ := hW
  have hA : DataW.TrodAll enc Tryd.prog W 0 (fun _ => true) true Tryd.f3.params.toList args.toList ds p := hA0
  rw [Tryd.params3] at hA hval
  obtain ⟨v0, vs0, d0, ds0, p0, q0, hargs, rfl, rfl, h0, r0⟩ := trodAll_cons hA
  obtain ⟨rfl, rfl, rfl⟩ := trodAll_nil r0
  obtain rfl : args = #[v0] := by cases args; simp_all
  obtain ⟨g0, rfl⟩ := vars1_form hV
  have k0 := h0
  have lt0 : ∀ x ∈ p0, x.block < W.heap.size := by obtain ⟨m, hm⟩ := k0; exact DataW.trod_lt m _ _ _ hm
  obtain ⟨a0, len0, cap0, rfl⟩ := okWide_slice Tryd.underlying22 (hval 0 22 v0 rfl rfl)
  obtain ⟨fuel, hf⟩ := h0
  obtain ⟨zs, w0⟩ := ints_in Tryd.underlying22 Tryd.underlying3 (by kernel_rfl) (by simpa [Value.cells] using hf)
  clear hA0 hval0
  refine (walk a0 len0 cap0 zs W w0 (kinds_of hL)).mono fun e W' ⟨he, bel⟩ => ?_
  subst he
  exact ⟨_, rfl, _, _, _, [], _, _, hW', trodAll_mk1 (shut_bool Tryd.underlying4 _), (trodAll_cons_mk (Below.trod laidOut (by kernel_rfl) (of_decide_eq_true (by kernel_rfl)) k0 bel lt0) trodAll_mk0), Below.trodVars laidOut bel (by kernel_rfl) hV, bel.frame _, fun h => by cases h⟩

theorem said : Rows.FnExactDecodeSaid :=
  OpenClaim.holds_of_wide 3 Tryd.f3 rfl rfl rfl rfl rfl rfl rfl ⟨rfl, rfl, rfl, rfl, rfl⟩ rfl rfl rfl rfl rfl (by kernel_rfl) Tryd.func3 (by kernel_rfl)
    (of_decide_eq_true (by kernel_rfl)) (by unfold Func.isWrapper; first | (rw [if_pos (by decide +kernel)]; kernel_rfl) | (rw [if_neg (by decide +kernel)]; exact ⟨rfl, rfl⟩))
    (fun os started H enc _ => lifted os started H enc)

theorem card : Rows.FnExactDecodeCardSaid :=
  Claim7.holds_tied_plain_at .later [] _ _ _ _ said (fun _ h => by cases h) (by kernel_rfl) (fun _ h => by cases h) fnExactDecode_row_tie rfl ⟨rfl, rfl⟩ (by kernel_rfl) rfl
    (fun f fn hf hfn => by
      obtain rfl : f = 3 := Option.some.inj ((show Tryd.prog.funcNamed "loop.example/g00644/laws.FnExactDecode" = some 3 by kernel_rfl).symm.trans hf) |>.symm
      obtain rfl : fn = Tryd.f3 := (Option.some.inj (Tryd.func3.symm.trans hfn)).symm
      exact ⟨by kernel_rfl, fun j t ht => by
        rw [Tryd.params3] at ht
        have hm : t ∈ [22] := by simpa using Array.mem_of_getElem? ht
        have hall : ([22].all fun u => !Tryd.prog.wantsStandIn u) = true := by kernel_rfl
        exact (show Tryd.prog.wantsStandIn t = false by simpa using List.all_eq_true.1 hall t hm)⟩)
    (by kernel_rfl)
end Go.Proofs.YtdejmbchaghchamDoor.fnExactDecode
namespace Go.Proofs.YtdejmbchaghchamDoor
theorem fnExactDecode_holds : Rows.FnExactDecodeCardSaid := fnExactDecode.card
#print axioms fnExactDecode_holds
end Go.Proofs.YtdejmbchaghchamDoor
