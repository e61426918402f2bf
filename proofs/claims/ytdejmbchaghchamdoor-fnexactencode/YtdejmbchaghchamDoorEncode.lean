/- For every instruction the law FnExactEncode returns true: impl.Encode answers as spec.Encode, and its answer owns its memory, the table of kinds being as the program's text lays it. -/
import Derived.Test.YtdejmbchaghchamDoorCards
import Derived.Test.YtdejmbchaghchamDoorTie
import Derived.Test.YtdejmbchaghchamDoorBase
import Derived.Test.YtdejmbchaghchamDoorIn
import Derived.Test.YtdejmbchaghchamDoorBl
import Derived.Test.YtdejmbchaghchamDoorMa
import Derived.Test.YtdejmbchaghchamDoorMb
import Derived.Test.YtdejmbchaghchamDoorIa
import Derived.Test.YtdejmbchaghchamDoorIc
import Derived.Test.YtdejmbchaghchamDoorKa
import Derived.Test.YtdejmbchaghchamDoorKb
import Derived.Test.YtdejmbchaghchamDoorKc
import Derived.Test.YtdejmbchaghchamDoorKe
import Derived.Test.YtdejmbchaghchamDoorKg
import Derived.Test.YtdejmbchaghchamDoorKh
import Derived.WalkKit
import Derived.ProofKit
import Derived.OpenShut
import Derived.ShutString
import Derived.ChangeOld
import Derived.Below
import Derived.LaidMore
import Derived.OpenVars
import Derived.SevenTiedAt
import Derived.Stop.Joined
import Derived.Lib.SmallJoins
import Derived.OpenVars
namespace Go.Proofs.YtdejmbchaghchamDoor.fnExactEncode
open Go.ChangeShapes Go.WideShapes Go.ChangeAt Go.RowKit Go.Joins
open Go.ChangeMaps (open_string shut_string)
set_option linter.unusedVariables false

theorem own : ownKnob Tryd.prog.godebug = none := by kernel_rfl
theorem laidOut : laidOutB Tryd.prog = true := by kernel_rfl

set_option maxRecDepth 100000 in
set_option maxHeartbeats 2000000 in
theorem walk (o a b n l : Int) (w : World) (w0 : (Lit.int .i64 o).wf = true ∧ (Lit.int .i64 a).wf = true ∧ (Lit.int .i64 b).wf = true ∧ (Lit.int .i64 n).wf = true ∧ (Lit.int .i64 l).wf = true) (hL : Kinds w) :
    Calls Tryd.prog 4 #[insV o a b n l] w fun e w' => e = .returned (.bool true) ∧ Below w.heap.size w w' := by
  have hb0 := hid ((Below.refl w.heap.size w).alloc (Nat.le_refl _) (.cells (insA o a b n l) 31))
  have hq0 := hid (Blk.new w (insA o a b n l) 31)
  have hk0 := hid hL
  have hlen := encR_len o a b n l
  obtain ⟨C, hC⟩ : ∃ C, okC o a b n l = C := ⟨_, rfl⟩
  obtain ⟨zs, hzs⟩ : ∃ z, encR o a b n l = z := ⟨_, rfl⟩
  rw [hzs] at hlen
  replace hC := hid hC
  replace hzs := hid hzs
  clear hL
  go_enter Tryd.func4, Tryd.ntmps4
  go_wp2_with fail
  refine (toi _ _ _ _ _ _).mono ?_
  rintro e v1 ⟨rfl, hb⟩
  have hb1 := hid (new_trans hb0.out hb)
  have hq1 := hid (hq0.out.below hb hq0.out.lt)
  clear hb hb0 hq0
  go_wp2_with fail
  refine (enc_spec _ _ _ _ _ _).mono ?_
  rintro e v2 ⟨u0, rfl, hA, hb⟩
  rw [hC.out]
  rw [hzs.out] at hA
  have R0 := hid hA.reads
  have hb2 := hid (new_trans hb1.out hb)
  have hq2 := hid (hq1.out.below hb hq1.out.lt)
  clear hb hb1 hq1 hA
  have x2 := hq2.out.cell
  go_wp2_with fail
  clear x2
  refine (toi _ _ _ _ _ _).mono ?_
  rintro e v3 ⟨rfl, hb⟩
  have hb3 := hid (new_trans hb2.out hb)
  have hq3 := hid (hq2.out.below hb hq2.out.lt)
  have B3 := hid hb
  clear hb hb2 hq2
  go_wp2_with fail
  refine (enc_impl _ _ _ _ _ _ (hk0.out.below hb3.out)).mono ?_
  rintro e v4 ⟨u1, rfl, hA, hb⟩
  rw [hC.out]
  rw [hzs.out] at hA
  have A4 := hid hA
  have hb4 := hid (new_trans hb3.out hb)
  have hq4 := hid (hq3.out.below hb hq3.out.lt)
  have B4 := hid (new_trans B3.out hb)
  have z43 := hid hb.size
  have z3 := hid (hb3.out.size)
  have q3 := hid hq3.out.lt
  clear hb hb3 hq3 hA
  go_wp2_with fail
  refine (eqr_yes _ _ zs _ A4.out.reads (R0.out.below B4.out) (by omega)).mono ?_
  rintro e v4' ⟨rfl, n4, rfl⟩
  go_wp2_with fail
  refine (markA _ v3.heap.size 1 zs _ (show RowA (v4.drewN n4) v3.heap.size u1 zs from A4.out) (show v3.heap.size ≤ (v4.drewN n4).heap.size from z43.out) (by omega) (by omega) (by omega)).mono ?_
  rintro e v5 ⟨rfl, hA, hb⟩
  have A5 := hid hA
  have hb5 := hid ((hb4.out.trans (belD _ _ n4)).trans (hb.mono z3.out))
  have hq5 := hid (Blk.below (w := v4.drewN n4) hq4.out hb q3.out)
  have B5 := hid ((B4.out.trans (belD _ _ n4)).trans (hb.mono B3.out.size))
  clear hb hb4 hq4 hA A4 B4 z43
  go_wp2_with fail
  refine (heldr _ 1 zs.length _ A5.out.reads (by omega) (by omega) (by omega)).mono ?_
  rintro e v5' ⟨rfl, hww⟩
  obtain rfl := hww.symm
  have x5 := hq5.out.cell
  go_wp2_with fail
  clear x5
  refine (toi _ _ _ _ _ _).mono ?_
  rintro e v6 ⟨rfl, hb⟩
  have hb6 := hid (new_trans hb5.out hb)
  have B6 := hid (B5.out.trans (hb.mono B5.out.size))
  have C6 := hid hb
  clear hb hb5 hq5 B5
  go_wp2_with fail
  refine (enc_impl _ _ _ _ _ _ (hk0.out.below hb6.out)).mono ?_
  rintro e v7 ⟨u2, rfl, hA, hb⟩
  rw [hC.out]
  rw [hzs.out] at hA
  have R7 := hid hA.reads
  have hb7 := hid (new_trans hb6.out hb)
  have B7 := hid (B6.out.trans (hb.mono B6.out.size))
  have C7 := hid (new_trans C6.out hb)
  clear hb hb6 B6 C6 hA
  go_wp2_with fail
  refine (eqr_yes _ _ zs _ R7.out (R0.out.below B7.out) (by omega)).mono ?_
  rintro e v7' ⟨rfl, n7, rfl⟩
  go_wp2_with fail
  refine (heldr _ 1 zs.length _ (RowR.drewN (A5.out.reads.below C7.out) n7) (by omega) (by omega) (by omega)).mono ?_
  rintro e v7'' ⟨rfl, hww⟩
  obtain rfl := hww.symm
  go_wp2
  go_ret
  exact ⟨rfl, hb7.out.trans (belD _ _ n7)⟩

theorem door_met (os : Os) (args : Array Value) : laidMetH Tryd.prog Rows.fnExactEncodeRow.laid ((World.doorLaid Tryd.prog 400 os).forCall (fun _ _ => 0) ⟨#[], args, []⟩).memory :=
  laidMetH_of_parts3 (fuel := 8) (laidMet_of_run' 8 (by kernel_rfl) (by kernel_rfl)) (by kernel_rfl) (by kernel_rfl)

set_option maxRecDepth 100000 in
theorem lifted (os : Os) (started : os.Started) (H : Type) (enc : TypeId × Value → H) :
    ReturnsInHanded {} Tryd.checked os 4 .any (fun w args => (Rows.fnExactEncodeSpec.pre enc Tryd.prog Tryd.f4 [] false w args ∧ laidMetH Tryd.prog Rows.fnExactEncodeRow.laid w) ∧ sizedMet enc Tryd.prog Tryd.f4 (OpenSpec.ofChange Rows.fnExactEncodeSpec) false w args)
      (Rows.fnExactEncodeSpec.post enc Tryd.prog Tryd.f4 false true false false) := by
  refine returnsInHanded_of_change_and (C := Tryd.checked) (X := fun w _ => laidMetH Tryd.prog Rows.fnExactEncodeRow.laid w) (fun _ _ _ hh h => h.of_heap hh) own started (by kernel_rfl) Tryd.func4
    (ChangeSpec.witness_shaped (enc := enc) (C := Tryd.checked) (os := os) (X := fun w _ => laidMetH Tryd.prog Rows.fnExactEncodeRow.laid w) false (World.doorLaid Tryd.prog 400 os) #[insV 0 0 0 0 0] 8 rfl (World.shaped_of_RefB (by kernel_rfl) (by kernel_rfl)) (by kernel_rfl) (by kernel_rfl) (by kernel_rfl) (door_met os _)) ?_
  intro W base args ds gs before hval0 hW _ _ hL _
  have hval : ∀ (j : Nat) t v, Tryd.f4.params[j]? = some t → args[j]? = some v → Value.okWide Tryd.prog W .any base t v := hval0
  have hW' := hW
  obtain ⟨p, q, hA0, hV, hbefore, hfz, hnd⟩ := hW
  have hA : DataW.TrodAll enc Tryd.prog W 0 (fun _ => true) true Tryd.f4.params.toList args.toList ds p := hA0
  rw [Tryd.params4] at hA hval
  obtain ⟨v0, vs0, d0, ds0, p0, q0, hargs, rfl, rfl, h0, r0⟩ := trodAll_cons hA
  obtain ⟨rfl, rfl, rfl⟩ := trodAll_nil r0
  obtain rfl : args = #[v0] := by cases args; simp_all
  obtain ⟨g0, rfl⟩ := vars1_form hV
  have k0 := h0
  have lt0 : ∀ x ∈ p0, x.block < W.heap.size := by obtain ⟨m, hm⟩ := k0; exact DataW.trod_lt m _ _ _ hm
  obtain ⟨o, a, b, n, l, rfl, w0⟩ := five_in Tryd.underlying31 (by kernel_rfl) (by kernel_rfl) Tryd.underlying3 Tryd.underlying3 Tryd.underlying3 Tryd.underlying3 Tryd.underlying3 (hval 0 31 v0 rfl rfl) h0
  clear hA0 hval0
  refine (walk o a b n l W w0 (kinds_of hL)).mono fun e W' ⟨he, bel⟩ => ?_
  subst he
  exact ⟨_, rfl, _, _, _, [], _, _, hW', trodAll_mk1 (shut_bool Tryd.underlying4 _), (trodAll_cons_mk (Below.trod laidOut (by kernel_rfl) (of_decide_eq_true (by kernel_rfl)) k0 bel lt0) trodAll_mk0), Below.trodVars laidOut bel (by kernel_rfl) hV, bel.frame _, fun h => by cases h⟩

theorem said : Rows.FnExactEncodeSaid :=
  OpenClaim.holds_of_wide 4 Tryd.f4 rfl rfl rfl rfl rfl rfl rfl ⟨rfl, rfl, rfl, rfl, rfl⟩ rfl rfl rfl rfl rfl (by kernel_rfl) Tryd.func4 (by kernel_rfl)
    (of_decide_eq_true (by kernel_rfl)) (by unfold Func.isWrapper; first | (rw [if_pos (by decide +kernel)]; kernel_rfl) | (rw [if_neg (by decide +kernel)]; exact ⟨rfl, rfl⟩))
    (fun os started H enc _ => lifted os started H enc)

theorem card : Rows.FnExactEncodeCardSaid :=
  Claim7.holds_tied_plain_at .later [] _ _ _ _ said (fun _ h => by cases h) (by kernel_rfl) (fun _ h => by cases h) fnExactEncode_row_tie rfl ⟨rfl, rfl⟩ (by kernel_rfl) rfl
    (fun f fn hf hfn => by
      obtain rfl : f = 4 := Option.some.inj ((show Tryd.prog.funcNamed "loop.example/g00644/laws.FnExactEncode" = some 4 by kernel_rfl).symm.trans hf) |>.symm
      obtain rfl : fn = Tryd.f4 := (Option.some.inj (Tryd.func4.symm.trans hfn)).symm
      exact ⟨by kernel_rfl, fun j t ht => by
        rw [Tryd.params4] at ht
        have hm : t ∈ [31] := by simpa using Array.mem_of_getElem? ht
        have hall : ([31].all fun u => !Tryd.prog.wantsStandIn u) = true := by kernel_rfl
        exact (show Tryd.prog.wantsStandIn t = false by simpa using List.all_eq_true.1 hall t hm)⟩)
    (by kernel_rfl)
end Go.Proofs.YtdejmbchaghchamDoor.fnExactEncode
namespace Go.Proofs.YtdejmbchaghchamDoor
theorem fnExactEncode_holds : Rows.FnExactEncodeCardSaid := fnExactEncode.card
#print axioms fnExactEncode_holds
end Go.Proofs.YtdejmbchaghchamDoor
