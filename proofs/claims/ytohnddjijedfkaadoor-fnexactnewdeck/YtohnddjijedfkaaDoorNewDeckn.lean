/- For every list of blocks the law FnExactNewDeck returns true: impl.NewDeck answers as spec.NewDeck, its answer is its own, and the list is as it was; the times of bits being as the program's text lays them. -/
import Derived.Test.YtohnddjijedfkaaDoorCards
import Derived.Test.YtohnddjijedfkaaDoorTie
import Derived.Test.YtohnddjijedfkaaDoorDon
import Derived.Test.YtohnddjijedfkaaDoorN49
import Derived.WalkKit
import Derived.ProofKit
import Derived.OpenShut
import Derived.ShutString
import Derived.ChangeOld
import Derived.Below
import Derived.LaidMore
import Derived.OpenVars
import Derived.SevenTiedAt
import Derived.Stop.Joined
import Derived.Lib.SmallJoins
namespace Go.Proofs.YtohnddjijedfkaaDoor.fnExactNewDeck
open Go.ChangeShapes Go.WideShapes Go.ChangeAt Go.RowKit Go.Joins
open Go.ChangeMaps (open_string shut_string)
set_option linter.unusedVariables false

theorem own : ownKnob Tryd.prog.godebug = none := by kernel_rfl
theorem laidOut : laidOutB Tryd.prog = true := by kernel_rfl

set_option maxRecDepth 100000 in
set_option maxHeartbeats 8000000 in
theorem walk (a0 : Option Addr) (c0 : Nat) (l0 : List (Int × ByteArray)) (w : World) (hR0 : BkR w a0 l0) (hm0 : l0.length ≤ maxLen) (hs0 : ∀ y ∈ l0, y.2.size ≤ maxLen) (hL : Tim w) :
    Calls Tryd.prog 4 #[.slice a0 l0.length c0] w fun e w' => e = .returned (.bool true) ∧ Below w.heap.size w w' := by
  have hgw : 0 < w.heap.size := World.block_lt_of_cell? w _ hL.1
  have hSp := hid (fun W a c (h : BkR W a l0) (hl : l0.length ≤ 1048576) => newd_spec a c l0 W h hl hs0)
  have hIm : Hid (∀ W, Below w.heap.size w W → ∀ a c, BkR W a l0 → l0.length ≤ 1048576 → Calls Tryd.prog 6 #[.slice a l0.length c] W fun e w' => ∃ v, e = .returned (.tuple #[dkV v (new2 l0).1, .int .i64 (new2 l0).2]) ∧ Grow W w' v (new2 l0).1.pulses) := fun W hb a c h hl => newd_impl a c l0 W h hl hs0 (hL.kept (hb.block _ hgw)) (Nat.lt_of_lt_of_le hgw hb.size)
  have hXn : (new2 l0).1.pulses.length ≤ 1048576 := by
    have := tp2_len l0
    unfold new2
    split
    · show (tp2 l0).1.length ≤ _
      omega
    · exact Nat.zero_le _
  obtain ⟨X, hX⟩ : ∃ X, (new2 l0).1 = X := ⟨_, rfl⟩
  obtain ⟨C1, hC1⟩ : ∃ C1, (new2 l0).2 = C1 := ⟨_, rfl⟩
  rw [hX, hC1] at hSp hIm
  rw [hX] at hXn
  clear hX hC1 hL hgw
  have hSz := hid (szbks a0 c0 l0 w hR0 hm0 hs0)
  have hA : Hid (∀ W', Below w.heap.size w W' → BkR W' a0 l0) := fun W' hb => hR0.below hb
  clear hR0
  go_enter Tryd.func4, Tryd.ntmps4
  go_wp2_with fail
  refine hSz.out.mono ?_
  rintro e w1 ⟨z, rfl, hz1, hb⟩
  have S1 := hid ((StD.nil w).below hb)
  replace hz1 := hid hz1
  clear hSz hb
  by_cases hz : z < 0
  · go_wp2
    go_ret
    exact ⟨rfl, S1.out.bel⟩
  have hl := hz1.out (by omega)
  have hTo := hid (fun W (h : BkR W a0 l0) => tobks a0 c0 l0 W h hl)
  clear hz1
  go_wp2_with fail
  refine (hTo.out _ (hA.out _ S1.out.bel)).mono ?_
  rintro e w2 ⟨rfl, hO, hb⟩
  have S2 := hid (S1.out.below hb)
  have hr2 := hid hO.read
  clear hO hb S1
  go_wp2_with fail
  refine (hSp.out _ _ _ hr2.out hl).mono ?_
  rintro e w3 ⟨v3, rfl, hG⟩
  have S3 := S2.out.row hG.bel (OwnI.of hG)
  obtain ⟨a3, c3, rfl⟩ := hG.form
  clear hG S2 hr2 hSp
  have S4 := S3.box #[.slice a3 X.pulses.length c3, .int .i64 X.index, .int .i64 X.left, .bool X.level, .bool X.plays] 27
  obtain ⟨bW, hbW⟩ : ∃ b, w3.heap.size = b := ⟨_, rfl⟩
  obtain ⟨W4, hW4⟩ : ∃ W, w3.alloc (.cells #[.slice a3 X.pulses.length c3, .int .i64 X.index, .int .i64 X.left, .bool X.level, .bool X.plays] 27) = W := ⟨_, rfl⟩
  rw [hbW, hW4] at S4
  clear S3
  go_upto_region 6 with fail
  (try rw [hbW])
  (try rw [hW4])
  clear hbW hW4
  replace S4 := hid S4
  go_wp2_with fail
  refine (hTo.out _ (hA.out _ S4.out.bel)).mono ?_
  rintro e w5 ⟨rfl, hO, hb⟩
  have S5 := S4.out.bko hb hO
  clear hO hb S4
  obtain ⟨g5, hg5⟩ : ∃ b, W4.heap.size = b := ⟨_, rfl⟩
  rw [hg5] at S5
  replace S5 := hid S5
  go_upto_region 7 with fail
  (try rw [hg5])
  clear hg5
  go_wp2_with fail
  refine (hIm.out _ S5.out.bel _ _ (S5.out.bkr 0 rfl) hl).mono ?_
  rintro e w7 ⟨v7, rfl, hG⟩
  have S7 := S5.out.row hG.bel (OwnI.of hG)
  obtain ⟨a7, c7, rfl⟩ := hG.form
  clear hG S5
  have S8 := S7.box #[.slice a7 X.pulses.length c7, .int .i64 X.index, .int .i64 X.left, .bool X.level, .bool X.plays] 27
  obtain ⟨bG, hbG⟩ : ∃ b, w7.heap.size = b := ⟨_, rfl⟩
  obtain ⟨W8, hW8⟩ : ∃ W, w7.alloc (.cells #[.slice a7 X.pulses.length c7, .int .i64 X.index, .int .i64 X.left, .bool X.level, .bool X.plays] 27) = W := ⟨_, rfl⟩
  rw [hbG, hW8] at S8
  clear S7
  go_upto_region 8 with fail
  (try rw [hbG])
  (try rw [hW8])
  clear hbG hW8
  replace S8 := hid S8
  have xG := (S8.out.at 0 rfl).cell
  have xW := (S8.out.at 3 rfl).cell
  go_wp2_with fail
  refine (eqd_yes _ _ X _ (S8.out.own 1 rfl) (S8.out.own 4 rfl) hXn).mono ?_
  rintro e w9 ⟨rfl, hb⟩
  have S9 := hid (S8.out.below hb)
  clear hb S8
  clear xG xW
  have xG := (S9.out.at 0 rfl).cell
  have xW := (S9.out.at 3 rfl).cell
  go_wp2_with fail
  refine (hTo.out _ (hA.out _ S9.out.bel)).mono ?_
  rintro e w10 ⟨rfl, hO, hb⟩
  have r10 := hid hO.read
  have S10 := hid (S9.out.below hb)
  clear hO hb S9 xG xW
  go_wp2_with fail
  refine (eqbks _ _ _ _ l0 _ (S10.out.bkr 2 rfl) r10.out hl).mono ?_
  rintro e w11 ⟨rfl, hb⟩
  have S11 := hid (S10.out.below hb)
  clear hb S10 r10
  go_wp2_with fail
  refine (markb g5 _ l0 _ (S11.out.at 2 rfl) hl).mono ?_
  rintro e w12 ⟨rfl, hm, ho⟩
  have S12 := hid (S11.out.markb 2 rfl hm ho)
  clear hm ho S11
  have xG := (S12.out.at 0 rfl).cell
  have xW := (S12.out.at 3 rfl).cell
  have hk9 : ¬ ((2 * l0.length + 1 : Nat) : Int) < 0 := by omega
  go_wp2_with fail
  refine (eqd_yes _ _ X _ (S12.out.own 1 rfl) (S12.out.own 4 rfl) hXn).mono ?_
  rintro e w13 ⟨rfl, hb⟩
  have S13 := hid (S12.out.below hb)
  clear hb S12
  clear xG xW
  have xG := (S13.out.at 0 rfl).cell
  have xW := (S13.out.at 3 rfl).cell
  go_wp2_with fail
  refine (markd _ X X.pulses _ (S13.out.sts.has 1 rfl) hXn).mono ?_
  rintro e w14 ⟨rfl, hm, ho⟩
  have S14 := hid (S13.out.mark 1 rfl hm ho)
  clear hm ho S13
  clear xG xW
  have xG := (S14.out.at 0 rfl).cell
  have xW := (S14.out.at 3 rfl).cell
  obtain ⟨k2, hk2⟩ : ∃ k2 : Int, 1 + (X.pulses.length : Int) = k2 := ⟨_, rfl⟩
  rw [hk2]
  have hk3 : ¬ k2 < 0 := by omega
  replace hk2 := hid hk2
  go_wp2_with fail
  refine (heldd _ X X.pulses.length _ (S14.out.own 1 rfl) hXn).mono ?_
  rintro e w15 ⟨rfl, hb⟩
  rw [hk2.out]
  have S15 := hid (S14.out.below hb)
  clear hb S14
  clear xG xW
  have xG := (S15.out.at 0 rfl).cell
  have xW := (S15.out.at 3 rfl).cell
  have hkk : (k2 != k2) = false := by simp
  go_wp2_with fail
  refine (hTo.out _ (hA.out _ S15.out.bel)).mono ?_
  rintro e w16 ⟨rfl, hO, hb⟩
  have S16 := hid (S15.out.below hb)
  have hr16 := hid hO.read
  clear hO hb S15 xG xW
  go_wp2_with fail
  refine (hIm.out _ S16.out.bel _ _ hr16.out hl).mono ?_
  rintro e w17 ⟨v17, rfl, hG⟩
  have S17 := S16.out.row hG.bel (OwnI.of hG)
  obtain ⟨a17, c17, rfl⟩ := hG.form
  clear hG S16 hr16 hIm
  have S18 := S17.box #[.slice a17 X.pulses.length c17, .int .i64 X.index, .int .i64 X.left, .bool X.level, .bool X.plays] 27
  obtain ⟨bH, hbH⟩ : ∃ b, w17.heap.size = b := ⟨_, rfl⟩
  obtain ⟨W18, hW18⟩ : ∃ W, w17.alloc (.cells #[.slice a17 X.pulses.length c17, .int .i64 X.index, .int .i64 X.left, .bool X.level, .bool X.plays] 27) = W := ⟨_, rfl⟩
  rw [hbH, hW18] at S18
  clear S17
  go_upto_region 25 with fail
  (try rw [hbH])
  (try rw [hW18])
  clear hbH hW18
  replace S18 := hid S18
  have xH := (S18.out.at 0 rfl).cell
  have xG := (S18.out.at 2 rfl).cell
  have xW := (S18.out.at 5 rfl).cell
  go_wp2_with fail
  refine (eqd_yes _ _ X _ (S18.out.own 1 rfl) (S18.out.own 6 rfl) hXn).mono ?_
  rintro e w19 ⟨rfl, hb⟩
  have S19 := hid (S18.out.below hb)
  clear hb S18
  clear xH xG xW
  have xH := (S19.out.at 0 rfl).cell
  have xG := (S19.out.at 2 rfl).cell
  have xW := (S19.out.at 5 rfl).cell
  go_wp2_with fail
  refine (heldd _ X X.pulses.length _ (S19.out.own 3 rfl) hXn).mono ?_
  rintro e w20 ⟨rfl, hb⟩
  rw [hk2.out]
  have hBe := hid (S19.out.below hb).bel
  clear hb S19 xH xG xW
  go_wp2
  go_ret
  exact ⟨rfl, hBe.out⟩

theorem door_met (os : Os) (args : Array Value) : laidMetH Tryd.prog Rows.fnExactNewDeckRow.laid ((World.doorLaid Tryd.prog 400 os).forCall (fun _ _ => 0) ⟨#[], args, []⟩).memory :=
  laidMetH_of_parts3 (fuel := 8) (laidMet_of_run' 8 (by kernel_rfl) (by kernel_rfl)) (by kernel_rfl) (by kernel_rfl)

set_option maxRecDepth 100000 in
theorem lifted (os : Os) (started : os.Started) (H : Type) (enc : TypeId × Value → H) :
    ReturnsInHanded {} Tryd.checked os 4 .any (fun w args => (Rows.fnExactNewDeckSpec.pre enc Tryd.prog Tryd.f4 [] false w args ∧ laidMetH Tryd.prog Rows.fnExactNewDeckRow.laid w) ∧ sizedMet enc Tryd.prog Tryd.f4 (OpenSpec.ofChange Rows.fnExactNewDeckSpec) false w args)
      (Rows.fnExactNewDeckSpec.post enc Tryd.prog Tryd.f4 false true false false) := by
  refine returnsInHanded_of_change_and (C := Tryd.checked) (X := fun w _ => laidMetH Tryd.prog Rows.fnExactNewDeckRow.laid w) (fun _ _ _ hh h => h.of_heap hh) own started (by kernel_rfl) Tryd.func4
    (ChangeSpec.witness_shaped (enc := enc) (C := Tryd.checked) (os := os) (X := fun w _ => laidMetH Tryd.prog Rows.fnExactNewDeckRow.laid w) false (World.doorLaid Tryd.prog 400 os) #[.slice none 0 0] 8 rfl (World.shaped_of_RefB (by kernel_rfl) (by kernel_rfl)) (by kernel_rfl) (by kernel_rfl) (by kernel_rfl) (door_met os _)) ?_
  intro W base args ds gs before hval0 hW _ _ hL _
  have hval : ∀ (j : Nat) t v, Tryd.f4.params[j]? = some t → args[j]? = some v → Value.okWide Tryd.prog W .any base t v := hval0
  have hW' := hW
  obtain ⟨p, q, hA0, hV, hbefore, hfz, hnd⟩ := hW
  have hA : DataW.TrodAll enc Tryd.prog W 0 (fun _ => true) true Tryd.f4.params.toList args.toList ds p := hA0
  rw [Tryd.params4] at hA hval
  obtain ⟨v0, vs0, d0, ds0, p0, q0, hargs, rfl, rfl, h0, r0⟩ := trodAll_cons hA
  obtain ⟨rfl, rfl, rfl⟩ := trodAll_nil r0
  obtain rfl : args = #[v0] := by cases args; simp_all
  obtain ⟨g0, rfl⟩ := vars1_form hV
  have k0 := h0
  have lt0 : ∀ x ∈ p0, x.block < W.heap.size := by obtain ⟨m, hm⟩ := k0; exact DataW.trod_lt m _ _ _ hm
  obtain ⟨a0, ll, c0, rfl⟩ := okWide_slice Tryd.underlying39 (hval 0 39 v0 rfl rfl)
  obtain ⟨fuel0, hf0⟩ := h0
  obtain ⟨aa, cc, l0, hv0, hR0, hm0, hs0⟩ := blocks_in Tryd.underlying39 Tryd.underlying61 (by kernel_rfl) (by kernel_rfl) Tryd.underlying3 Tryd.underlying9 (by simpa [Value.cells] using hf0)
  obtain ⟨rfl, rfl, rfl⟩ : a0 = aa ∧ ll = l0.length ∧ c0 = cc := by simpa using hv0
  clear hA0 hval0
  refine (walk a0 c0 l0 W hR0 hm0 hs0 (tim_of hL)).mono fun e W' ⟨he, bel⟩ => ?_
  subst he
  exact ⟨_, rfl, _, _, _, [], _, _, hW', trodAll_mk1 (shut_bool Tryd.underlying4 _), (trodAll_cons_mk (Below.trod laidOut (by kernel_rfl) (of_decide_eq_true (by kernel_rfl)) k0 bel lt0) trodAll_mk0), Below.trodVars laidOut bel (by kernel_rfl) hV, bel.frame _, fun h => by cases h⟩

theorem said : Rows.FnExactNewDeckSaid :=
  OpenClaim.holds_of_wide 4 Tryd.f4 rfl rfl rfl rfl rfl rfl rfl ⟨rfl, rfl, rfl, rfl, rfl⟩ rfl rfl rfl rfl rfl (by kernel_rfl) Tryd.func4 (by kernel_rfl)
    (of_decide_eq_true (by kernel_rfl)) (by unfold Func.isWrapper; first | (rw [if_pos (by decide +kernel)]; kernel_rfl) | (rw [if_neg (by decide +kernel)]; exact ⟨rfl, rfl⟩))
    (fun os started H enc _ => lifted os started H enc)

theorem card : Rows.FnExactNewDeckCardSaid :=
  Claim7.holds_tied_plain_at .later [] _ _ _ _ said (fun _ h => by cases h) (by kernel_rfl) (fun _ h => by cases h) fnExactNewDeck_row_tie rfl ⟨rfl, rfl⟩ (by kernel_rfl) rfl
    (fun f fn hf hfn => by
      obtain rfl : f = 4 := Option.some.inj ((show Tryd.prog.funcNamed "loop.example/g00644/laws.FnExactNewDeck" = some 4 by kernel_rfl).symm.trans hf) |>.symm
      obtain rfl : fn = Tryd.f4 := (Option.some.inj (Tryd.func4.symm.trans hfn)).symm
      exact ⟨by kernel_rfl, fun j t ht => by
        rw [Tryd.params4] at ht
        have hm : t ∈ [39] := by simpa using Array.mem_of_getElem? ht
        have hall : ([39].all fun u => !Tryd.prog.wantsStandIn u) = true := by kernel_rfl
        exact (show Tryd.prog.wantsStandIn t = false by simpa using List.all_eq_true.1 hall t hm)⟩)
    (by kernel_rfl)
end Go.Proofs.YtohnddjijedfkaaDoor.fnExactNewDeck
namespace Go.Proofs.YtohnddjijedfkaaDoor
theorem fnExactNewDeck_holds : Rows.FnExactNewDeckCardSaid := fnExactNewDeck.card
#print axioms fnExactNewDeck_holds
end Go.Proofs.YtohnddjijedfkaaDoor
