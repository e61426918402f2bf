/- For every text the law FnExactReadTap returns true: impl.ReadTap answers as spec.ReadTap, its answer owns its memory, behind another call too; the errors of the cursor and of blocks being as the program's text lays them. -/
import Derived.Test.YtakdhmlegickmaaDoorCards
import Derived.Test.YtakdhmlegickmaaDoorTie
import Derived.Test.YtakdhmlegickmaaDoorZe
import Derived.Test.YtakdhmlegickmaaDoorZs
import Derived.Test.YtakdhmlegickmaaDoorZn
import Derived.Test.YtakdhmlegickmaaDoorZl
import Derived.Test.YtakdhmlegickmaaDoorZq
import Derived.WalkKit
import Derived.ProofKit
import Derived.OpenShut
import Derived.ShutString
import Derived.ChangeOld
import Derived.Below
import Derived.LaidMore
import Derived.OpenVars
import Derived.SevenTiedAt
import Derived.Stop.Joined
import Derived.Lib.SmallJoins
namespace Go.Proofs.YtakdhmlegickmaaDoor.fnExactReadTap
open Go.ChangeShapes Go.WideShapes Go.ChangeAt Go.RowKit Go.Joins
open Go.ChangeMaps (open_string shut_string)
set_option linter.unusedVariables false

theorem own : ownKnob Tryd.prog.godebug = none := by kernel_rfl
theorem laidOut : laidOutB Tryd.prog = true := by kernel_rfl

set_option maxRecDepth 100000 in
set_option maxHeartbeats 4000000 in
theorem walk (a0 : ByteArray) (w : World) (w0 : a0.size ≤ maxLen) (hL : ∃ e0 e1 e2 e3 e4 e5, Err6 w e0 e1 e2 e3 e4 e5) :
    Calls Tryd.prog 5 #[.string a0] w fun e w' => e = .returned (.bool true) ∧ Below w.heap.size w w' := by
  obtain ⟨e0, e1, e2, e3, e4, e5, hE⟩ := hL
  have hm := w0
  unfold maxLen at hm
  by_cases h1 : 1048576 < a0.size
  · go_enter Tryd.func5, Tryd.ntmps5
    go_wp2
    go_ret
    exact ⟨rfl, Below.refl _ _⟩
  have hSp := hid (readtap_spec a0 w w0)
  have hIm := hid (fun W (h : Err6 W e0 e1 e2 e3 e4 e5) => readtap_impl a0 e0 e1 e2 e3 e4 e5 W w0 h)
  have hlen := rd2_len a0
  obtain ⟨Z, hZ⟩ : ∃ Z, rd2 a0 = Z := ⟨_, rfl⟩
  rw [hZ] at hSp hIm hlen
  clear hZ
  obtain ⟨l, c⟩ := Z
  simp only at hlen
  have hl20 : l.length ≤ 1048576 := by omega
  replace hE := hid hE
  go_enter Tryd.func5, Tryd.ntmps5
  go_wp2_with fail
  refine hSp.out.mono ?_
  rintro e w1 ⟨v3, rfl, ho3, hb1⟩
  obtain ⟨a3, c3, hv3, hR3⟩ := (mks_of ho3).read
  have hlt3 : Hid (∀ (g o : Nat), a3 = some ⟨g, o, none⟩ → 0 < l.length → g < w1.heap.size) := fun g o e hk => by
    obtain ⟨g', o', e', c1, _⟩ := hR3.at hk
    rw [e] at e'
    obtain ⟨rfl, _⟩ : g = g' ∧ o = o' := by simpa using e'
    exact World.block_lt_of_cell? w1 _ c1
  subst hv3
  have hB1 := hid hb1
  replace hR3 := hid hR3
  clear ho3 hb1 hSp
  go_wp2_with fail
  refine (hIm.out _ (hE.out.below hB1.out)).mono ?_
  rintro e w2 ⟨v5, rfl, ho5, hb2⟩
  have hM5 := mks_of ho5
  have hB2 := hid (new_trans hB1.out hb2)
  have hR32 := hid (hR3.out.below hb2)
  have hs2 := hb2.size
  obtain ⟨a5, c5, hv5, hR5⟩ := hM5.read
  replace hM5 := hid hM5
  replace hR5 := hid hR5
  clear ho5 hb2 hR3
  subst hv5
  go_wp2_with fail
  refine (eqbks a5 a3 c5 c3 l _ hR5.out hR32.out hl20).mono ?_
  rintro e w3 ⟨rfl, hb3⟩
  have hB3 := hid (new_trans hB2.out hb3)
  have hR33 := hid (hR32.out.below hb3)
  have hM53 := hid (hM5.out.below hb3)
  have hs3 := hb3.size
  clear hb3 hR32 hM5 hR5
  -- the answer is marked
  have hmk : Hid (Calls Tryd.prog 26 #[.slice a5 l.length c5, .int .i64 1] w3 fun e w' => e = .returned (.int .i64 ((2 * l.length + 1 : Nat) : Int)) ∧ BkR w' a5 (mkB l l.length) ∧ BkR w' a3 l ∧ Below w.heap.size w w') := by
    rcases hM53.out with ⟨hl0, a9, c9, hv⟩ | ⟨g, c9, hv, hg, hO⟩
    · subst hl0
      refine (markb0 a5 c5 w3).mono ?_
      rintro e w' ⟨rfl, rfl⟩
      exact ⟨rfl, .inl rfl, .inl rfl, hB3.out⟩
    · obtain ⟨rfl, rfl⟩ : a5 = some ⟨g, 0, none⟩ ∧ c5 = c9 := by simpa using hv
      refine (markb g c5 l w3 hO hlen).mono ?_
      rintro e w' ⟨rfl, hO2, hS⟩
      refine ⟨rfl, hO2.read, ?_, ?_⟩
      · rcases hR33.out with h0 | ⟨g3, o3, ha, hc⟩
        · exact .inl h0
        · refine .inr ⟨g3, o3, ha, fun k hk => ?_⟩
          have hg3 : g3 < w1.heap.size := hlt3.out g3 o3 ha (by omega)
          have e1 : w'.heap[g3]? = w3.heap[g3]? := hS.block g3 (by omega) (by simp; omega)
          exact ⟨(World.cell?_of_block (a := ⟨g3, o3 + k * 2, none⟩) e1).trans (hc k hk).1, (World.cell?_of_block (a := ⟨g3, o3 + k * 2 + 1, none⟩) e1).trans (hc k hk).2⟩
      · exact hB3.out.grown hS (by have := hB3.out.size; omega) (fun b hb => by
          obtain rfl : g = b := by simpa using hb
          have := hB1.out.size
          omega)
  clear hM53 hR33 hlt3
  go_wp2_with fail
  refine hmk.out.mono ?_
  rintro e w4 ⟨rfl, hR4, hR34, hB4⟩
  replace hR4 := hid hR4
  replace hR34 := hid hR34
  replace hB4 := hid hB4
  clear hmk hB3
  obtain ⟨m, hm9⟩ : ∃ m : Nat, 2 * l.length + 1 = m := ⟨_, rfl⟩
  have hm8 : m ≤ 13 := by omega
  have hHe := hid (fun W (h : BkR W a5 (mkB l l.length)) => heldb a5 c5 l W h hlen)
  rw [hm9] at hHe ⊢
  go_wp2_with fail
  refine (hHe.out _ hR4.out).mono ?_
  rintro e w5 ⟨rfl, hb5⟩
  have hB5 := hid (new_trans hB4.out hb5)
  have hR45 := hid (hR4.out.below hb5)
  have hR35 := hid (hR34.out.below hb5)
  clear hb5 hR4 hR34 hB4 hm9
  have hmi : ¬ (m : Int) < 0 := by omega
  go_wp2_with fail
  refine (hIm.out _ (hE.out.below hB5.out)).mono ?_
  rintro e w6 ⟨v9, rfl, ho9, hb6⟩
  obtain ⟨a9, c9, hv9, hR9⟩ := (mks_of ho9).read
  have hB6 := hid (new_trans hB5.out hb6)
  have hR46 := hid (hR45.out.below hb6)
  have hR36 := hid (hR35.out.below hb6)
  replace hR9 := hid hR9
  clear hb6 hR45 hR35 ho9
  subst hv9
  go_wp2_with fail
  refine (eqbks a9 a3 c9 c3 l _ hR9.out hR36.out hl20).mono ?_
  rintro e w7 ⟨rfl, hb7⟩
  have hB7 := hid (new_trans hB6.out hb7)
  have hR47 := hid (hR46.out.below hb7)
  clear hb7 hR46 hR36 hR9 hB6
  go_wp2_with fail
  refine (hHe.out _ hR47.out).mono ?_
  rintro e w8 ⟨rfl, hb8⟩
  have hB8 := hid (new_trans hB7.out hb8)
  clear hb8 hR47 hB7
  go_wp2_with fail
  go_ret
  exact ⟨rfl, hB8.out⟩

theorem door_met (os : Os) (args : Array Value) : laidMetH Tryd.prog Rows.fnExactReadTapRow.laid ((World.doorLaid Tryd.prog 400 os).forCall (fun _ _ => 0) ⟨#[], args, []⟩).memory :=
  laidMetH_of_parts3 (fuel := 8) (laidMet_of_run' 8 (by kernel_rfl) (by kernel_rfl)) (by kernel_rfl) (by kernel_rfl)

set_option maxRecDepth 100000 in
theorem lifted (os : Os) (started : os.Started) (H : Type) (enc : TypeId × Value → H) :
    ReturnsInHanded {} Tryd.checked os 5 .any (fun w args => (Rows.fnExactReadTapSpec.pre enc Tryd.prog Tryd.f5 [] false w args ∧ laidMetH Tryd.prog Rows.fnExactReadTapRow.laid w) ∧ sizedMet enc Tryd.prog Tryd.f5 (OpenSpec.ofChange Rows.fnExactReadTapSpec) false w args)
      (Rows.fnExactReadTapSpec.post enc Tryd.prog Tryd.f5 false true false false) := by
  refine returnsInHanded_of_change_and (C := Tryd.checked) (X := fun w _ => laidMetH Tryd.prog Rows.fnExactReadTapRow.laid w) (fun _ _ _ hh h => h.of_heap hh) own started (by kernel_rfl) Tryd.func5
    (ChangeSpec.witness_shaped (enc := enc) (C := Tryd.checked) (os := os) (X := fun w _ => laidMetH Tryd.prog Rows.fnExactReadTapRow.laid w) false (World.doorLaid Tryd.prog 400 os) #[.string ByteArray.empty] 8 rfl (World.shaped_of_RefB (by kernel_rfl) (by kernel_rfl)) (by kernel_rfl) (by kernel_rfl) (by kernel_rfl) (door_met os _)) ?_
  intro W base args ds gs before hval0 hW _ _ hL _
  have hval : ∀ (j : Nat) t v, Tryd.f5.params[j]? = some t → args[j]? = some v → Value.okWide Tryd.prog W .any base t v := hval0
  have hW' := hW
  obtain ⟨p, q, hA0, hV, hbefore, hfz, hnd⟩ := hW
  have hA : DataW.TrodAll enc Tryd.prog W 0 (fun _ => true) true Tryd.f5.params.toList args.toList ds p := hA0
  rw [Tryd.params5] at hA hval
  obtain ⟨v0, vs0, d0, ds0, p0, q0, hargs, rfl, rfl, h0, r0⟩ := trodAll_cons hA
  obtain ⟨rfl, rfl, rfl⟩ := trodAll_nil r0
  obtain rfl : args = #[v0] := by cases args; simp_all
  obtain ⟨g0, g1, g2, g3, g4, g5, rfl⟩ := vars6_form hV
  obtain ⟨a0, rfl, rfl, rfl, w0⟩ := open_string Tryd.underlying9 (hval 0 9 v0 rfl rfl) h0
  clear hA0 hval0
  refine (walk a0 W w0 (err6_of hL)).mono fun e W' ⟨he, bel⟩ => ?_
  subst he
  exact ⟨_, rfl, _, _, _, [], _, _, hW', trodAll_mk1 (shut_bool Tryd.underlying4 _), (trodAll_cons_mk (shut_string Tryd.underlying9 w0) trodAll_mk0), Below.trodVars laidOut bel (by kernel_rfl) hV, bel.frame _, fun h => by cases h⟩

theorem said : Rows.FnExactReadTapSaid :=
  OpenClaim.holds_of_wide 5 Tryd.f5 rfl rfl rfl rfl rfl rfl rfl ⟨rfl, rfl, rfl, rfl, rfl⟩ rfl rfl rfl rfl rfl (by kernel_rfl) Tryd.func5 (by kernel_rfl)
    (of_decide_eq_true (by kernel_rfl)) (by unfold Func.isWrapper; first | (rw [if_pos (by decide +kernel)]; kernel_rfl) | (rw [if_neg (by decide +kernel)]; exact ⟨rfl, rfl⟩))
    (fun os started H enc _ => lifted os started H enc)

theorem card : Rows.FnExactReadTapCardSaid :=
  Claim7.holds_tied_plain_at .later [] _ _ _ _ said (fun _ h => by cases h) (by kernel_rfl) (fun _ h => by cases h) fnExactReadTap_row_tie rfl ⟨rfl, rfl⟩ (by kernel_rfl) rfl
    (fun f fn hf hfn => by
      obtain rfl : f = 5 := Option.some.inj ((show Tryd.prog.funcNamed "loop.example/g00644/laws.FnExactReadTap" = some 5 by kernel_rfl).symm.trans hf) |>.symm
      obtain rfl : fn = Tryd.f5 := (Option.some.inj (Tryd.func5.symm.trans hfn)).symm
      exact ⟨by kernel_rfl, fun j t ht => by
        rw [Tryd.params5] at ht
        have hm : t ∈ [9] := by simpa using Array.mem_of_getElem? ht
        have hall : ([9].all fun u => !Tryd.prog.wantsStandIn u) = true := by kernel_rfl
        exact (show Tryd.prog.wantsStandIn t = false by simpa using List.all_eq_true.1 hall t hm)⟩)
    (by kernel_rfl)
end Go.Proofs.YtakdhmlegickmaaDoor.fnExactReadTap
namespace Go.Proofs.YtakdhmlegickmaaDoor
theorem fnExactReadTap_holds : Rows.FnExactReadTapCardSaid := fnExactReadTap.card
#print axioms fnExactReadTap_holds
end Go.Proofs.YtakdhmlegickmaaDoor
