/- For every list of numbers the law FnExactDecodePulses returns true: impl.DecodePulses answers as spec.DecodePulses, its answer is its own, and the list is as it was; the errors being as the program's text lays them. -/
import Derived.Test.YtakdhmlegickmabDoorCards
import Derived.Test.YtakdhmlegickmabDoorTie
import Derived.Test.YtakdhmlegickmabDoorXvv
import Derived.Test.YtakdhmlegickmabDoorXlv
import Derived.Test.YtakdhmlegickmabDoorVvv
import Derived.Test.YtakdhmlegickmabDoorZqv
import Derived.WalkKit
import Derived.ProofKit
import Derived.OpenShut
import Derived.ShutString
import Derived.ChangeOld
import Derived.Below
import Derived.LaidMore
import Derived.OpenVars
import Derived.SevenTiedAt
import Derived.Stop.Joined
import Derived.Lib.SmallJoins
namespace Go.Proofs.YtakdhmlegickmabDoor.fnExactDecodePulses
open Go.ChangeShapes Go.WideShapes Go.ChangeAt Go.RowKit Go.Joins
open Go.ChangeMaps (open_string shut_string)
set_option linter.unusedVariables false

theorem own : ownKnob Tryd.prog.godebug = none := by kernel_rfl
theorem laidOut : laidOutB Tryd.prog = true := by kernel_rfl

set_option maxRecDepth 100000 in
set_option maxHeartbeats 16000000 in
theorem walk (a0 : Option Addr) (c0 : Nat) (l0 : List Int) (w : World) (hR0 : RowR w (.slice a0 l0.length c0) l0) (hm0 : l0.length ≤ maxLen) (hL : ∃ e3 e4 e5 e6 e7 e8, ErrX w e3 e4 e5 e6 e7 e8) :
    Calls Tryd.prog 5 #[.slice a0 l0.length c0] w fun e w' => e = .returned (.bool true) ∧ Below w.heap.size w w' := by
  obtain ⟨e3, e4, e5, e6, e7, e8, hE⟩ := hL
  by_cases hbig : 1048576 < l0.length
  · unfold maxLen at hm0
    clear hE
    go_enter Tryd.func5, Tryd.ntmps5
    go_wp2
    go_ret
    exact ⟨rfl, Below.refl _ _⟩
  have hln : l0.length ≤ 1048576 := by omega
  have hTo := hid (fun W (h : RowR W (.slice a0 l0.length c0) l0) => torC (.slice a0 l0.length c0) l0 W h (by omega))
  have hSp := hid (fun W a c (h : RowR W (.slice a l0.length c) l0) => decode_spec a c l0 W h hln)
  have hIm : Hid (∀ W a c, RowE W a c l0 → Below w.heap.size w W → Calls Tryd.prog 21 #[.slice a l0.length c] W fun e w' => ∃ v, e = .returned (.tuple #[v, .int .i64 (dec2 l0).2]) ∧ w'.ownsRow W.heap.size 28 2 v (dec2 l0).1.length (bkL (dec2 l0).1) ∧ Below W.heap.size W w') := fun W a c h hb => decode_impl a c l0 e3 e4 e5 e6 e7 e8 W h hln (hE.below hb)
  have hlen : (dec2 l0).1.length ≤ 6 := by
    unfold dec2
    split
    · exact Nat.zero_le _
    · split
      · exact decL_len _ _ _ (by simp)
      · exact Nat.zero_le _
  obtain ⟨Z, hZ⟩ : ∃ Z, dec2 l0 = Z := ⟨_, rfl⟩
  rw [hZ] at hSp hIm hlen
  clear hZ hE
  obtain ⟨l, c⟩ := Z
  simp only at hlen hSp hIm
  have hl20 : l.length ≤ 1048576 := by omega
  have hRE : Hid (∀ (W : World) (g : Nat), RowO W g (.slice (some ⟨g, 0, none⟩) l0.length l0.length) l0 → RowE W (some ⟨g, 0, none⟩) l0.length l0) := fun W g h => .inr ⟨g, 0, rfl, Nat.le_refl _, fun i hi => by rw [Nat.zero_add]; exact h.cell i hi⟩
  replace hR0 := hid hR0
  go_enter Tryd.func5, Tryd.ntmps5
  go_wp2_with fail
  refine (hTo.out _ hR0.out).mono ?_
  rintro e w2 ⟨u2, rfl, hu2, hO2, hb⟩
  subst hu2
  have hR2 := hid hO2.reads
  have B2 := hid hb
  clear hO2 hb
  go_wp2_with fail
  refine (hSp.out _ _ _ hR2.out).mono ?_
  rintro e w3 ⟨v3, rfl, hS⟩
  obtain ⟨a3, c3, hv3, hR3⟩ := (mks_of hS.own).read
  have hlt3 : Hid (∀ (g o : Nat), a3 = some ⟨g, o, none⟩ → 0 < l.length → g < w3.heap.size) := fun g o e hk => by
    obtain ⟨g', o', e', c1, _⟩ := hR3.at hk
    rw [e] at e'
    obtain ⟨rfl, _⟩ : g = g' ∧ o = o' := by simpa using e'
    exact World.block_lt_of_cell? w3 _ c1
  subst hv3
  have B3 := hid (new_trans B2.out hS.bel)
  replace hR3 := hid hR3
  clear hS B2 hR2 hSp
  go_wp2_with fail
  refine (hTo.out _ (hR0.out.below B3.out)).mono ?_
  rintro e w4 ⟨u4, rfl, hu4, hO4, hb⟩
  subst hu4
  have B4 := hid (new_trans B3.out hb)
  have hb34 := hid hb
  have hl4 := hO4.lt
  replace hO4 := hid hO4
  clear hb
  go_upto_region 5 with fail
  obtain ⟨g4, eg⟩ : ∃ b, w3.heap.size = b := ⟨_, rfl⟩
  rw [eg] at hO4 hl4 hlt3 ⊢
  have hg34 : Hid (w3.heap.size = g4) := eg
  clear eg
  go_wp2_with fail
  refine (hIm.out _ _ _ (hRE.out _ _ hO4.out) B4.out).mono ?_
  rintro e w5 ⟨v5, rfl, ho5, hb⟩
  have hM5 := mks_of ho5
  have B5 := hid (new_trans B4.out hb)
  have hR35 := hid (hR3.out.below (new_trans hb34.out hb))
  have hO45 := hid (hO4.out.kept (hb.block g4 hl4))
  have hs45 := hb.size
  obtain ⟨a5, c5, hv5, hR5⟩ := hM5.read
  replace hM5 := hid hM5
  replace hR5 := hid hR5
  clear ho5 hb B4 hO4 hb34
  subst hv5
  go_wp2_with fail
  refine (eqbks a5 a3 c5 c3 l _ hR5.out hR35.out hl20).mono ?_
  rintro e w6 ⟨rfl, hb⟩
  have B6 := hid (new_trans B5.out hb)
  have hR36 := hid (hR35.out.below hb)
  have hM56 := hid (hM5.out.below hb)
  have hO46 := hid (hO45.out.kept (hb.block g4 hO45.out.lt))
  have hs56 := hb.size
  clear hb B5 hR35 hM5 hR5 hO45
  go_wp2_with fail
  refine (hTo.out _ (hR0.out.below B6.out)).mono ?_
  rintro e w7 ⟨u7, rfl, hu7, hO7, hb⟩
  subst hu7
  have hR7 := hid hO7.reads
  have B7 := hid (new_trans B6.out hb)
  have hR37 := hid (hR36.out.below hb)
  have hM57 := hid (hM56.out.below hb)
  have hO47 := hid (hO46.out.kept (hb.block g4 hO46.out.lt))
  have hs67 := hb.size
  clear hb hO7 B6 hR36 hM56 hO46
  go_wp2_with fail
  refine (eqr_yes _ _ l0 _ hO47.out.reads hR7.out (by omega)).mono ?_
  rintro e w8 ⟨rfl, n8, rfl⟩
  have hb : Below w7.heap.size w7 (w7.drewN n8) := Below.drewN w7 n8 _
  have B8 := hid (new_trans B7.out hb)
  have hR38 := hid (hR37.out.below hb)
  have hM58 := hid (hM57.out.below hb)
  have hO48 := hid (hO47.out.kept (hb.block g4 hO47.out.lt))
  have hs78 := hb.size
  obtain ⟨W8, hW8⟩ : ∃ W, w7.drewN n8 = W := ⟨_, rfl⟩
  rw [hW8] at B8 hR38 hM58 hO48 hs78 ⊢
  clear hb hR7 B7 hR37 hM57 hO47 hW8
  go_wp2_with fail
  refine (markr _ g4 1 l0 _ hO48.out (by omega) (by omega) (by omega)).mono ?_
  rintro e w9 ⟨rfl, _, hG⟩
  have hsz9 := hG.size
  have B9 : Hid (Below w.heap.size w w9) := B8.out.grown hG (by have := B8.out.size; omega) (fun b hb => by
    obtain rfl : g4 = b := by simpa using hb
    have := B3.out.size
    have := hg34.out
    omega)
  have hR39 : Hid (BkR w9 a3 l) := by
    rcases hR38.out with h0 | ⟨g3, o3, hag, hc⟩
    · exact .inl h0
    · refine .inr ⟨g3, o3, hag, fun k hk => ?_⟩
      have hg3 : g3 < g4 := hlt3.out g3 o3 hag (by omega)
      have e1 : w9.heap[g3]? = W8.heap[g3]? := hG.block g3 (by have := hO48.out.lt; omega) (by simp; omega)
      exact ⟨(World.cell?_of_block (a := ⟨g3, o3 + k * 2, none⟩) e1).trans (hc k hk).1, (World.cell?_of_block (a := ⟨g3, o3 + k * 2 + 1, none⟩) e1).trans (hc k hk).2⟩
  have hM59 : Hid (MkS w4.heap.size w9 (.slice a5 l.length c5) l) := by
    rcases hM58.out with h | ⟨g, cap9, hv, hg, hO⟩
    · exact .inl h
    · have e1 : w9.heap[g]? = W8.heap[g]? := hG.block g hO.lt (by simp; omega)
      refine .inr ⟨g, cap9, hv, hg, fun k hk => ?_, fun i => ?_, by have := hO.lt; omega⟩
      · exact ⟨(World.cell?_of_block (a := ⟨g, k * 2, none⟩) e1).trans (hO.cell k hk).1, (World.cell?_of_block (a := ⟨g, k * 2 + 1, none⟩) e1).trans (hO.cell k hk).2⟩
      · exact (World.frozen?_of_block (a := ⟨g, i, none⟩) e1).trans (hO.fro i)
  have hR59 := hid (hM59.out.read)
  clear hG B8 hR38 hM58 hO48
  have hk9 : ¬ (1 + (l0.length : Int)) < 0 := by omega
  obtain ⟨K9, hK9⟩ : ∃ K9 : Int, 1 + (l0.length : Int) = K9 := ⟨_, rfl⟩
  rw [hK9] at hk9 ⊢
  clear hK9
  obtain ⟨a5', c5', hv', hR5'⟩ := hR59.out
  obtain ⟨rfl, rfl⟩ : a5 = a5' ∧ c5 = c5' := by simpa using hv'
  replace hR5' := hid hR5'
  clear hR59 hv'
  go_wp2_with fail
  refine (eqbks a5 a3 c5 c3 l _ hR5'.out hR39.out hl20).mono ?_
  rintro e w10 ⟨rfl, hb⟩
  have B10 := hid (new_trans B9.out hb)
  have hR310 := hid (hR39.out.below hb)
  have hM510 := hid (hM59.out.below hb)
  have hs910 := hb.size
  clear hb B9 hR39 hM59 hR5'
  have hmk : Hid (Calls Tryd.prog 18 #[.slice a5 l.length c5, .int .i64 1] w10 fun e w' => e = .returned (.int .i64 ((2 * l.length + 1 : Nat) : Int)) ∧ BkR w' a5 (mkB l l.length) ∧ BkR w' a3 l ∧ Below w.heap.size w w') := by
    rcases hM510.out with ⟨hl0, a9, c9, hv⟩ | ⟨g, c9, hv, hg, hO⟩
    · subst hl0
      refine (markb0 a5 c5 w10).mono ?_
      rintro e w' ⟨rfl, rfl⟩
      exact ⟨rfl, .inl rfl, .inl rfl, B10.out⟩
    · obtain ⟨rfl, rfl⟩ : a5 = some ⟨g, 0, none⟩ ∧ c5 = c9 := by simpa using hv
      refine (markb g c5 l w10 hO hl20).mono ?_
      rintro e w' ⟨rfl, hO2, hS⟩
      refine ⟨rfl, hO2.read, ?_, ?_⟩
      · rcases hR310.out with h0 | ⟨g3, o3, ha, hc⟩
        · exact .inl h0
        · refine .inr ⟨g3, o3, ha, fun k hk => ?_⟩
          have hg3 : g3 < g4 := hlt3.out g3 o3 ha (by omega)
          have e1 : w'.heap[g3]? = w10.heap[g3]? := hS.block g3 (by have := hO.lt; omega) (by simp; omega)
          exact ⟨(World.cell?_of_block (a := ⟨g3, o3 + k * 2, none⟩) e1).trans (hc k hk).1, (World.cell?_of_block (a := ⟨g3, o3 + k * 2 + 1, none⟩) e1).trans (hc k hk).2⟩
      · exact B10.out.grown hS (by have := B10.out.size; omega) (fun b hb => by
          obtain rfl : g = b := by simpa using hb
          have := B3.out.size
          have := hg34.out
          omega)
  clear hM510 hR310 hlt3
  go_wp2_with fail
  refine hmk.out.mono ?_
  rintro e w11 ⟨rfl, hR11, hR311, hB11⟩
  replace hR11 := hid hR11
  replace hR311 := hid hR311
  replace hB11 := hid hB11
  clear hmk B10
  obtain ⟨m, hm9⟩ : ∃ m : Nat, 2 * l.length + 1 = m := ⟨_, rfl⟩
  have hm8 : m ≤ 13 := by omega
  have hHe := hid (fun W (h : BkR W a5 (mkB l l.length)) => heldb a5 c5 l W h hlen)
  rw [hm9] at hHe ⊢
  go_wp2_with fail
  refine (hHe.out _ hR11.out).mono ?_
  rintro e w12 ⟨rfl, hb⟩
  have B12 := hid (new_trans hB11.out hb)
  have hR12 := hid (hR11.out.below hb)
  have hR312 := hid (hR311.out.below hb)
  clear hb hR11 hR311 hB11 hm9
  have hmi : ¬ (m : Int) < 0 := by omega
  go_wp2_with fail
  refine (hTo.out _ (hR0.out.below B12.out)).mono ?_
  rintro e w13 ⟨u13, rfl, hu13, hO13, hb⟩
  subst hu13
  have B13 := hid (new_trans B12.out hb)
  have hR13 := hid (hR12.out.below hb)
  have hR313 := hid (hR312.out.below hb)
  have hE13 := hid (hRE.out _ _ hO13)
  clear hb hO13 B12 hR12 hR312
  go_wp2_with fail
  refine (hIm.out _ _ _ hE13.out B13.out).mono ?_
  rintro e w14 ⟨v14, rfl, ho14, hb⟩
  obtain ⟨a14, c14, hv14, hR14⟩ := (mks_of ho14).read
  have B14 := hid (new_trans B13.out hb)
  have hRg14 := hid (hR13.out.below hb)
  have hR314 := hid (hR313.out.below hb)
  replace hR14 := hid hR14
  clear hb ho14 B13 hR13 hR313 hE13
  subst hv14
  go_wp2_with fail
  refine (eqbks a14 a3 c14 c3 l _ hR14.out hR314.out hl20).mono ?_
  rintro e w15 ⟨rfl, hb⟩
  have B15 := hid (new_trans B14.out hb)
  have hR15 := hid (hRg14.out.below hb)
  clear hb hRg14 hR314 hR14 B14
  go_wp2_with fail
  refine (hHe.out _ hR15.out).mono ?_
  rintro e w16 ⟨rfl, hb⟩
  have B16 := hid (new_trans B15.out hb)
  clear hb hR15 B15
  go_wp2_with fail
  go_ret
  exact ⟨rfl, B16.out⟩

theorem door_met (os : Os) (args : Array Value) : laidMetH Tryd.prog Rows.fnExactDecodePulsesRow.laid ((World.doorLaid Tryd.prog 400 os).forCall (fun _ _ => 0) ⟨#[], args, []⟩).memory :=
  laidMetH_of_parts3 (fuel := 8) (laidMet_of_run' 8 (by kernel_rfl) (by kernel_rfl)) (by kernel_rfl) (by kernel_rfl)

set_option maxRecDepth 100000 in
theorem lifted (os : Os) (started : os.Started) (H : Type) (enc : TypeId × Value → H) :
    ReturnsInHanded {} Tryd.checked os 5 .any (fun w args => (Rows.fnExactDecodePulsesSpec.pre enc Tryd.prog Tryd.f5 [] false w args ∧ laidMetH Tryd.prog Rows.fnExactDecodePulsesRow.laid w) ∧ sizedMet enc Tryd.prog Tryd.f5 (OpenSpec.ofChange Rows.fnExactDecodePulsesSpec) false w args)
      (Rows.fnExactDecodePulsesSpec.post enc Tryd.prog Tryd.f5 false true false false) := by
  refine returnsInHanded_of_change_and (C := Tryd.checked) (X := fun w _ => laidMetH Tryd.prog Rows.fnExactDecodePulsesRow.laid w) (fun _ _ _ hh h => h.of_heap hh) own started (by kernel_rfl) Tryd.func5
    (ChangeSpec.witness_shaped (enc := enc) (C := Tryd.checked) (os := os) (X := fun w _ => laidMetH Tryd.prog Rows.fnExactDecodePulsesRow.laid w) false (World.doorLaid Tryd.prog 400 os) #[.slice none 0 0] 8 rfl (World.shaped_of_RefB (by kernel_rfl) (by kernel_rfl)) (by kernel_rfl) (by kernel_rfl) (by kernel_rfl) (door_met os _)) ?_
  intro W base args ds gs before hval0 hW _ _ hL _
  have hval : ∀ (j : Nat) t v, Tryd.f5.params[j]? = some t → args[j]? = some v → Value.okWide Tryd.prog W .any base t v := hval0
  have hW' := hW
  obtain ⟨p, q, hA0, hV, hbefore, hfz, hnd⟩ := hW
  have hA : DataW.TrodAll enc Tryd.prog W 0 (fun _ => true) true Tryd.f5.params.toList args.toList ds p := hA0
  rw [Tryd.params5] at hA hval
  obtain ⟨v0, vs0, d0, ds0, p0, q0, hargs, rfl, rfl, h0, r0⟩ := trodAll_cons hA
  obtain ⟨rfl, rfl, rfl⟩ := trodAll_nil r0
  obtain rfl : args = #[v0] := by cases args; simp_all
  obtain ⟨g0, g1, g2, g3, g4, g5, g6, g7, rfl⟩ := vars8_form hV
  have k0 := h0
  have lt0 : ∀ x ∈ p0, x.block < W.heap.size := by obtain ⟨m, hm⟩ := k0; exact DataW.trod_lt m _ _ _ hm
  obtain ⟨a0, ll, c0, rfl⟩ := okWide_slice Tryd.underlying25 (hval 0 25 v0 rfl rfl)
  obtain ⟨fuel0, hf0⟩ := h0
  obtain ⟨aa, cc, l0, hv0, hR0, hm0, _⟩ := row_inV Tryd.underlying25 Tryd.underlying3 (by kernel_rfl) (by simpa [Value.cells] using hf0)
  obtain ⟨rfl, rfl, rfl⟩ : a0 = aa ∧ ll = l0.length ∧ c0 = cc := by simpa using hv0
  clear hA0 hval0
  refine (walk a0 c0 l0 W hR0 hm0 (errx_of hL)).mono fun e W' ⟨he, bel⟩ => ?_
  subst he
  exact ⟨_, rfl, _, _, _, [], _, _, hW', trodAll_mk1 (shut_bool Tryd.underlying4 _), (trodAll_cons_mk (Below.trod laidOut (by kernel_rfl) (of_decide_eq_true (by kernel_rfl)) k0 bel lt0) trodAll_mk0), Below.trodVars laidOut bel (by kernel_rfl) hV, bel.frame _, fun h => by cases h⟩

theorem said : Rows.FnExactDecodePulsesSaid :=
  OpenClaim.holds_of_wide 5 Tryd.f5 rfl rfl rfl rfl rfl rfl rfl ⟨rfl, rfl, rfl, rfl, rfl⟩ rfl rfl rfl rfl rfl (by kernel_rfl) Tryd.func5 (by kernel_rfl)
    (of_decide_eq_true (by kernel_rfl)) (by unfold Func.isWrapper; first | (rw [if_pos (by decide +kernel)]; kernel_rfl) | (rw [if_neg (by decide +kernel)]; exact ⟨rfl, rfl⟩))
    (fun os started H enc _ => lifted os started H enc)

theorem card : Rows.FnExactDecodePulsesCardSaid :=
  Claim7.holds_tied_plain_at .later [] _ _ _ _ said (fun _ h => by cases h) (by kernel_rfl) (fun _ h => by cases h) fnExactDecodePulses_row_tie rfl ⟨rfl, rfl⟩ (by kernel_rfl) rfl
    (fun f fn hf hfn => by
      obtain rfl : f = 5 := Option.some.inj ((show Tryd.prog.funcNamed "loop.example/g00644/laws.FnExactDecodePulses" = some 5 by kernel_rfl).symm.trans hf) |>.symm
      obtain rfl : fn = Tryd.f5 := (Option.some.inj (Tryd.func5.symm.trans hfn)).symm
      exact ⟨by kernel_rfl, fun j t ht => by
        rw [Tryd.params5] at ht
        have hm : t ∈ [25] := by simpa using Array.mem_of_getElem? ht
        have hall : ([25].all fun u => !Tryd.prog.wantsStandIn u) = true := by kernel_rfl
        exact (show Tryd.prog.wantsStandIn t = false by simpa using List.all_eq_true.1 hall t hm)⟩)
    (by kernel_rfl)
end Go.Proofs.YtakdhmlegickmabDoor.fnExactDecodePulses
namespace Go.Proofs.YtakdhmlegickmabDoor
theorem fnExactDecodePulses_holds : Rows.FnExactDecodePulsesCardSaid := fnExactDecodePulses.card
#print axioms fnExactDecodePulses_holds
end Go.Proofs.YtakdhmlegickmabDoor
