/- For all bytes the law FnDaa returns true: a sum of decimal digits, and a difference, are decimal digits again when adjusted; the program's table of flags being as its text lays it. -/
import Derived.Test.YtffogcielohoeabDoorCards
import Derived.Test.YtffogcielohoeabDoorTie
import Derived.Test.YtffogcielohoeabDoorBase
import Derived.Test.YtffogcielohoeabDoorBt
import Derived.Test.YtffogcielohoeabDoorIn
import Derived.Test.YtffogcielohoeabDoorPa
import Derived.Test.YtffogcielohoeabDoorAu
import Derived.Test.YtffogcielohoeabDoorAd
import Derived.Test.YtffogcielohoeabDoorAe
import Derived.Test.YtffogcielohoeabDoorAf
import Derived.Test.YtffogcielohoeabDoorAg
import Derived.Test.YtffogcielohoeabDoorAh
import Derived.Test.YtffogcielohoeabDoorPf
import Derived.Test.YtffogcielohoeabDoorPr
import Derived.Test.YtffogcielohoeabDoorPs
import Derived.Test.YtffogcielohoeabDoorPt
import Derived.Test.YtffogcielohoeabDoorPd
import Derived.Test.YtffogcielohoeabDoorWf
import Derived.Test.YtffogcielohoeabDoorAt
import Derived.Test.YtffogcielohoeabDoorFa
import Derived.Test.YtffogcielohoeabDoorFd
import Derived.WalkKit
import Derived.ProofKit
import Derived.OpenShut
import Derived.ShutString
import Derived.ChangeOld
import Derived.Below
import Derived.LaidMore
import Derived.OpenVars
import Derived.SevenTiedAt
import Derived.Stop.Joined
import Derived.Lib.SmallJoins
import Derived.Deep.Cut
import Derived.Deep.DeepCutAuto
namespace Go.Proofs.YtffogcielohoeabDoor.fnDaa
open Go.ChangeShapes Go.WideShapes Go.ChangeAt Go.RowKit Go.Joins
open Go.ChangeMaps (open_string shut_string)
set_option linter.unusedVariables false

theorem own : ownKnob Tryd.prog.godebug = none := by kernel_rfl
theorem laidOut : laidOutB Tryd.prog = true := by kernel_rfl

def IsRow (k : IntKind) (w : World) (a : Option Addr) (len cap : Nat) (zs : List Int) : Prop :=
  (a = none ∧ len = 0 ∧ cap = 0 ∧ zs = []) ∨
  ∃ x, a = some x ∧ len ≤ cap ∧ cap ≤ maxLen ∧ zs.length = cap ∧ (∀ i, i < zs.length → w.cell? (x.add i) = some (.int k (zs.getD i 0))) ∧ ∀ n ∈ zs, (Lit.int k n).wf = true

set_option maxRecDepth 100000 in
set_option maxHeartbeats 8000000 in
theorem walk (a0 : Option Addr) (len0 cap0 : Nat) (z0 : List Int) (a1 : Option Addr) (len1 cap1 : Nat) (z1 : List Int) (w : World) (w0 : IsRow .u8 w a0 len0 cap0 z0) (w1 : IsRow .u8 w a1 len1 cap1 z1) (hL : Flags w) :
    Calls Tryd.prog 3 #[.slice a0 len0 cap0, .slice a1 len1 cap1] w fun e w' => e = .returned (.bool true) ∧ Below w.heap.size w w' := by
  have hc0 := codeAt_of w0
  have hc1 := codeAt_of w1
  have hnn : ∀ (zs : List Int) (a : Option Addr) (len cap : Nat), IsRow .u8 w a len cap zs → len ≤ maxLen := by
    intro zs a len cap h
    rcases h with ⟨_, rfl, _, _⟩ | ⟨x, _, hl, hm, _⟩
    · exact Nat.zero_le _
    · omega
  have hl0 := hnn _ _ _ _ w0
  have hl1 := hnn _ _ _ _ w1
  clear hnn w0 w1
  unfold maxLen at hl0 hl1
  by_cases h1 : 1048576 < len0
  · go_enter Tryd.func3, Tryd.ntmps3
    go_wp2
    go_ret
    exact ⟨rfl, Below.refl _ _⟩
  by_cases h2 : 1048576 < len1
  · go_enter Tryd.func3, Tryd.ntmps3
    go_wp2
    go_ret
    exact ⟨rfl, Below.refl _ _⟩
  go_enter Tryd.func3, Tryd.ntmps3
  go_wp2_with fail
  refine (at_val _ _ _ 0 100 _ _ hc1 (by omega) (by omega) (by omega)).mono ?_
  rintro e w1 ⟨rfl, hb1⟩
  obtain ⟨p, ea, hp⟩ : ∃ p : Nat, atV w a1 len1 0 100 = (p : Int) ∧ p < 100 := by
    have := atV_bd (w := w) (a := a1) (len := len1) (i := 0) (n := 100) (by omega)
    exact ⟨(atV w a1 len1 0 100).toNat, by omega, by omega⟩
  rw [ea]
  clear ea
  have B1 := hb1
  go_wp2_with fail
  refine (at_val _ _ _ 1 100 _ _ (hc1.below B1 B1.size) (by omega) (by omega) (by omega)).mono ?_
  rintro e w2 ⟨rfl, hb2⟩
  obtain ⟨q, eb, hq⟩ : ∃ q : Nat, atV w1 a1 len1 1 100 = (q : Int) ∧ q < 100 := by
    have := atV_bd (w := w1) (a := a1) (len := len1) (i := 1) (n := 100) (by omega)
    exact ⟨(atV w1 a1 len1 1 100).toNat, by omega, by omega⟩
  rw [eb]
  clear eb
  have B2 : Below w.heap.size w w2 := B1.trans (hb2.mono B1.size)
  clear hb1 hb2 B1
  have hL3 := flags_below hL B2
  have hLw : Hid (Flags w) := hL
  clear hL
  have rA : Hid ((p : Int) / 10 * 16 + (p : Int) % 10 = ((bcd p : Nat) : Int)) := by unfold Hid; rw [bcd_eq]; omega
  have rB : Hid ((q : Int) / 10 * 16 + (q : Int) % 10 = ((bcd q : Nat) : Int)) := by unfold Hid; rw [bcd_eq]; omega
  have rS : Hid (((p : Int) + q) % 100 / 10 * 16 + ((p : Int) + q) % 10 = ((bcd ((p + q) % 100) : Nat) : Int)) := by unfold Hid; rw [bcd_eq]; omega
  have rT : Hid (((p : Int) - q + 100) % 100 / 10 * 16 + ((p : Int) - q + 100) % 100 % 10 = ((bcd ((p + 100 - q) % 100) : Nat) : Int)) := by unfold Hid; rw [bcd_eq]; omega
  have E0 : Hid (∃ X F Y H G I C1 C2 : Nat, add8V (bcd p : Nat) (bcd q : Nat) 0 = .tuple #[.int .i64 X, .int .i64 F, .int .i64 0] ∧ sub8V (bcd p : Nat) (bcd q : Nat) 0 = .tuple #[.int .i64 Y, .int .i64 H, .int .i64 0] ∧
      daa8V X F = .tuple #[.int .i64 (bcd ((p + q) % 100) : Nat), .int .i64 G, .int .i64 0] ∧ daa8V Y H = .tuple #[.int .i64 (bcd ((p + 100 - q) % 100) : Nat), .int .i64 I, .int .i64 0] ∧
      bits .and .i64 (G : Int) 1 = (C1 : Int) ∧ bits .and .i64 (I : Int) 1 = (C2 : Int) ∧ (((C1 : Int) != 0) == decide (99 < (p : Int) + q)) = true ∧ (((C2 : Int) != 0) == decide ((p : Int) < q)) = true) := daa_facts p q hp hq
  generalize bcd ((p + q) % 100) = S at *
  generalize bcd ((p + 100 - q) % 100) = T at *
  generalize bcd p = A at *
  generalize bcd q = B at *
  go_upto_region 7 with fail
  rw [rA.out, rB.out]
  clear rA rB
  obtain ⟨X, F, Y, H, G, I, C1, C2, e1, e2, e3, e4, r1, r2, f2, f4⟩ := E0.out
  clear E0
  have f4n : (((C2 : Int) != 0) == decide (p < q)) = true := by rw [show decide (p < q) = decide ((p : Int) < q) by rw [decide_eq_decide]; omega]; exact f4
  go_upto_region 11 with (first | (go_at_call 5; refine (add8_impl _ _ _ _ hL3).mono ?_; rintro e w' ⟨rfl, rfl⟩; rw [e1]) | (go_at_call 7; refine (sub8_impl _ _ _ _ hL3).mono ?_; rintro e w' ⟨rfl, rfl⟩; rw [e2]) | (go_at_call 6; refine (daa8_impl _ _ _ hL3).mono ?_; rintro e w' ⟨rfl, rfl⟩; first | rw [e3] | rw [e4]))
  clear e1 e2 e3 e4
  go_upto_region 13 with fail
  generalize hL : ((p : Int) - q + 100) % 100 = L at *
  have hL0 : 0 ≤ L ∧ L < 100 := by omega
  have rS' := rS.out
  generalize hM : (p : Int) + q = M at *
  have hM0 : 0 ≤ M ∧ M < 200 := by omega
  replace hL : Hid _ := hL
  replace hM : Hid _ := hM
  replace rS' : Hid _ := rS'
  clear rS
  have gS : ((S : Int) == M % 100 / 10 * 16 + M % 10) = true := by rw [rS'.out]; simp
  have gT : ((T : Int) == L / 10 * 16 + L % 10) = true := by rw [rT.out]; simp
  clear rS' rT hL hM hp hq hl0 hl1 hc1
  have hlen : len0 ≤ 1048576 := by omega
  clear h1 h2
  obtain ⟨u, hu, hu1⟩ : ∃ u : Nat, atV w a0 len0 0 256 = (u : Int) ∧ u < 256 := by
    have := atV_bd (w := w) (a := a0) (len := len0) (i := 0) (n := 256) (by omega)
    exact ⟨(atV w a0 len0 0 256).toNat, by omega, by omega⟩
  obtain ⟨v, hv, hv1⟩ : ∃ v : Nat, atV w a0 len0 1 256 = (v : Int) ∧ v < 256 := by
    have := atV_bd (w := w) (a := a0) (len := len0) (i := 1) (n := 256) (by omega)
    exact ⟨(atV w a0 len0 1 256).toNat, by omega, by omega⟩
  have HU : ∀ w', Below w.heap.size w w' → atV w' a0 len0 0 256 = (u : Int) := fun w' hb => (atV_below hc0 hb 0 256).trans hu
  have HV : ∀ w', Below w.heap.size w w' → atV w' a0 len0 1 256 = (v : Int) := fun w' hb => (atV_below hc0 hb 1 256).trans hv
  clear hu hv
  obtain ⟨x, y, z, hd⟩ : ∃ x y z : Int, daa8V u v = .tuple #[.int .i64 x, .int .i64 y, .int .i64 z] := by
    unfold daa8V no3
    split <;> exact ⟨_, _, _, rfl⟩
  have hd0 : daa8V u v = .tuple #[.int .i64 (daaV u v), .int .i64 (daaF u v), .int .i64 0] := by
    unfold daa8V
    rw [show askB (u : Int) (v : Int) 0 = true from ask_nat u v 0 hu1 hv1 (by decide)]
    simp
  clear hd x y z
  generalize daaV u v = x at *
  generalize daaF u v = y at *
  replace HU : Hid _ := HU
  replace HV : Hid _ := HV
  replace B2 : Hid _ := B2
  go_wp2_with fail
  refine (at_val _ _ _ 0 256 _ _ (hc0.below B2.out B2.out.size) hlen (by omega) (by omega)).mono ?_
  rintro e w3 ⟨rfl, hb3⟩
  rw [HU.out _ B2.out]
  have B3 : Hid (Below w.heap.size w w3) := B2.out.trans (hb3.mono B2.out.size)
  clear hb3 B2
  go_wp2_with fail
  refine (at_val _ _ _ 1 256 _ _ (hc0.below B3.out B3.out.size) hlen (by omega) (by omega)).mono ?_
  rintro e w4 ⟨rfl, hb4⟩
  rw [HV.out _ B3.out]
  have B4 : Hid (Below w.heap.size w w4) := B3.out.trans (hb4.mono B3.out.size)
  clear hb4 B3
  go_wp2_with fail
  refine (daa8_spec _ _ _).mono ?_
  rintro e wx ⟨rfl, ex⟩
  subst ex
  rw [hd0]
  go_wp2_with fail
  refine (at_val _ _ _ 0 256 _ _ (hc0.below B4.out B4.out.size) hlen (by omega) (by omega)).mono ?_
  rintro e w5 ⟨rfl, hb5⟩
  rw [HU.out _ B4.out]
  have B5 : Hid (Below w.heap.size w w5) := B4.out.trans (hb5.mono B4.out.size)
  clear hb5 B4
  go_wp2_with fail
  refine (at_val _ _ _ 1 256 _ _ (hc0.below B5.out B5.out.size) hlen (by omega) (by omega)).mono ?_
  rintro e w6 ⟨rfl, hb6⟩
  rw [HV.out _ B5.out]
  have B6 : Hid (Below w.heap.size w w6) := B5.out.trans (hb6.mono B5.out.size)
  clear hb6 B5
  have hL6 : Hid (Flags w6) := flags_below hLw.out B6.out
  clear hc0 hlen HU HV hLw
  go_wp2_with fail
  refine (daa8_impl _ _ _ hL6.out).mono ?_
  rintro e wx ⟨rfl, ex⟩
  subst ex
  rw [hd0]
  clear hd0 hL6
  go_wp2
  go_ret
  exact ⟨rfl, B6.out⟩

theorem door_met (os : Os) (args : Array Value) : laidMetH Tryd.prog Rows.fnDaaRow.laid ((World.doorLaid Tryd.prog 400 os).forCall (fun _ _ => 0) ⟨#[], args, []⟩).memory :=
  laidMetH_of_parts3 (fuel := 8) (laidMet_of_run' 8 (by kernel_rfl) (by kernel_rfl)) (by kernel_rfl) (by kernel_rfl)

set_option maxRecDepth 100000 in
theorem lifted (os : Os) (started : os.Started) (H : Type) (enc : TypeId × Value → H) :
    ReturnsInHanded {} Tryd.checked os 3 .any (fun w args => (Rows.fnDaaSpec.pre enc Tryd.prog Tryd.f3 [] false w args ∧ laidMetH Tryd.prog Rows.fnDaaRow.laid w) ∧ sizedMet enc Tryd.prog Tryd.f3 (OpenSpec.ofChange Rows.fnDaaSpec) false w args)
      (Rows.fnDaaSpec.post enc Tryd.prog Tryd.f3 false true false false) := by
  refine returnsInHanded_of_change_and (C := Tryd.checked) (X := fun w _ => laidMetH Tryd.prog Rows.fnDaaRow.laid w) (fun _ _ _ hh h => h.of_heap hh) own started (by kernel_rfl) Tryd.func3
    (ChangeSpec.witness_shaped (enc := enc) (C := Tryd.checked) (os := os) (X := fun w _ => laidMetH Tryd.prog Rows.fnDaaRow.laid w) false (World.doorLaid Tryd.prog 400 os) #[.slice none 0 0, .slice none 0 0] 8 rfl (World.shaped_of_RefB (by kernel_rfl) (by kernel_rfl)) (by kernel_rfl) (by kernel_rfl) (by kernel_rfl) (door_met os _)) ?_
  intro W base args ds gs before hval0 hW _ _ hL _
  have hval : ∀ (j : Nat) t v, Tryd.f3.params[j]? = some t → args[j]? = some v → Value.okWide Tryd.prog W .any base t v := hval0
  have hW' := hW
  obtain ⟨p, q, hA0, hV, hbefore, hfz, hnd⟩ := hW
  have hA : DataW.TrodAll enc Tryd.prog W 0 (fun _ => true) true Tryd.f3.params.toList args.toList ds p := hA0
  rw [Tryd.params3] at hA hval
  obtain ⟨v0, vs0, d0, ds0, p0, q0, hargs, rfl, rfl, h0, r0⟩ := trodAll_cons hA
  obtain ⟨v1, vs1, d1, ds1, p1, q1, rfl, rfl, rfl, h1, r1⟩ := trodAll_cons r0
  obtain ⟨rfl, rfl, rfl⟩ := trodAll_nil r1
  obtain rfl : args = #[v0, v1] := by cases args; simp_all
  obtain ⟨g0, rfl⟩ := vars1_form hV
  obtain ⟨a0, len0, cap0, rfl⟩ := okWide_slice Tryd.underlying22 (hval 0 22 v0 rfl rfl)
  have k0 := h0
  have lt0 : ∀ x ∈ p0, x.block < W.heap.size := by obtain ⟨m, hm⟩ := k0; exact DataW.trod_lt m _ _ _ hm
  obtain ⟨z0, w0⟩ : ∃ zs, IsRow .u8 W a0 len0 cap0 zs := by
    obtain ⟨fuel, hf⟩ := h0
    rcases open_ints Tryd.underlying22 Tryd.underlying5 (by kernel_rfl) hf with ⟨hcs, _⟩ | ⟨x, l, c, zs, hcs, _, hl, hm, hz, _, hcell, hwz⟩
    · simp [Value.cells] at hcs
      obtain ⟨rfl, rfl, rfl⟩ := hcs
      exact ⟨[], .inl ⟨rfl, rfl, rfl, rfl⟩⟩
    · simp [Value.cells] at hcs
      obtain ⟨rfl, rfl, rfl⟩ := hcs
      exact ⟨zs, .inr ⟨_, rfl, hl, hm, by simpa using hz, hcell, hwz⟩⟩
  obtain ⟨a1, len1, cap1, rfl⟩ := okWide_slice Tryd.underlying22 (hval 1 22 v1 rfl rfl)
  have k1 := h1
  have lt1 : ∀ x ∈ p1, x.block < W.heap.size := by obtain ⟨m, hm⟩ := k1; exact DataW.trod_lt m _ _ _ hm
  obtain ⟨z1, w1⟩ : ∃ zs, IsRow .u8 W a1 len1 cap1 zs := by
    obtain ⟨fuel, hf⟩ := h1
    rcases open_ints Tryd.underlying22 Tryd.underlying5 (by kernel_rfl) hf with ⟨hcs, _⟩ | ⟨x, l, c, zs, hcs, _, hl, hm, hz, _, hcell, hwz⟩
    · simp [Value.cells] at hcs
      obtain ⟨rfl, rfl, rfl⟩ := hcs
      exact ⟨[], .inl ⟨rfl, rfl, rfl, rfl⟩⟩
    · simp [Value.cells] at hcs
      obtain ⟨rfl, rfl, rfl⟩ := hcs
      exact ⟨zs, .inr ⟨_, rfl, hl, hm, by simpa using hz, hcell, hwz⟩⟩
  clear hA0 hval0
  refine (walk a0 len0 cap0 z0 a1 len1 cap1 z1 W w0 w1 (flags_of hL)).mono fun e W' ⟨he, bel⟩ => ?_
  subst he
  exact ⟨_, rfl, _, _, _, [], _, _, hW', trodAll_mk1 (shut_bool Tryd.underlying4 _), (trodAll_cons_mk (Below.trod laidOut (by kernel_rfl) (of_decide_eq_true (by kernel_rfl)) k0 bel lt0) (trodAll_cons_mk (Below.trod laidOut (by kernel_rfl) (of_decide_eq_true (by kernel_rfl)) k1 bel lt1) trodAll_mk0)), Below.trodVars laidOut bel (by kernel_rfl) hV, bel.frame _, fun h => by cases h⟩

theorem said : Rows.FnDaaSaid :=
  OpenClaim.holds_of_wide 3 Tryd.f3 rfl rfl rfl rfl rfl rfl rfl ⟨rfl, rfl, rfl, rfl, rfl⟩ rfl rfl rfl rfl rfl (by kernel_rfl) Tryd.func3 (by kernel_rfl)
    (of_decide_eq_true (by kernel_rfl)) (by unfold Func.isWrapper; first | (rw [if_pos (by decide +kernel)]; kernel_rfl) | (rw [if_neg (by decide +kernel)]; exact ⟨rfl, rfl⟩))
    (fun os started H enc _ => lifted os started H enc)

theorem card : Rows.FnDaaCardSaid :=
  Claim7.holds_tied_plain_at .later [] _ _ _ _ said (fun _ h => by cases h) (by kernel_rfl) (fun _ h => by cases h) fnDaa_row_tie rfl ⟨rfl, rfl⟩ (by kernel_rfl) rfl
    (fun f fn hf hfn => by
      obtain rfl : f = 3 := Option.some.inj ((show Tryd.prog.funcNamed "loop.example/g00644/laws.FnDaa" = some 3 by kernel_rfl).symm.trans hf) |>.symm
      obtain rfl : fn = Tryd.f3 := (Option.some.inj (Tryd.func3.symm.trans hfn)).symm
      exact ⟨by kernel_rfl, fun j t ht => by
        rw [Tryd.params3] at ht
        have hm : t ∈ [22, 22] := by simpa using Array.mem_of_getElem? ht
        have hall : ([22, 22].all fun u => !Tryd.prog.wantsStandIn u) = true := by kernel_rfl
        exact (show Tryd.prog.wantsStandIn t = false by simpa using List.all_eq_true.1 hall t hm)⟩)
    (by kernel_rfl)
end Go.Proofs.YtffogcielohoeabDoor.fnDaa
namespace Go.Proofs.YtffogcielohoeabDoor
theorem fnDaa_holds : Rows.FnDaaCardSaid := fnDaa.card
#print axioms fnDaa_holds
end Go.Proofs.YtffogcielohoeabDoor
