/- For all bytes the law FnSteps returns true: one more and one less is as it was, and the carry stays; the program's table of flags being as its text lays it. -/
import Derived.Test.YtffogcielohoeaaDoorCards
import Derived.Test.YtffogcielohoeaaDoorTie
import Derived.Test.YtffogcielohoeaaDoorBase
import Derived.Test.YtffogcielohoeaaDoorBt
import Derived.Test.YtffogcielohoeaaDoorIn
import Derived.Test.YtffogcielohoeaaDoorPa
import Derived.Test.YtffogcielohoeaaDoorAu
import Derived.Test.YtffogcielohoeaaDoorAd
import Derived.Test.YtffogcielohoeaaDoorAe
import Derived.Test.YtffogcielohoeaaDoorAf
import Derived.Test.YtffogcielohoeaaDoorAg
import Derived.Test.YtffogcielohoeaaDoorAh
import Derived.Test.YtffogcielohoeaaDoorPf
import Derived.Test.YtffogcielohoeaaDoorPr
import Derived.Test.YtffogcielohoeaaDoorPs
import Derived.Test.YtffogcielohoeaaDoorWf
import Derived.Test.YtffogcielohoeaaDoorAt
import Derived.Test.YtffogcielohoeaaDoorFa
import Derived.WalkKit
import Derived.ProofKit
import Derived.OpenShut
import Derived.ShutString
import Derived.ChangeOld
import Derived.Below
import Derived.LaidMore
import Derived.OpenVars
import Derived.SevenTiedAt
import Derived.Stop.Joined
import Derived.Lib.SmallJoins
namespace Go.Proofs.YtffogcielohoeaaDoor.fnSteps
open Go.ChangeShapes Go.WideShapes Go.ChangeAt Go.RowKit Go.Joins
open Go.ChangeMaps (open_string shut_string)
set_option linter.unusedVariables false

theorem own : ownKnob Tryd.prog.godebug = none := by kernel_rfl
theorem laidOut : laidOutB Tryd.prog = true := by kernel_rfl

def IsRow (k : IntKind) (w : World) (a : Option Addr) (len cap : Nat) (zs : List Int) : Prop :=
  (a = none ∧ len = 0 ∧ cap = 0 ∧ zs = []) ∨
  ∃ x, a = some x ∧ len ≤ cap ∧ cap ≤ maxLen ∧ zs.length = cap ∧ (∀ i, i < zs.length → w.cell? (x.add i) = some (.int k (zs.getD i 0))) ∧ ∀ n ∈ zs, (Lit.int k n).wf = true

set_option maxHeartbeats 4000000 in
theorem walk (a0 : Option Addr) (len0 cap0 : Nat) (z0 : List Int) (a1 : Option Addr) (len1 cap1 : Nat) (z1 : List Int) (w : World) (w0 : IsRow .u8 w a0 len0 cap0 z0) (w1 : IsRow .u8 w a1 len1 cap1 z1) (hL : Flags w) :
    Calls Tryd.prog 6 #[.slice a0 len0 cap0, .slice a1 len1 cap1] w fun e w' => e = .returned (.bool true) ∧ Below w.heap.size w w' := by
  have hc0 := codeAt_of w0
  have hc1 := codeAt_of w1
  have hnn : ∀ (zs : List Int) (a : Option Addr) (len cap : Nat), IsRow .u8 w a len cap zs → len ≤ maxLen := by
    intro zs a len cap h
    rcases h with ⟨_, rfl, _, _⟩ | ⟨x, _, hl, hm, _⟩
    · exact Nat.zero_le _
    · omega
  have hl0 := hnn _ _ _ _ w0
  have hl1 := hnn _ _ _ _ w1
  clear hnn w0 w1
  unfold maxLen at hl0 hl1
  by_cases h1 : 1048576 < len0
  · go_enter Tryd.func6, Tryd.ntmps6
    go_wp2
    go_ret
    exact ⟨rfl, Below.refl _ _⟩
  by_cases h2 : 1048576 < len1
  · go_enter Tryd.func6, Tryd.ntmps6
    go_wp2
    go_ret
    exact ⟨rfl, Below.refl _ _⟩
  go_enter Tryd.func6, Tryd.ntmps6
  go_wp2_with fail
  refine (at_val _ _ _ 0 256 _ _ hc1 (by omega) (by omega) (by omega)).mono ?_
  rintro e w1 ⟨rfl, hb1⟩
  obtain ⟨a, ea, ha⟩ : ∃ a : Nat, atV w a1 len1 0 256 = (a : Int) ∧ a < 256 := by
    have := atV_bd (w := w) (a := a1) (len := len1) (i := 0) (n := 256) (by omega)
    exact ⟨(atV w a1 len1 0 256).toNat, by omega, by omega⟩
  rw [ea]
  clear ea
  have B1 := hb1
  go_wp2_with fail
  refine (at_val _ _ _ 1 256 _ _ (hc1.below B1 B1.size) (by omega) (by omega) (by omega)).mono ?_
  rintro e w2 ⟨rfl, hb2⟩
  obtain ⟨f, eb, hf⟩ : ∃ f : Nat, atV w1 a1 len1 1 256 = (f : Int) ∧ f < 256 := by
    have := atV_bd (w := w1) (a := a1) (len := len1) (i := 1) (n := 256) (by omega)
    exact ⟨(atV w1 a1 len1 1 256).toNat, by omega, by omega⟩
  rw [eb]
  clear eb
  have B2 : Below w.heap.size w w2 := B1.trans (hb2.mono B1.size)
  clear hb1 hb2 B1
  have hL3 := flags_below hL B2
  clear hL hc0 hc1
  have e1 : inc8V a f = .tuple #[.int .i64 (incV a), .int .i64 (incF a f), .int .i64 0] := by
    unfold inc8V
    rw [show askB (a : Int) (f : Int) 0 = true from ask_nat a f 0 ha hf (by decide)]
    simp
  have e2 : dec8V (incV a : Nat) (incF a f : Nat) = .tuple #[.int .i64 (decV (incV a)), .int .i64 (decF (incV a) (incF a f)), .int .i64 0] := by
    unfold dec8V
    rw [show askB ((incV a : Nat) : Int) ((incF a f : Nat) : Int) 0 = true from ask_nat _ _ 0 (incV_lt a) (incF_lt a f) (by decide)]
    simp
  rw [dec_back a ha] at e2
  have r1 : bits .and .i64 (f : Int) 1 = (Nat.land f 1 : Nat) := bAnd _ 1 (by omega) (by omega)
  have r2 : bits .and .i64 ((decF (incV a) (incF a f) : Nat) : Int) 1 = (Nat.land (decF (incV a) (incF a f)) 1 : Nat) := bAnd _ 1 (by have := decF_lt (incV a) (incF a f); omega) (by omega)
  rw [decF_keeps, incF_keeps] at r2
  have f1 : ((a : Int) + 1) % 256 = ((incV a : Nat) : Int) := by rw [incV_mod]; omega
  generalize decF (incV a) (incF a f) = H at *
  generalize incF a f = G at *
  generalize incV a = X at *
  generalize Nat.land f 1 = C at *
  go_wp2_with (first | (go_at_call 22; refine (inc8_impl _ _ _ hL3).mono ?_; rintro e w' ⟨rfl, rfl⟩; rw [e1]) | (go_at_call 23; refine (inc8_spec _ _ _).mono ?_; rintro e w' ⟨rfl, rfl⟩; rw [e1]) | (go_at_call 24; refine (dec8_impl _ _ _ hL3).mono ?_; rintro e w' ⟨rfl, rfl⟩; rw [e2]) | (go_at_call 25; refine (dec8_spec _ _ _).mono ?_; rintro e w' ⟨rfl, rfl⟩; rw [e2]))
  go_ret
  exact ⟨rfl, B2⟩

theorem door_met (os : Os) (args : Array Value) : laidMetH Tryd.prog Rows.fnStepsRow.laid ((World.doorLaid Tryd.prog 400 os).forCall (fun _ _ => 0) ⟨#[], args, []⟩).memory :=
  laidMetH_of_parts3 (fuel := 8) (laidMet_of_run' 8 (by kernel_rfl) (by kernel_rfl)) (by kernel_rfl) (by kernel_rfl)

set_option maxRecDepth 100000 in
theorem lifted (os : Os) (started : os.Started) (H : Type) (enc : TypeId × Value → H) :
    ReturnsInHanded {} Tryd.checked os 6 .any (fun w args => (Rows.fnStepsSpec.pre enc Tryd.prog Tryd.f6 [] false w args ∧ laidMetH Tryd.prog Rows.fnStepsRow.laid w) ∧ sizedMet enc Tryd.prog Tryd.f6 (OpenSpec.ofChange Rows.fnStepsSpec) false w args)
      (Rows.fnStepsSpec.post enc Tryd.prog Tryd.f6 false true false false) := by
  refine returnsInHanded_of_change_and (C := Tryd.checked) (X := fun w _ => laidMetH Tryd.prog Rows.fnStepsRow.laid w) (fun _ _ _ hh h => h.of_heap hh) own started (by kernel_rfl) Tryd.func6
    (ChangeSpec.witness_shaped (enc := enc) (C := Tryd.checked) (os := os) (X := fun w _ => laidMetH Tryd.prog Rows.fnStepsRow.laid w) false (World.doorLaid Tryd.prog 400 os) #[.slice none 0 0, .slice none 0 0] 8 rfl (World.shaped_of_RefB (by kernel_rfl) (by kernel_rfl)) (by kernel_rfl) (by kernel_rfl) (by kernel_rfl) (door_met os _)) ?_
  intro W base args ds gs before hval0 hW _ _ hL _
  have hval : ∀ (j : Nat) t v, Tryd.f6.params[j]? = some t → args[j]? = some v → Value.okWide Tryd.prog W .any base t v := hval0
  have hW' := hW
  obtain ⟨p, q, hA0, hV, hbefore, hfz, hnd⟩ := hW
  have hA : DataW.TrodAll enc Tryd.prog W 0 (fun _ => true) true Tryd.f6.params.toList args.toList ds p := hA0
  rw [Tryd.params6] at hA hval
  obtain ⟨v0, vs0, d0, ds0, p0, q0, hargs, rfl, rfl, h0, r0⟩ := trodAll_cons hA
  obtain ⟨v1, vs1, d1, ds1, p1, q1, rfl, rfl, rfl, h1, r1⟩ := trodAll_cons r0
  obtain ⟨rfl, rfl, rfl⟩ := trodAll_nil r1
  obtain rfl : args = #[v0, v1] := by cases args; simp_all
  obtain ⟨g0, rfl⟩ := vars1_form hV
  obtain ⟨a0, len0, cap0, rfl⟩ := okWide_slice Tryd.underlying22 (hval 0 22 v0 rfl rfl)
  have k0 := h0
  have lt0 : ∀ x ∈ p0, x.block < W.heap.size := by obtain ⟨m, hm⟩ := k0; exact DataW.trod_lt m _ _ _ hm
  obtain ⟨z0, w0⟩ : ∃ zs, IsRow .u8 W a0 len0 cap0 zs := by
    obtain ⟨fuel, hf⟩ := h0
    rcases open_ints Tryd.underlying22 Tryd.underlying5 (by kernel_rfl) hf with ⟨hcs, _⟩ | ⟨x, l, c, zs, hcs, _, hl, hm, hz, _, hcell, hwz⟩
    · simp [Value.cells] at hcs
      obtain ⟨rfl, rfl, rfl⟩ := hcs
      exact ⟨[], .inl ⟨rfl, rfl, rfl, rfl⟩⟩
    · simp [Value.cells] at hcs
      obtain ⟨rfl, rfl, rfl⟩ := hcs
      exact ⟨zs, .inr ⟨_, rfl, hl, hm, by simpa using hz, hcell, hwz⟩⟩
  obtain ⟨a1, len1, cap1, rfl⟩ := okWide_slice Tryd.underlying22 (hval 1 22 v1 rfl rfl)
  have k1 := h1
  have lt1 : ∀ x ∈ p1, x.block < W.heap.size := by obtain ⟨m, hm⟩ := k1; exact DataW.trod_lt m _ _ _ hm
  obtain ⟨z1, w1⟩ : ∃ zs, IsRow .u8 W a1 len1 cap1 zs := by
    obtain ⟨fuel, hf⟩ := h1
    rcases open_ints Tryd.underlying22 Tryd.underlying5 (by kernel_rfl) hf with ⟨hcs, _⟩ | ⟨x, l, c, zs, hcs, _, hl, hm, hz, _, hcell, hwz⟩
    · simp [Value.cells] at hcs
      obtain ⟨rfl, rfl, rfl⟩ := hcs
      exact ⟨[], .inl ⟨rfl, rfl, rfl, rfl⟩⟩
    · simp [Value.cells] at hcs
      obtain ⟨rfl, rfl, rfl⟩ := hcs
      exact ⟨zs, .inr ⟨_, rfl, hl, hm, by simpa using hz, hcell, hwz⟩⟩
  clear hA0 hval0
  refine (walk a0 len0 cap0 z0 a1 len1 cap1 z1 W w0 w1 (flags_of hL)).mono fun e W' ⟨he, bel⟩ => ?_
  subst he
  exact ⟨_, rfl, _, _, _, [], _, _, hW', trodAll_mk1 (shut_bool Tryd.underlying4 _), (trodAll_cons_mk (Below.trod laidOut (by kernel_rfl) (of_decide_eq_true (by kernel_rfl)) k0 bel lt0) (trodAll_cons_mk (Below.trod laidOut (by kernel_rfl) (of_decide_eq_true (by kernel_rfl)) k1 bel lt1) trodAll_mk0)), Below.trodVars laidOut bel (by kernel_rfl) hV, bel.frame _, fun h => by cases h⟩

theorem said : Rows.FnStepsSaid :=
  OpenClaim.holds_of_wide 6 Tryd.f6 rfl rfl rfl rfl rfl rfl rfl ⟨rfl, rfl, rfl, rfl, rfl⟩ rfl rfl rfl rfl rfl (by kernel_rfl) Tryd.func6 (by kernel_rfl)
    (of_decide_eq_true (by kernel_rfl)) (by unfold Func.isWrapper; first | (rw [if_pos (by decide +kernel)]; kernel_rfl) | (rw [if_neg (by decide +kernel)]; exact ⟨rfl, rfl⟩))
    (fun os started H enc _ => lifted os started H enc)

theorem card : Rows.FnStepsCardSaid :=
  Claim7.holds_tied_plain_at .later [] _ _ _ _ said (fun _ h => by cases h) (by kernel_rfl) (fun _ h => by cases h) fnSteps_row_tie rfl ⟨rfl, rfl⟩ (by kernel_rfl) rfl
    (fun f fn hf hfn => by
      obtain rfl : f = 6 := Option.some.inj ((show Tryd.prog.funcNamed "loop.example/g00644/laws.FnSteps" = some 6 by kernel_rfl).symm.trans hf) |>.symm
      obtain rfl : fn = Tryd.f6 := (Option.some.inj (Tryd.func6.symm.trans hfn)).symm
      exact ⟨by kernel_rfl, fun j t ht => by
        rw [Tryd.params6] at ht
        have hm : t ∈ [22, 22] := by simpa using Array.mem_of_getElem? ht
        have hall : ([22, 22].all fun u => !Tryd.prog.wantsStandIn u) = true := by kernel_rfl
        exact (show Tryd.prog.wantsStandIn t = false by simpa using List.all_eq_true.1 hall t hm)⟩)
    (by kernel_rfl)
end Go.Proofs.YtffogcielohoeaaDoor.fnSteps
namespace Go.Proofs.YtffogcielohoeaaDoor
theorem fnSteps_holds : Rows.FnStepsCardSaid := fnSteps.card
#print axioms fnSteps_holds
end Go.Proofs.YtffogcielohoeaaDoor
