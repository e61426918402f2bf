/- For all bytes the law FnAdd returns true: a sum's byte and its carry are the sum, and what was added is taken away again; the program's table of flags being as its text lays it. -/
import Derived.Test.YtffogcielohoeaaDoorCards
import Derived.Test.YtffogcielohoeaaDoorTie
import Derived.Test.YtffogcielohoeaaDoorBase
import Derived.Test.YtffogcielohoeaaDoorBt
import Derived.Test.YtffogcielohoeaaDoorIn
import Derived.Test.YtffogcielohoeaaDoorPa
import Derived.Test.YtffogcielohoeaaDoorAu
import Derived.Test.YtffogcielohoeaaDoorAd
import Derived.Test.YtffogcielohoeaaDoorAe
import Derived.Test.YtffogcielohoeaaDoorAf
import Derived.Test.YtffogcielohoeaaDoorAg
import Derived.Test.YtffogcielohoeaaDoorAh
import Derived.Test.YtffogcielohoeaaDoorPf
import Derived.Test.YtffogcielohoeaaDoorPr
import Derived.Test.YtffogcielohoeaaDoorPs
import Derived.Test.YtffogcielohoeaaDoorWf
import Derived.Test.YtffogcielohoeaaDoorAt
import Derived.Test.YtffogcielohoeaaDoorFa
import Derived.WalkKit
import Derived.ProofKit
import Derived.OpenShut
import Derived.ShutString
import Derived.ChangeOld
import Derived.Below
import Derived.LaidMore
import Derived.OpenVars
import Derived.SevenTiedAt
import Derived.Stop.Joined
import Derived.Lib.SmallJoins
namespace Go.Proofs.YtffogcielohoeaaDoor.fnAdd
open Go.ChangeShapes Go.WideShapes Go.ChangeAt Go.RowKit Go.Joins
open Go.ChangeMaps (open_string shut_string)
set_option linter.unusedVariables false

theorem own : ownKnob Tryd.prog.godebug = none := by kernel_rfl
theorem laidOut : laidOutB Tryd.prog = true := by kernel_rfl

def IsRow (k : IntKind) (w : World) (a : Option Addr) (len cap : Nat) (zs : List Int) : Prop :=
  (a = none ∧ len = 0 ∧ cap = 0 ∧ zs = []) ∨
  ∃ x, a = some x ∧ len ≤ cap ∧ cap ≤ maxLen ∧ zs.length = cap ∧ (∀ i, i < zs.length → w.cell? (x.add i) = some (.int k (zs.getD i 0))) ∧ ∀ n ∈ zs, (Lit.int k n).wf = true

set_option maxHeartbeats 4000000 in
theorem walk (a0 : Option Addr) (len0 cap0 : Nat) (z0 : List Int) (a1 : Option Addr) (len1 cap1 : Nat) (z1 : List Int) (w : World) (w0 : IsRow .u8 w a0 len0 cap0 z0) (w1 : IsRow .u8 w a1 len1 cap1 z1) (hL : Flags w) :
    Calls Tryd.prog 4 #[.slice a0 len0 cap0, .slice a1 len1 cap1] w fun e w' => e = .returned (.bool true) ∧ Below w.heap.size w w' := by
  have hc0 := codeAt_of w0
  have hc1 := codeAt_of w1
  have hnn : ∀ (zs : List Int) (a : Option Addr) (len cap : Nat), IsRow .u8 w a len cap zs → len ≤ maxLen := by
    intro zs a len cap h
    rcases h with ⟨_, rfl, _, _⟩ | ⟨x, _, hl, hm, _⟩
    · exact Nat.zero_le _
    · omega
  have hl0 := hnn _ _ _ _ w0
  have hl1 := hnn _ _ _ _ w1
  clear hnn w0 w1
  unfold maxLen at hl0 hl1
  by_cases h1 : 1048576 < len0
  · go_enter Tryd.func4, Tryd.ntmps4
    go_wp2
    go_ret
    exact ⟨rfl, Below.refl _ _⟩
  by_cases h2 : 1048576 < len1
  · go_enter Tryd.func4, Tryd.ntmps4
    go_wp2
    go_ret
    exact ⟨rfl, Below.refl _ _⟩
  go_enter Tryd.func4, Tryd.ntmps4
  go_wp2_with fail
  refine (at_val _ _ _ 0 256 _ _ hc1 (by omega) (by omega) (by omega)).mono ?_
  rintro e w1 ⟨rfl, hb1⟩
  obtain ⟨a, ea, ha⟩ : ∃ a : Nat, atV w a1 len1 0 256 = (a : Int) ∧ a < 256 := by
    have := atV_bd (w := w) (a := a1) (len := len1) (i := 0) (n := 256) (by omega)
    exact ⟨(atV w a1 len1 0 256).toNat, by omega, by omega⟩
  rw [ea]
  clear ea
  have B1 := hb1
  go_wp2_with fail
  refine (at_val _ _ _ 1 256 _ _ (hc1.below B1 B1.size) (by omega) (by omega) (by omega)).mono ?_
  rintro e w2 ⟨rfl, hb2⟩
  obtain ⟨b, eb, hb⟩ : ∃ b : Nat, atV w1 a1 len1 1 256 = (b : Int) ∧ b < 256 := by
    have := atV_bd (w := w1) (a := a1) (len := len1) (i := 1) (n := 256) (by omega)
    exact ⟨(atV w1 a1 len1 1 256).toNat, by omega, by omega⟩
  rw [eb]
  clear eb
  have B2 : Below w.heap.size w w2 := B1.trans (hb2.mono B1.size)
  clear hb1 hb2 B1
  go_wp2_with fail
  refine (at_val _ _ _ 0 2 _ _ (hc0.below B2 B2.size) (by omega) (by omega) (by omega)).mono ?_
  rintro e w3 ⟨rfl, hb3⟩
  obtain ⟨c, ec, hc⟩ : ∃ c : Nat, atV w2 a0 len0 0 2 = (c : Int) ∧ c < 2 := by
    have := atV_bd (w := w2) (a := a0) (len := len0) (i := 0) (n := 2) (by omega)
    exact ⟨(atV w2 a0 len0 0 2).toNat, by omega, by omega⟩
  rw [ec]
  clear ec
  have B3 : Below w.heap.size w w3 := B2.trans (hb3.mono B2.size)
  have hL3 := flags_below hL B3
  clear hb3 B2 hL hc0 hc1
  have e1 : add8V a b c = .tuple #[.int .i64 (addV a b c), .int .i64 (addF a b c), .int .i64 0] := by
    unfold add8V
    rw [ask_nat a b c ha hb hc]
    simp
  have e2 : sub8V (addV a b c : Nat) b c = .tuple #[.int .i64 (subV (addV a b c) b c), .int .i64 (subF (addV a b c) b c), .int .i64 0] := by
    unfold sub8V
    rw [ask_nat (addV a b c) b c (addV_lt a b c) hb hc]
    simp
  have f1 := addV_sum a b c ha hb hc
  have f2 := sub_back a b c ha hb hc
  have f3 := sub_carry a b c ha hb hc
  obtain ⟨f4, f5, f6⟩ := addF_tells a b c
  obtain ⟨f7, f8⟩ := subF_tells (addV a b c) b c
  have r1 : bits .and .i64 ((addF a b c : Nat) : Int) 1 = (Nat.land (addF a b c) 1 : Nat) := bAnd _ 1 (by have := addF_lt a b c; omega) (by omega)
  have r2 : bits .and .i64 ((addF a b c : Nat) : Int) 64 = (Nat.land (addF a b c) 64 : Nat) := bAnd _ 64 (by have := addF_lt a b c; omega) (by omega)
  have r3 : bits .and .i64 ((addF a b c : Nat) : Int) 2 = (Nat.land (addF a b c) 2 : Nat) := bAnd _ 2 (by have := addF_lt a b c; omega) (by omega)
  have r4 : bits .and .i64 ((subF (addV a b c) b c : Nat) : Int) 1 = (Nat.land (subF (addV a b c) b c) 1 : Nat) := bAnd _ 1 (by have := subF_lt (addV a b c) b c; omega) (by omega)
  have r5 : bits .and .i64 ((subF (addV a b c) b c : Nat) : Int) 2 = (Nat.land (subF (addV a b c) b c) 2 : Nat) := bAnd _ 2 (by have := subF_lt (addV a b c) b c; omega) (by omega)
  have hV := addV_lt a b c
  have hcb : Nat.land (addF a b c) 1 < 2 := bit_lt _
  rw [f2] at e2
  rw [f3] at r4
  rw [f6] at r3
  rw [f8] at r5
  have f5' : ((((Nat.land (addF a b c) 64 : Nat) : Int) != 0) == (((addV a b c : Nat) : Int) == 0)) = true := by
    rw [eq0_nat, bne, eq0_nat, f5]
    cases Nat.beq (addV a b c) 0 <;> rfl
  clear f2 f3 f4 f5 f6 f7 f8
  generalize addV a b c = V at *
  generalize subF V b c = G at *
  generalize Nat.land (addF a b c) 64 = Z at *
  generalize Nat.land (addF a b c) 1 = C1 at *
  generalize addF a b c = F at *
  go_wp2_with (first | (go_at_call 14; refine (add8_impl _ _ _ _ hL3).mono ?_; rintro e w' ⟨rfl, rfl⟩; rw [e1]) | (go_at_call 15; refine (add8_spec _ _ _ _).mono ?_; rintro e w' ⟨rfl, rfl⟩; rw [e1]) | (go_at_call 16; refine (sub8_impl _ _ _ _ hL3).mono ?_; rintro e w' ⟨rfl, rfl⟩; rw [e2]) | (go_at_call 17; refine (sub8_spec _ _ _ _).mono ?_; rintro e w' ⟨rfl, rfl⟩; rw [e2]))
  trace_state
  go_ret
  exact ⟨rfl, B3⟩

theorem door_met (os : Os) (args : Array Value) : laidMetH Tryd.prog Rows.fnAddRow.laid ((World.doorLaid Tryd.prog 400 os).forCall (fun _ _ => 0) ⟨#[], args, []⟩).memory :=
  laidMetH_of_parts3 (fuel := 8) (laidMet_of_run' 8 (by kernel_rfl) (by kernel_rfl)) (by kernel_rfl) (by kernel_rfl)

set_option maxRecDepth 100000 in
theorem lifted (os : Os) (started : os.Started) (H : Type) (enc : TypeId × Value → H) :
    ReturnsInHanded {} Tryd.checked os 4 .any (fun w args => (Rows.fnAddSpec.pre enc Tryd.prog Tryd.f4 [] false w args ∧ laidMetH Tryd.prog Rows.fnAddRow.laid w) ∧ sizedMet enc Tryd.prog Tryd.f4 (OpenSpec.ofChange Rows.fnAddSpec) false w args)
      (Rows.fnAddSpec.post enc Tryd.prog Tryd.f4 false true false false) := by
  refine returnsInHanded_of_change_and (C := Tryd.checked) (X := fun w _ => laidMetH Tryd.prog Rows.fnAddRow.laid w) (fun _ _ _ hh h => h.of_heap hh) own started (by kernel_rfl) Tryd.func4
    (ChangeSpec.witness_shaped (enc := enc) (C := Tryd.checked) (os := os) (X := fun w _ => laidMetH Tryd.prog Rows.fnAddRow.laid w) false (World.doorLaid Tryd.prog 400 os) #[.slice none 0 0, .slice none 0 0] 8 rfl (World.shaped_of_RefB (by kernel_rfl) (by kernel_rfl)) (by kernel_rfl) (by kernel_rfl) (by kernel_rfl) (door_met os _)) ?_
  intro W base args ds gs before hval0 hW _ _ hL _
  have hval : ∀ (j : Nat) t v, Tryd.f4.params[j]? = some t → args[j]? = some v → Value.okWide Tryd.prog W .any base t v := hval0
  have hW' := hW
  obtain ⟨p, q, hA0, hV, hbefore, hfz, hnd⟩ := hW
  have hA : DataW.TrodAll enc Tryd.prog W 0 (fun _ => true) true Tryd.f4.params.toList args.toList ds p := hA0
  rw [Tryd.params4] at hA hval
  obtain ⟨v0, vs0, d0, ds0, p0, q0, hargs, rfl, rfl, h0, r0⟩ := trodAll_cons hA
  obtain ⟨v1, vs1, d1, ds1, p1, q1, rfl, rfl, rfl, h1, r1⟩ := trodAll_cons r0
  obtain ⟨rfl, rfl, rfl⟩ := trodAll_nil r1
  obtain rfl : args = #[v0, v1] := by cases args; simp_all
  obtain ⟨g0, rfl⟩ := vars1_form hV
  obtain ⟨a0, len0, cap0, rfl⟩ := okWide_slice Tryd.underlying22 (hval 0 22 v0 rfl rfl)
  have k0 := h0
  have lt0 : ∀ x ∈ p0, x.block < W.heap.size := by obtain ⟨m, hm⟩ := k0; exact DataW.trod_lt m _ _ _ hm
  obtain ⟨z0, w0⟩ : ∃ zs, IsRow .u8 W a0 len0 cap0 zs := by
    obtain ⟨fuel, hf⟩ := h0
    rcases open_ints Tryd.underlying22 Tryd.underlying5 (by kernel_rfl) hf with ⟨hcs, _⟩ | ⟨x, l, c, zs, hcs, _, hl, hm, hz, _, hcell, hwz⟩
    · simp [Value.cells] at hcs
      obtain ⟨rfl, rfl, rfl⟩ := hcs
      exact ⟨[], .inl ⟨rfl, rfl, rfl, rfl⟩⟩
    · simp [Value.cells] at hcs
      obtain ⟨rfl, rfl, rfl⟩ := hcs
      exact ⟨zs, .inr ⟨_, rfl, hl, hm, by simpa using hz, hcell, hwz⟩⟩
  obtain ⟨a1, len1, cap1, rfl⟩ := okWide_slice Tryd.underlying22 (hval 1 22 v1 rfl rfl)
  have k1 := h1
  have lt1 : ∀ x ∈ p1, x.block < W.heap.size := by obtain ⟨m, hm⟩ := k1; exact DataW.trod_lt m _ _ _ hm
  obtain ⟨z1, w1⟩ : ∃ zs, IsRow .u8 W a1 len1 cap1 zs := by
    obtain ⟨fuel, hf⟩ := h1
    rcases open_ints Tryd.underlying22 Tryd.underlying5 (by kernel_rfl) hf with ⟨hcs, _⟩ | ⟨x, l, c, zs, hcs, _, hl, hm, hz, _, hcell, hwz⟩
    · simp [Value.cells] at hcs
      obtain ⟨rfl, rfl, rfl⟩ := hcs
      exact ⟨[], .inl ⟨rfl, rfl, rfl, rfl⟩⟩
    · simp [Value.cells] at hcs
      obtain ⟨rfl, rfl, rfl⟩ := hcs
      exact ⟨zs, .inr ⟨_, rfl, hl, hm, by simpa using hz, hcell, hwz⟩⟩
  clear hA0 hval0
  refine (walk a0 len0 cap0 z0 a1 len1 cap1 z1 W w0 w1 (flags_of hL)).mono fun e W' ⟨he, bel⟩ => ?_
  subst he
  exact ⟨_, rfl, _, _, _, [], _, _, hW', trodAll_mk1 (shut_bool Tryd.underlying4 _), (trodAll_cons_mk (Below.trod laidOut (by kernel_rfl) (of_decide_eq_true (by kernel_rfl)) k0 bel lt0) (trodAll_cons_mk (Below.trod laidOut (by kernel_rfl) (of_decide_eq_true (by kernel_rfl)) k1 bel lt1) trodAll_mk0)), Below.trodVars laidOut bel (by kernel_rfl) hV, bel.frame _, fun h => by cases h⟩

theorem said : Rows.FnAddSaid :=
  OpenClaim.holds_of_wide 4 Tryd.f4 rfl rfl rfl rfl rfl rfl rfl ⟨rfl, rfl, rfl, rfl, rfl⟩ rfl rfl rfl rfl rfl (by kernel_rfl) Tryd.func4 (by kernel_rfl)
    (of_decide_eq_true (by kernel_rfl)) (by unfold Func.isWrapper; first | (rw [if_pos (by decide +kernel)]; kernel_rfl) | (rw [if_neg (by decide +kernel)]; exact ⟨rfl, rfl⟩))
    (fun os started H enc _ => lifted os started H enc)

theorem card : Rows.FnAddCardSaid :=
  Claim7.holds_tied_plain_at .later [] _ _ _ _ said (fun _ h => by cases h) (by kernel_rfl) (fun _ h => by cases h) fnAdd_row_tie rfl ⟨rfl, rfl⟩ (by kernel_rfl) rfl
    (fun f fn hf hfn => by
      obtain rfl : f = 4 := Option.some.inj ((show Tryd.prog.funcNamed "loop.example/g00644/laws.FnAdd" = some 4 by kernel_rfl).symm.trans hf) |>.symm
      obtain rfl : fn = Tryd.f4 := (Option.some.inj (Tryd.func4.symm.trans hfn)).symm
      exact ⟨by kernel_rfl, fun j t ht => by
        rw [Tryd.params4] at ht
        have hm : t ∈ [22, 22] := by simpa using Array.mem_of_getElem? ht
        have hall : ([22, 22].all fun u => !Tryd.prog.wantsStandIn u) = true := by kernel_rfl
        exact (show Tryd.prog.wantsStandIn t = false by simpa using List.all_eq_true.1 hall t hm)⟩)
    (by kernel_rfl)
end Go.Proofs.YtffogcielohoeaaDoor.fnAdd
namespace Go.Proofs.YtffogcielohoeaaDoor
theorem fnAdd_holds : Rows.FnAddCardSaid := fnAdd.card
#print axioms fnAdd_holds
end Go.Proofs.YtffogcielohoeaaDoor
