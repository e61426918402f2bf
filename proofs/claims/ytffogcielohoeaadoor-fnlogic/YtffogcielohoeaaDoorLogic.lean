/- For all bytes the law FnLogic returns true: and, or and exclusive or are those of bits, and their flags tell the result; the program's table of flags being as its text lays it. -/
import Derived.Test.YtffogcielohoeaaDoorCards
import Derived.Test.YtffogcielohoeaaDoorTie
import Derived.Test.YtffogcielohoeaaDoorBase
import Derived.Test.YtffogcielohoeaaDoorBt
import Derived.Test.YtffogcielohoeaaDoorIn
import Derived.Test.YtffogcielohoeaaDoorPa
import Derived.Test.YtffogcielohoeaaDoorAu
import Derived.Test.YtffogcielohoeaaDoorAd
import Derived.Test.YtffogcielohoeaaDoorAe
import Derived.Test.YtffogcielohoeaaDoorAf
import Derived.Test.YtffogcielohoeaaDoorAg
import Derived.Test.YtffogcielohoeaaDoorAh
import Derived.Test.YtffogcielohoeaaDoorPf
import Derived.Test.YtffogcielohoeaaDoorPr
import Derived.Test.YtffogcielohoeaaDoorPs
import Derived.Test.YtffogcielohoeaaDoorPt
import Derived.Test.YtffogcielohoeaaDoorPj
import Derived.Test.YtffogcielohoeaaDoorWf
import Derived.Test.YtffogcielohoeaaDoorAt
import Derived.Test.YtffogcielohoeaaDoorFa
import Derived.Test.YtffogcielohoeaaDoorFl
import Derived.WalkKit
import Derived.ProofKit
import Derived.OpenShut
import Derived.ShutString
import Derived.ChangeOld
import Derived.Below
import Derived.LaidMore
import Derived.OpenVars
import Derived.SevenTiedAt
import Derived.Stop.Joined
import Derived.Lib.SmallJoins
import Derived.Deep.Cut
import Derived.Deep.DeepCutAuto
namespace Go.Proofs.YtffogcielohoeaaDoor.fnLogic
open Go.ChangeShapes Go.WideShapes Go.ChangeAt Go.RowKit Go.Joins
open Go.ChangeMaps (open_string shut_string)
set_option linter.unusedVariables false

theorem own : ownKnob Tryd.prog.godebug = none := by kernel_rfl
theorem laidOut : laidOutB Tryd.prog = true := by kernel_rfl

def IsRow (k : IntKind) (w : World) (a : Option Addr) (len cap : Nat) (zs : List Int) : Prop :=
  (a = none ∧ len = 0 ∧ cap = 0 ∧ zs = []) ∨
  ∃ x, a = some x ∧ len ≤ cap ∧ cap ≤ maxLen ∧ zs.length = cap ∧ (∀ i, i < zs.length → w.cell? (x.add i) = some (.int k (zs.getD i 0))) ∧ ∀ n ∈ zs, (Lit.int k n).wf = true

set_option maxRecDepth 100000 in
set_option maxHeartbeats 8000000 in
theorem walk (a0 : Option Addr) (len0 cap0 : Nat) (z0 : List Int) (a1 : Option Addr) (len1 cap1 : Nat) (z1 : List Int) (w : World) (w0 : IsRow .u8 w a0 len0 cap0 z0) (w1 : IsRow .u8 w a1 len1 cap1 z1) (hL : Flags w) :
    Calls Tryd.prog 5 #[.slice a0 len0 cap0, .slice a1 len1 cap1] w fun e w' => e = .returned (.bool true) ∧ Below w.heap.size w w' := by
  have hc0 := codeAt_of w0
  have hc1 := codeAt_of w1
  have hnn : ∀ (zs : List Int) (a : Option Addr) (len cap : Nat), IsRow .u8 w a len cap zs → len ≤ maxLen := by
    intro zs a len cap h
    rcases h with ⟨_, rfl, _, _⟩ | ⟨x, _, hl, hm, _⟩
    · exact Nat.zero_le _
    · omega
  have hl0 := hnn _ _ _ _ w0
  have hl1 := hnn _ _ _ _ w1
  clear hnn w0 w1
  unfold maxLen at hl0 hl1
  by_cases h1 : 1048576 < len0
  · go_enter Tryd.func5, Tryd.ntmps5
    go_wp2
    go_ret
    exact ⟨rfl, Below.refl _ _⟩
  by_cases h2 : 1048576 < len1
  · go_enter Tryd.func5, Tryd.ntmps5
    go_wp2
    go_ret
    exact ⟨rfl, Below.refl _ _⟩
  go_enter Tryd.func5, Tryd.ntmps5
  go_wp2_with fail
  refine (at_val _ _ _ 0 256 _ _ hc1 (by omega) (by omega) (by omega)).mono ?_
  rintro e w1 ⟨rfl, hb1⟩
  obtain ⟨a, ea, ha⟩ : ∃ a : Nat, atV w a1 len1 0 256 = (a : Int) ∧ a < 256 := by
    have := atV_bd (w := w) (a := a1) (len := len1) (i := 0) (n := 256) (by omega)
    exact ⟨(atV w a1 len1 0 256).toNat, by omega, by omega⟩
  rw [ea]
  clear ea
  have B1 := hb1
  go_wp2_with fail
  refine (at_val _ _ _ 1 256 _ _ (hc1.below B1 B1.size) (by omega) (by omega) (by omega)).mono ?_
  rintro e w2 ⟨rfl, hb2⟩
  obtain ⟨b, eb, hb⟩ : ∃ b : Nat, atV w1 a1 len1 1 256 = (b : Int) ∧ b < 256 := by
    have := atV_bd (w := w1) (a := a1) (len := len1) (i := 1) (n := 256) (by omega)
    exact ⟨(atV w1 a1 len1 1 256).toNat, by omega, by omega⟩
  rw [eb]
  clear eb
  have B2 : Below w.heap.size w w2 := B1.trans (hb2.mono B1.size)
  clear hb1 hb2 B1
  have hlen : len0 ≤ 1048576 := by omega
  have hLw : Hid (Flags w) := hL
  replace B2 : Hid _ := B2
  clear hL hc1 hl0 hl1 h1 h2
  have lg : ∀ o : Nat, o < 3 → logic8V (o : Int) a b = .tuple #[.int .i64 (logV o a b), .int .i64 (logF o a b), .int .i64 0] := by
    intro o ho
    unfold logic8V
    rw [show askB (a : Int) (b : Int) 0 = true from ask_nat a b 0 ha hb (by decide), show inB (o : Int) 0 2 = true by simp [inB]; omega]
    simp
  have e0 : logic8V 0 a b = .tuple #[.int .i64 (Nat.land a b : Nat), .int .i64 (Nat.lor (szpN (Nat.land a b)) 16 : Nat), .int .i64 0] := lg 0 (by decide)
  have e1 : logic8V 1 a b = .tuple #[.int .i64 (Nat.xor a b : Nat), .int .i64 (szpN (Nat.xor a b) : Nat), .int .i64 0] := lg 1 (by decide)
  have e2 : logic8V 2 a b = .tuple #[.int .i64 (Nat.lor a b : Nat), .int .i64 (szpN (Nat.lor a b) : Nat), .int .i64 0] := lg 2 (by decide)
  have hX : Nat.land a b < 256 := Nat.and_lt_two_pow (n := 8) _ hb
  have hY : Nat.xor a b < 256 := Nat.xor_lt_two_pow (n := 8) ha hb
  have hZ : Nat.lor a b < 256 := Nat.or_lt_two_pow (n := 8) ha hb
  have rX : bits .and .i64 (a : Int) b = (Nat.land a b : Nat) := bAnd a b (by omega) (by omega)
  have rY : bits .xor .i64 (a : Int) b = (Nat.xor a b : Nat) := bXor a b (by omega) (by omega)
  have rZ : bits .or .i64 (a : Int) b = (Nat.lor a b : Nat) := bOr a b (by omega) (by omega)
  have sXY : ((Nat.land a b : Nat) : Int) + (Nat.xor a b : Nat) = (Nat.lor a b : Nat) := by have := axo a b ha hb; omega
  have hF : Nat.lor (szpN (Nat.land a b)) 16 < 256 := Nat.or_lt_two_pow (n := 8) (szpN_lt _ hX) (by decide)
  obtain ⟨_, p2, p3, _⟩ := par_at _ hX
  obtain ⟨q1, _, _, _⟩ := par_at _ hY
  obtain ⟨_, _, _, s4⟩ := par_at _ hZ
  have r1 : bits .and .i64 ((Nat.lor (szpN (Nat.land a b)) 16 : Nat) : Int) 4 = (Nat.land (Nat.lor (szpN (Nat.land a b)) 16) 4 : Nat) := bAnd _ 4 (by omega) (by omega)
  have r2 : bits .and .i64 ((Nat.lor (szpN (Nat.land a b)) 16 : Nat) : Int) 16 = 16 := by rw [show bits .and .i64 ((Nat.lor (szpN (Nat.land a b)) 16 : Nat) : Int) 16 = _ from bAnd _ 16 (by omega) (by omega), p3]; rfl
  have r3 : bits .and .i64 ((szpN (Nat.xor a b) : Nat) : Int) 4 = (Nat.land (szpN (Nat.xor a b)) 4 : Nat) := bAnd _ 4 (by have := szpN_lt _ hY; omega) (by omega)
  have r4 : bits .and .i64 ((szpN (Nat.lor a b) : Nat) : Int) 64 = (Nat.land (szpN (Nat.lor a b)) 64 : Nat) := bAnd _ 64 (by have := szpN_lt _ hZ; omega) (by omega)
  have g1 : ((((Nat.land (Nat.lor (szpN (Nat.land a b)) 16) 4 : Nat) : Int) != 0) == parB ((Nat.land a b : Nat) : Int)) = true := by
    rw [bne, eq0_nat, p2, parB_nat _ hX]; simp
  have g2 : ((((Nat.land (szpN (Nat.xor a b)) 4 : Nat) : Int) != 0) == parB ((Nat.xor a b : Nat) : Int)) = true := by
    rw [bne, eq0_nat, q1, parB_nat _ hY]; simp
  have g3 : ((((Nat.land (szpN (Nat.lor a b)) 64 : Nat) : Int) != 0) == (((Nat.lor a b : Nat) : Int) == 0)) = true := by
    rw [bne, eq0_nat, eq0_nat, s4]; simp
  clear lg p2 p3 q1 s4 hF
  generalize Nat.land (Nat.lor (szpN (Nat.land a b)) 16) 4 = F4 at *
  generalize Nat.lor (szpN (Nat.land a b)) 16 = F at *
  generalize Nat.land (szpN (Nat.xor a b)) 4 = G4 at *
  generalize szpN (Nat.xor a b) = G at *
  generalize Nat.land (szpN (Nat.lor a b)) 64 = H6 at *
  generalize szpN (Nat.lor a b) = H at *
  generalize hXe : Nat.land a b = X at *
  generalize hYe : Nat.xor a b = Y at *
  generalize hZe : Nat.lor a b = Z at *
  clear hXe hYe hZe
  go_wp2_with fail
  refine (logic8_impl _ _ _ _ (flags_below hLw.out B2.out)).mono ?_
  rintro e w3 ⟨rfl, hb3⟩
  rw [e0]
  have B3 : Hid (Below w.heap.size w w3) := B2.out.trans (hb3.mono B2.out.size)
  clear hb3 B2 e0
  go_wp2_with fail
  refine (logic8_impl _ _ _ _ (flags_below hLw.out B3.out)).mono ?_
  rintro e w4 ⟨rfl, hb4⟩
  rw [e1]
  have B4 : Hid (Below w.heap.size w w4) := B3.out.trans (hb4.mono B3.out.size)
  clear hb4 B3 e1
  go_wp2_with fail
  refine (logic8_impl _ _ _ _ (flags_below hLw.out B4.out)).mono ?_
  rintro e w5 ⟨rfl, hb5⟩
  rw [e2]
  have B5 : Hid (Below w.heap.size w w5) := B4.out.trans (hb5.mono B4.out.size)
  clear hb5 B4 e2
  go_wp2_with fail
  refine (at_val _ _ _ 0 8 _ _ (hc0.below B5.out B5.out.size) hlen (by omega) (by omega)).mono ?_
  rintro e w6 ⟨rfl, hb6⟩
  obtain ⟨k, ek, hk⟩ : ∃ k : Nat, atV w5 a0 len0 0 8 = (k : Int) ∧ k < 8 := by
    have := atV_bd (w := w5) (a := a0) (len := len0) (i := 0) (n := 8) (by omega)
    exact ⟨(atV w5 a0 len0 0 8).toNat, by omega, by omega⟩
  rw [ek]
  have B6 : Hid (Below w.heap.size w w6) := B5.out.trans (hb6.mono B5.out.size)
  clear hb6 B5 ek hc0 hlen hLw
  have e3 : test8V k a b = .tuple #[.int .i64 (tstF k a b), .int .i64 0] := by
    unfold test8V
    rw [show askB (a : Int) (b : Int) 0 = true from ask_nat a b 0 ha hb (by decide), show inB (k : Int) 0 7 = true by simp [inB]; omega]
    simp
  have r5 : bits .and .i64 ((tstF k a b : Nat) : Int) 64 = (Nat.land (tstF k a b) 64 : Nat) := bAnd _ 64 (by have := tstF_lt k a b hk; omega) (by omega)
  have g4 := tst_at k a b hk ha
  generalize Nat.land (tstF k a b) 64 = T6 at *
  generalize tstF k a b = T at *
  have G4 : Hid ((((T6 : Int) == 0) == (bits .and .i64 ((a : Int) / 2 ^ k) 1 == 1)) = true) := by
    unfold Hid
    have e : (a : Int) / 2 ^ k = ((a / 2 ^ k : Nat) : Int) := by simp
    have h1 : a / 2 ^ k < 65536 := Nat.lt_of_le_of_lt (Nat.div_le_self _ _) (by omega)
    rw [e, show bits .and .i64 ((a / 2 ^ k : Nat) : Int) 1 = _ from bAnd _ 1 h1 (by omega), eq0_nat, g4, eq1_nat]
    simp
  clear g4
  go_wp2_with (first | (go_at_call 19; refine (test8_impl _ _ _ _).mono ?_; rintro e w' ⟨rfl, rfl⟩; rw [e3]) | (go_at_call 20; refine (test8_spec _ _ _ _).mono ?_; rintro e w' ⟨rfl, rfl⟩; rw [e3]) | (go_at_call 21; refine (par_impl _ _).mono ?_; rintro e w' ⟨rfl, rfl⟩))
  go_ret
  exact ⟨ret_bool G4.out, B6.out⟩

theorem door_met (os : Os) (args : Array Value) : laidMetH Tryd.prog Rows.fnLogicRow.laid ((World.doorLaid Tryd.prog 400 os).forCall (fun _ _ => 0) ⟨#[], args, []⟩).memory :=
  laidMetH_of_parts3 (fuel := 8) (laidMet_of_run' 8 (by kernel_rfl) (by kernel_rfl)) (by kernel_rfl) (by kernel_rfl)

set_option maxRecDepth 100000 in
theorem lifted (os : Os) (started : os.Started) (H : Type) (enc : TypeId × Value → H) :
    ReturnsInHanded {} Tryd.checked os 5 .any (fun w args => (Rows.fnLogicSpec.pre enc Tryd.prog Tryd.f5 [] false w args ∧ laidMetH Tryd.prog Rows.fnLogicRow.laid w) ∧ sizedMet enc Tryd.prog Tryd.f5 (OpenSpec.ofChange Rows.fnLogicSpec) false w args)
      (Rows.fnLogicSpec.post enc Tryd.prog Tryd.f5 false true false false) := by
  refine returnsInHanded_of_change_and (C := Tryd.checked) (X := fun w _ => laidMetH Tryd.prog Rows.fnLogicRow.laid w) (fun _ _ _ hh h => h.of_heap hh) own started (by kernel_rfl) Tryd.func5
    (ChangeSpec.witness_shaped (enc := enc) (C := Tryd.checked) (os := os) (X := fun w _ => laidMetH Tryd.prog Rows.fnLogicRow.laid w) false (World.doorLaid Tryd.prog 400 os) #[.slice none 0 0, .slice none 0 0] 8 rfl (World.shaped_of_RefB (by kernel_rfl) (by kernel_rfl)) (by kernel_rfl) (by kernel_rfl) (by kernel_rfl) (door_met os _)) ?_
  intro W base args ds gs before hval0 hW _ _ hL _
  have hval : ∀ (j : Nat) t v, Tryd.f5.params[j]? = some t → args[j]? = some v → Value.okWide Tryd.prog W .any base t v := hval0
  have hW' := hW
  obtain ⟨p, q, hA0, hV, hbefore, hfz, hnd⟩ := hW
  have hA : DataW.TrodAll enc Tryd.prog W 0 (fun _ => true) true Tryd.f5.params.toList args.toList ds p := hA0
  rw [Tryd.params5] at hA hval
  obtain ⟨v0, vs0, d0, ds0, p0, q0, hargs, rfl, rfl, h0, r0⟩ := trodAll_cons hA
  obtain ⟨v1, vs1, d1, ds1, p1, q1, rfl, rfl, rfl, h1, r1⟩ := trodAll_cons r0
  obtain ⟨rfl, rfl, rfl⟩ := trodAll_nil r1
  obtain rfl : args = #[v0, v1] := by cases args; simp_all
  obtain ⟨g0, rfl⟩ := vars1_form hV
  obtain ⟨a0, len0, cap0, rfl⟩ := okWide_slice Tryd.underlying22 (hval 0 22 v0 rfl rfl)
  have k0 := h0
  have lt0 : ∀ x ∈ p0, x.block < W.heap.size := by obtain ⟨m, hm⟩ := k0; exact DataW.trod_lt m _ _ _ hm
  obtain ⟨z0, w0⟩ : ∃ zs, IsRow .u8 W a0 len0 cap0 zs := by
    obtain ⟨fuel, hf⟩ := h0
    rcases open_ints Tryd.underlying22 Tryd.underlying5 (by kernel_rfl) hf with ⟨hcs, _⟩ | ⟨x, l, c, zs, hcs, _, hl, hm, hz, _, hcell, hwz⟩
    · simp [Value.cells] at hcs
      obtain ⟨rfl, rfl, rfl⟩ := hcs
      exact ⟨[], .inl ⟨rfl, rfl, rfl, rfl⟩⟩
    · simp [Value.cells] at hcs
      obtain ⟨rfl, rfl, rfl⟩ := hcs
      exact ⟨zs, .inr ⟨_, rfl, hl, hm, by simpa using hz, hcell, hwz⟩⟩
  obtain ⟨a1, len1, cap1, rfl⟩ := okWide_slice Tryd.underlying22 (hval 1 22 v1 rfl rfl)
  have k1 := h1
  have lt1 : ∀ x ∈ p1, x.block < W.heap.size := by obtain ⟨m, hm⟩ := k1; exact DataW.trod_lt m _ _ _ hm
  obtain ⟨z1, w1⟩ : ∃ zs, IsRow .u8 W a1 len1 cap1 zs := by
    obtain ⟨fuel, hf⟩ := h1
    rcases open_ints Tryd.underlying22 Tryd.underlying5 (by kernel_rfl) hf with ⟨hcs, _⟩ | ⟨x, l, c, zs, hcs, _, hl, hm, hz, _, hcell, hwz⟩
    · simp [Value.cells] at hcs
      obtain ⟨rfl, rfl, rfl⟩ := hcs
      exact ⟨[], .inl ⟨rfl, rfl, rfl, rfl⟩⟩
    · simp [Value.cells] at hcs
      obtain ⟨rfl, rfl, rfl⟩ := hcs
      exact ⟨zs, .inr ⟨_, rfl, hl, hm, by simpa using hz, hcell, hwz⟩⟩
  clear hA0 hval0
  refine (walk a0 len0 cap0 z0 a1 len1 cap1 z1 W w0 w1 (flags_of hL)).mono fun e W' ⟨he, bel⟩ => ?_
  subst he
  exact ⟨_, rfl, _, _, _, [], _, _, hW', trodAll_mk1 (shut_bool Tryd.underlying4 _), (trodAll_cons_mk (Below.trod laidOut (by kernel_rfl) (of_decide_eq_true (by kernel_rfl)) k0 bel lt0) (trodAll_cons_mk (Below.trod laidOut (by kernel_rfl) (of_decide_eq_true (by kernel_rfl)) k1 bel lt1) trodAll_mk0)), Below.trodVars laidOut bel (by kernel_rfl) hV, bel.frame _, fun h => by cases h⟩

theorem said : Rows.FnLogicSaid :=
  OpenClaim.holds_of_wide 5 Tryd.f5 rfl rfl rfl rfl rfl rfl rfl ⟨rfl, rfl, rfl, rfl, rfl⟩ rfl rfl rfl rfl rfl (by kernel_rfl) Tryd.func5 (by kernel_rfl)
    (of_decide_eq_true (by kernel_rfl)) (by unfold Func.isWrapper; first | (rw [if_pos (by decide +kernel)]; kernel_rfl) | (rw [if_neg (by decide +kernel)]; exact ⟨rfl, rfl⟩))
    (fun os started H enc _ => lifted os started H enc)

theorem card : Rows.FnLogicCardSaid :=
  Claim7.holds_tied_plain_at .later [] _ _ _ _ said (fun _ h => by cases h) (by kernel_rfl) (fun _ h => by cases h) fnLogic_row_tie rfl ⟨rfl, rfl⟩ (by kernel_rfl) rfl
    (fun f fn hf hfn => by
      obtain rfl : f = 5 := Option.some.inj ((show Tryd.prog.funcNamed "loop.example/g00644/laws.FnLogic" = some 5 by kernel_rfl).symm.trans hf) |>.symm
      obtain rfl : fn = Tryd.f5 := (Option.some.inj (Tryd.func5.symm.trans hfn)).symm
      exact ⟨by kernel_rfl, fun j t ht => by
        rw [Tryd.params5] at ht
        have hm : t ∈ [22, 22] := by simpa using Array.mem_of_getElem? ht
        have hall : ([22, 22].all fun u => !Tryd.prog.wantsStandIn u) = true := by kernel_rfl
        exact (show Tryd.prog.wantsStandIn t = false by simpa using List.all_eq_true.1 hall t hm)⟩)
    (by kernel_rfl)
end Go.Proofs.YtffogcielohoeaaDoor.fnLogic
namespace Go.Proofs.YtffogcielohoeaaDoor
theorem fnLogic_holds : Rows.FnLogicCardSaid := fnLogic.card
#print axioms fnLogic_holds
end Go.Proofs.YtffogcielohoeaaDoor
