/- For all bytes the law FnTurns returns true: turned about eight times, or nine times through the carry, a byte is as it was, and a shift doubles or halves; the program's table of flags being as its text lays it. -/
import Derived.Test.YtffogcielohoeaaDoorCards
import Derived.Test.YtffogcielohoeaaDoorTie
import Derived.Test.YtffogcielohoeaaDoorBase
import Derived.Test.YtffogcielohoeaaDoorBt
import Derived.Test.YtffogcielohoeaaDoorIn
import Derived.Test.YtffogcielohoeaaDoorPa
import Derived.Test.YtffogcielohoeaaDoorAu
import Derived.Test.YtffogcielohoeaaDoorAd
import Derived.Test.YtffogcielohoeaaDoorAe
import Derived.Test.YtffogcielohoeaaDoorAf
import Derived.Test.YtffogcielohoeaaDoorAg
import Derived.Test.YtffogcielohoeaaDoorAh
import Derived.Test.YtffogcielohoeaaDoorPf
import Derived.Test.YtffogcielohoeaaDoorPr
import Derived.Test.YtffogcielohoeaaDoorPt
import Derived.Test.YtffogcielohoeaaDoorPk
import Derived.Test.YtffogcielohoeaaDoorWf
import Derived.Test.YtffogcielohoeaaDoorAt
import Derived.Test.YtffogcielohoeaaDoorFa
import Derived.Test.YtffogcielohoeaaDoorFt
import Derived.WalkKit
import Derived.ProofKit
import Derived.OpenShut
import Derived.ShutString
import Derived.ChangeOld
import Derived.Below
import Derived.LaidMore
import Derived.OpenVars
import Derived.SevenTiedAt
import Derived.Stop.Joined
import Derived.Lib.SmallJoins
import Derived.Deep.Cut
import Derived.Deep.DeepCutAuto
namespace Go.Proofs.YtffogcielohoeaaDoor.fnTurns
open Go.ChangeShapes Go.WideShapes Go.ChangeAt Go.RowKit Go.Joins
open Go.ChangeMaps (open_string shut_string)
set_option linter.unusedVariables false

theorem own : ownKnob Tryd.prog.godebug = none := by kernel_rfl
theorem laidOut : laidOutB Tryd.prog = true := by kernel_rfl

def IsRow (k : IntKind) (w : World) (a : Option Addr) (len cap : Nat) (zs : List Int) : Prop :=
  (a = none ∧ len = 0 ∧ cap = 0 ∧ zs = []) ∨
  ∃ x, a = some x ∧ len ≤ cap ∧ cap ≤ maxLen ∧ zs.length = cap ∧ (∀ i, i < zs.length → w.cell? (x.add i) = some (.int k (zs.getD i 0))) ∧ ∀ n ∈ zs, (Lit.int k n).wf = true

set_option maxRecDepth 100000 in
set_option maxHeartbeats 8000000 in
theorem walk (a0 : Option Addr) (len0 cap0 : Nat) (z0 : List Int) (a1 : Option Addr) (len1 cap1 : Nat) (z1 : List Int) (w : World) (w0 : IsRow .u8 w a0 len0 cap0 z0) (w1 : IsRow .u8 w a1 len1 cap1 z1) (hL : Flags w) :
    Calls Tryd.prog 7 #[.slice a0 len0 cap0, .slice a1 len1 cap1] w fun e w' => e = .returned (.bool true) ∧ Below w.heap.size w w' := by
  have hc0 := codeAt_of w0
  have hc1 := codeAt_of w1
  have hnn : ∀ (zs : List Int) (a : Option Addr) (len cap : Nat), IsRow .u8 w a len cap zs → len ≤ maxLen := by
    intro zs a len cap h
    rcases h with ⟨_, rfl, _, _⟩ | ⟨x, _, hl, hm, _⟩
    · exact Nat.zero_le _
    · omega
  have hl0 := hnn _ _ _ _ w0
  have hl1 := hnn _ _ _ _ w1
  clear hnn w0 w1
  unfold maxLen at hl0 hl1
  by_cases h1 : 1048576 < len0
  · go_enter Tryd.func7, Tryd.ntmps7
    go_wp2
    go_ret
    exact ⟨rfl, Below.refl _ _⟩
  by_cases h2 : 1048576 < len1
  · go_enter Tryd.func7, Tryd.ntmps7
    go_wp2
    go_ret
    exact ⟨rfl, Below.refl _ _⟩
  go_enter Tryd.func7, Tryd.ntmps7
  go_wp2_with fail
  refine (at_val _ _ _ 0 256 _ _ hc1 (by omega) (by omega) (by omega)).mono ?_
  rintro e w1 ⟨rfl, hb1⟩
  obtain ⟨a, ea, ha⟩ : ∃ a : Nat, atV w a1 len1 0 256 = (a : Int) ∧ a < 256 := by
    have := atV_bd (w := w) (a := a1) (len := len1) (i := 0) (n := 256) (by omega)
    exact ⟨(atV w a1 len1 0 256).toNat, by omega, by omega⟩
  rw [ea]
  clear ea
  have B1 := hb1
  go_wp2_with fail
  refine (at_val _ _ _ 1 256 _ _ (hc1.below B1 B1.size) (by omega) (by omega) (by omega)).mono ?_
  rintro e w2 ⟨rfl, hb2⟩
  obtain ⟨f, eb, hf⟩ : ∃ f : Nat, atV w1 a1 len1 1 256 = (f : Int) ∧ f < 256 := by
    have := atV_bd (w := w1) (a := a1) (len := len1) (i := 1) (n := 256) (by omega)
    exact ⟨(atV w1 a1 len1 1 256).toNat, by omega, by omega⟩
  rw [eb]
  clear eb
  have B2 : Below w.heap.size w w2 := B1.trans (hb2.mono B1.size)
  clear hb1 hb2 B1
  have hLw : Hid (Flags w) := hL
  replace B2 : Hid _ := B2
  clear hL hc0 hc1 hl0 hl1 h1 h2
  have rf : bits .and .i64 (f : Int) 1 = (Nat.land f 1 : Nat) := bAnd f 1 (by omega) (by omega)
  go_wp2_with fail
  go_loopw [7] (fun o wr => ∃ k : Nat, k ≤ 4 ∧ o = .int .i64 k ∧ Below w.heap.size w wr) (fun o _ => 4 - (intOf o).toNat)
  case atStart => exact ⟨0, by omega, rfl, B2.out⟩
  case round =>
    obtain ⟨k, hk, rfl, hbel⟩ := hrel
    replace hbel : Hid _ := hbel
    by_cases hlt : k < 4
    · have hkb : decide ((k : Int) < 4) = true := by simp; omega
      go_wp2_with fail
      go_loopw [8, 9, 10] (fun v g i wr => ∃ n V G : Nat, n ≤ 8 + k / 2 ∧ v = .int .i64 V ∧ g = .int .i64 G ∧ i = .int .i64 n ∧ Turned k a f n V G ∧ Below w.heap.size w wr) (fun _ _ i _ => 8 + k / 2 - (intOf i).toNat)
      case atStart => exact ⟨0, a, f, by omega, rfl, rfl, rfl, turned_0 k a f ha hf, hbel.out⟩
      case round =>
        obtain ⟨n, V, G, hn, rfl, rfl, rfl, hT, hbel2⟩ := hrel
        have hV := hT.1
        have hG := hT.2.1
        replace hT : Hid _ := hT
        replace hbel2 : Hid _ := hbel2
        by_cases hin : n < 8 + k / 2
        · have eT := turn8_of k V G (by omega) hV hG
          have hT2 : Hid _ := turned_s k a f n V G (by omega) hT.out
          generalize turnW k V G = V2 at *
          generalize turnG k V G = G2 at *
          go_wp2_with fail
          refine (turn8_impl _ _ _ _ (flags_below hLw.out hbel2.out)).mono ?_
          rintro e w3 ⟨rfl, hb3⟩
          rw [eT]
          have B3 : Hid (Below w.heap.size w w3) := hbel2.out.trans (hb3.mono hbel2.out.size)
          clear hb3 eT
          go_wp2
          go_roundw
          case rel => exact ⟨n + 1, V2, G2, by omega, rfl, rfl, by go_num, hT2.out, B3.out⟩
          case measure => simp [intOf]; omega
        · obtain rfl : n = 8 + k / 2 := by omega
          obtain ⟨hVa, hC⟩ := turned_end k a f V G hlt ha hT.out
          subst hVa
          have rG : bits .and .i64 (G : Int) 1 = (Nat.land G 1 : Nat) := bAnd G 1 (by omega) (by omega)
          by_cases hk2 : 2 ≤ k
          · rw [hC hk2] at rG
            clear hC hT
            generalize Nat.land f 1 = C at *
            go_wp2
            go_roundw
            case rel => exact ⟨k + 1, by omega, by go_num, hbel2.out⟩
            case measure => simp [intOf]; omega
          · clear hC hT rG
            go_wp2
            go_roundw
            case rel => exact ⟨k + 1, by omega, by go_num, hbel2.out⟩
            case measure => simp [intOf]; omega
    · have hkb : decide ((k : Int) < 4) = false := by simp; omega
      go_wp2_with fail
      go_loopw [14] (fun o wr => ∃ k : Nat, 4 ≤ k ∧ k ≤ 8 ∧ o = .int .i64 k ∧ Below w.heap.size w wr) (fun o _ => 8 - (intOf o).toNat)
      case atStart => exact ⟨4, by omega, by omega, rfl, hbel.out⟩
      case round =>
        clear hbel
        obtain ⟨k3, hk4, hk3, rfl, hbel⟩ := hrel
        replace hbel : Hid _ := hbel
        by_cases hlt3 : k3 < 8
        · have eT := turn8_of k3 a f (by omega) ha hf
          generalize turnW k3 a f = V2 at *
          generalize turnG k3 a f = G2 at *
          go_wp2_with fail
          refine (turn8_impl _ _ _ _ (flags_below hLw.out hbel.out)).mono ?_
          rintro e w3 ⟨rfl, hb3⟩
          rw [eT]
          have B3 : Hid (Below w.heap.size w w3) := hbel.out.trans (hb3.mono hbel.out.size)
          clear hb3
          go_wp2_with (go_at_call 27; refine (turn8_spec _ _ _ _).mono ?_; rintro e w' ⟨rfl, rfl⟩; rw [eT])
          go_roundw
          case rel => exact ⟨k3 + 1, by omega, by omega, by go_num, B3.out⟩
          case measure => simp [intOf]; omega
        · obtain rfl : k3 = 8 := by omega
          have e4 : turn8V 4 a f = _ := turn8_of 4 a f (by decide) ha hf
          have e7 : turn8V 7 a f = _ := turn8_of 7 a f (by decide) ha hf
          obtain ⟨s4, s7⟩ := sh_at a f ha
          have r4 : bits .and .i64 ((turnG 4 a f : Nat) : Int) 1 = (Nat.land (turnG 4 a f) 1 : Nat) := bAnd _ 1 (Nat.lt_trans (turnF_lt 4 a _ (by decide) ha) (by decide)) (by omega)
          have r7 : bits .and .i64 ((turnG 7 a f : Nat) : Int) 1 = (Nat.land (turnG 7 a f) 1 : Nat) := bAnd _ 1 (Nat.lt_trans (turnF_lt 7 a _ (by decide) ha) (by decide)) (by omega)
          have b4 := bit_lt (turnG 4 a f)
          have b7 := bit_lt (turnG 7 a f)
          generalize Nat.land (turnG 4 a f) 1 = C4 at *
          generalize Nat.land (turnG 7 a f) 1 = C7 at *
          generalize turnW 4 a f = V4 at *
          generalize turnG 4 a f = G4 at *
          generalize turnW 7 a f = V7 at *
          generalize turnG 7 a f = G7 at *
          go_wp2_with fail
          refine (turn8_impl _ _ _ _ (flags_below hLw.out hbel.out)).mono ?_
          rintro e w3 ⟨rfl, hb3⟩
          rw [e4]
          have B3 : Hid (Below w.heap.size w w3) := hbel.out.trans (hb3.mono hbel.out.size)
          clear hb3 e4
          go_wp2_with fail
          refine (turn8_impl _ _ _ _ (flags_below hLw.out B3.out)).mono ?_
          rintro e w4 ⟨rfl, hb4⟩
          rw [e7]
          have B4 : Hid (Below w.heap.size w w4) := B3.out.trans (hb4.mono B3.out.size)
          clear hb4 e7
          go_wp2
          go_ret
          exact ⟨ret_bool (by simp; omega), B4.out⟩

theorem door_met (os : Os) (args : Array Value) : laidMetH Tryd.prog Rows.fnTurnsRow.laid ((World.doorLaid Tryd.prog 400 os).forCall (fun _ _ => 0) ⟨#[], args, []⟩).memory :=
  laidMetH_of_parts3 (fuel := 8) (laidMet_of_run' 8 (by kernel_rfl) (by kernel_rfl)) (by kernel_rfl) (by kernel_rfl)

set_option maxRecDepth 100000 in
theorem lifted (os : Os) (started : os.Started) (H : Type) (enc : TypeId × Value → H) :
    ReturnsInHanded {} Tryd.checked os 7 .any (fun w args => (Rows.fnTurnsSpec.pre enc Tryd.prog Tryd.f7 [] false w args ∧ laidMetH Tryd.prog Rows.fnTurnsRow.laid w) ∧ sizedMet enc Tryd.prog Tryd.f7 (OpenSpec.ofChange Rows.fnTurnsSpec) false w args)
      (Rows.fnTurnsSpec.post enc Tryd.prog Tryd.f7 false true false false) := by
  refine returnsInHanded_of_change_and (C := Tryd.checked) (X := fun w _ => laidMetH Tryd.prog Rows.fnTurnsRow.laid w) (fun _ _ _ hh h => h.of_heap hh) own started (by kernel_rfl) Tryd.func7
    (ChangeSpec.witness_shaped (enc := enc) (C := Tryd.checked) (os := os) (X := fun w _ => laidMetH Tryd.prog Rows.fnTurnsRow.laid w) false (World.doorLaid Tryd.prog 400 os) #[.slice none 0 0, .slice none 0 0] 8 rfl (World.shaped_of_RefB (by kernel_rfl) (by kernel_rfl)) (by kernel_rfl) (by kernel_rfl) (by kernel_rfl) (door_met os _)) ?_
  intro W base args ds gs before hval0 hW _ _ hL _
  have hval : ∀ (j : Nat) t v, Tryd.f7.params[j]? = some t → args[j]? = some v → Value.okWide Tryd.prog W .any base t v := hval0
  have hW' := hW
  obtain ⟨p, q, hA0, hV, hbefore, hfz, hnd⟩ := hW
  have hA : DataW.TrodAll enc Tryd.prog W 0 (fun _ => true) true Tryd.f7.params.toList args.toList ds p := hA0
  rw [Tryd.params7] at hA hval
  obtain ⟨v0, vs0, d0, ds0, p0, q0, hargs, rfl, rfl, h0, r0⟩ := trodAll_cons hA
  obtain ⟨v1, vs1, d1, ds1, p1, q1, rfl, rfl, rfl, h1, r1⟩ := trodAll_cons r0
  obtain ⟨rfl, rfl, rfl⟩ := trodAll_nil r1
  obtain rfl : args = #[v0, v1] := by cases args; simp_all
  obtain ⟨g0, rfl⟩ := vars1_form hV
  obtain ⟨a0, len0, cap0, rfl⟩ := okWide_slice Tryd.underlying22 (hval 0 22 v0 rfl rfl)
  have k0 := h0
  have lt0 : ∀ x ∈ p0, x.block < W.heap.size := by obtain ⟨m, hm⟩ := k0; exact DataW.trod_lt m _ _ _ hm
  obtain ⟨z0, w0⟩ : ∃ zs, IsRow .u8 W a0 len0 cap0 zs := by
    obtain ⟨fuel, hf⟩ := h0
    rcases open_ints Tryd.underlying22 Tryd.underlying5 (by kernel_rfl) hf with ⟨hcs, _⟩ | ⟨x, l, c, zs, hcs, _, hl, hm, hz, _, hcell, hwz⟩
    · simp [Value.cells] at hcs
      obtain ⟨rfl, rfl, rfl⟩ := hcs
      exact ⟨[], .inl ⟨rfl, rfl, rfl, rfl⟩⟩
    · simp [Value.cells] at hcs
      obtain ⟨rfl, rfl, rfl⟩ := hcs
      exact ⟨zs, .inr ⟨_, rfl, hl, hm, by simpa using hz, hcell, hwz⟩⟩
  obtain ⟨a1, len1, cap1, rfl⟩ := okWide_slice Tryd.underlying22 (hval 1 22 v1 rfl rfl)
  have k1 := h1
  have lt1 : ∀ x ∈ p1, x.block < W.heap.size := by obtain ⟨m, hm⟩ := k1; exact DataW.trod_lt m _ _ _ hm
  obtain ⟨z1, w1⟩ : ∃ zs, IsRow .u8 W a1 len1 cap1 zs := by
    obtain ⟨fuel, hf⟩ := h1
    rcases open_ints Tryd.underlying22 Tryd.underlying5 (by kernel_rfl) hf with ⟨hcs, _⟩ | ⟨x, l, c, zs, hcs, _, hl, hm, hz, _, hcell, hwz⟩
    · simp [Value.cells] at hcs
      obtain ⟨rfl, rfl, rfl⟩ := hcs
      exact ⟨[], .inl ⟨rfl, rfl, rfl, rfl⟩⟩
    · simp [Value.cells] at hcs
      obtain ⟨rfl, rfl, rfl⟩ := hcs
      exact ⟨zs, .inr ⟨_, rfl, hl, hm, by simpa using hz, hcell, hwz⟩⟩
  clear hA0 hval0
  refine (walk a0 len0 cap0 z0 a1 len1 cap1 z1 W w0 w1 (flags_of hL)).mono fun e W' ⟨he, bel⟩ => ?_
  subst he
  exact ⟨_, rfl, _, _, _, [], _, _, hW', trodAll_mk1 (shut_bool Tryd.underlying4 _), (trodAll_cons_mk (Below.trod laidOut (by kernel_rfl) (of_decide_eq_true (by kernel_rfl)) k0 bel lt0) (trodAll_cons_mk (Below.trod laidOut (by kernel_rfl) (of_decide_eq_true (by kernel_rfl)) k1 bel lt1) trodAll_mk0)), Below.trodVars laidOut bel (by kernel_rfl) hV, bel.frame _, fun h => by cases h⟩

theorem said : Rows.FnTurnsSaid :=
  OpenClaim.holds_of_wide 7 Tryd.f7 rfl rfl rfl rfl rfl rfl rfl ⟨rfl, rfl, rfl, rfl, rfl⟩ rfl rfl rfl rfl rfl (by kernel_rfl) Tryd.func7 (by kernel_rfl)
    (of_decide_eq_true (by kernel_rfl)) (by unfold Func.isWrapper; first | (rw [if_pos (by decide +kernel)]; kernel_rfl) | (rw [if_neg (by decide +kernel)]; exact ⟨rfl, rfl⟩))
    (fun os started H enc _ => lifted os started H enc)

theorem card : Rows.FnTurnsCardSaid :=
  Claim7.holds_tied_plain_at .later [] _ _ _ _ said (fun _ h => by cases h) (by kernel_rfl) (fun _ h => by cases h) fnTurns_row_tie rfl ⟨rfl, rfl⟩ (by kernel_rfl) rfl
    (fun f fn hf hfn => by
      obtain rfl : f = 7 := Option.some.inj ((show Tryd.prog.funcNamed "loop.example/g00644/laws.FnTurns" = some 7 by kernel_rfl).symm.trans hf) |>.symm
      obtain rfl : fn = Tryd.f7 := (Option.some.inj (Tryd.func7.symm.trans hfn)).symm
      exact ⟨by kernel_rfl, fun j t ht => by
        rw [Tryd.params7] at ht
        have hm : t ∈ [22, 22] := by simpa using Array.mem_of_getElem? ht
        have hall : ([22, 22].all fun u => !Tryd.prog.wantsStandIn u) = true := by kernel_rfl
        exact (show Tryd.prog.wantsStandIn t = false by simpa using List.all_eq_true.1 hall t hm)⟩)
    (by kernel_rfl)
end Go.Proofs.YtffogcielohoeaaDoor.fnTurns
namespace Go.Proofs.YtffogcielohoeaaDoor
theorem fnTurns_holds : Rows.FnTurnsCardSaid := fnTurns.card
#print axioms fnTurns_holds
end Go.Proofs.YtffogcielohoeaaDoor
