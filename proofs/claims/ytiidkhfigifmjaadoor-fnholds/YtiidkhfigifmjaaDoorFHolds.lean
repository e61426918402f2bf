/- For all bytes the law FnHolds returns true: of two conditions that are one another's contrary just one holds; the program's table of conditions being as its text lays it. -/
import Derived.Test.YtiidkhfigifmjaaDoorCards
import Derived.Test.YtiidkhfigifmjaaDoorTie
import Derived.Test.YtiidkhfigifmjaaDoorHp
import Derived.Test.YtiidkhfigifmjaaDoorHa
import Derived.Test.YtiidkhfigifmjaaDoorCpf
import Derived.Test.YtiidkhfigifmjaaDoorHq
import Derived.Test.YtiidkhfigifmjaaDoorHr
import Derived.Test.YtiidkhfigifmjaaDoorHi
import Derived.Test.YtiidkhfigifmjaaDoorCl
import Derived.Test.YtiidkhfigifmjaaDoorJh
import Derived.WalkKit
import Derived.ProofKit
import Derived.OpenShut
import Derived.ShutString
import Derived.ChangeOld
import Derived.Below
import Derived.LaidMore
import Derived.OpenVars
import Derived.SevenTiedAt
import Derived.Stop.Joined
import Derived.Lib.SmallJoins
namespace Go.Proofs.YtiidkhfigifmjaaDoor.fnHolds
open Go.ChangeShapes Go.WideShapes Go.ChangeAt Go.RowKit Go.Joins
open Go.ChangeMaps (open_string shut_string)
set_option linter.unusedVariables false

theorem own : ownKnob Tryd.prog.godebug = none := by kernel_rfl
theorem laidOut : laidOutB Tryd.prog = true := by kernel_rfl

def IsRow (k : IntKind) (w : World) (a : Option Addr) (len cap : Nat) (zs : List Int) : Prop :=
  (a = none ∧ len = 0 ∧ cap = 0 ∧ zs = []) ∨
  ∃ x, a = some x ∧ len ≤ cap ∧ cap ≤ maxLen ∧ zs.length = cap ∧ (∀ i, i < zs.length → w.cell? (x.add i) = some (.int k (zs.getD i 0))) ∧ ∀ n ∈ zs, (Lit.int k n).wf = true

set_option maxRecDepth 100000 in
set_option maxHeartbeats 4000000 in
theorem walk (a0 : Option Addr) (len0 cap0 : Nat) (z0 : List Int) (w : World) (w0 : IsRow .u8 w a0 len0 cap0 z0) (hL : CondH w) :
    Calls Tryd.prog 3 #[.slice a0 len0 cap0] w fun e w' => e = .returned (.bool true) ∧ Below w.heap.size w w' := by
  have hc0 := codeAt_of w0
  have hnn : ∀ (zs : List Int) (a : Option Addr) (len cap : Nat), IsRow .u8 w a len cap zs → len ≤ maxLen := by
    intro zs a len cap h
    rcases h with ⟨_, rfl, _, _⟩ | ⟨x, _, hl, hm, _⟩
    · exact Nat.zero_le _
    · omega
  have hl0 := hnn _ _ _ _ w0
  clear hnn w0
  unfold maxLen at hl0
  by_cases h1 : 1048576 < len0
  · go_enter Tryd.func3, Tryd.ntmps3
    go_wp2
    go_ret
    exact ⟨rfl, Below.refl _ _⟩
  go_enter Tryd.func3, Tryd.ntmps3
  go_wp2_with fail
  refine (cpudrawn_any _ _ _ _ hc0 (by omega)).mono ?_
  rintro e w1 ⟨c, rfl, hok, hb1⟩
  obtain ⟨f, hf, hf2⟩ := okC_f hok
  have hin : Hid (∀ (n : Nat), n < 8 → hold2 c (n : Int) = .tuple #[.bool (holdN f n), .int .i64 0]) := fun n hn => by
    unfold hold2
    rw [if_pos hok, if_pos (in_yes (by omega) (by omega)), hf, Int.toNat_natCast, Int.toNat_natCast]
  have hI : Hid (∀ (n : Nat), n < 8 → ∀ W', Below w.heap.size w W' → Calls Tryd.prog 5 #[cuV c, .int .i64 (n : Int)] W' fun e w' => e = .returned (.tuple #[.bool (holdN f n), .int .i64 0]) ∧ Below W'.heap.size W' w') := fun n hn W' hb => by
    have := hold_impl c (n : Int) W' (hL.below hb)
    rw [hin.out n hn] at this
    exact this
  have hP : Hid (∀ (n : Nat), n < 8 → ∀ W', Calls Tryd.prog 6 #[cuV c, .int .i64 (n : Int)] W' fun e w' => e = .returned (.tuple #[.bool (holdN f n), .int .i64 0]) ∧ Below W'.heap.size W' w') := fun n hn W' => by
    have := hold_spec c (n : Int) W'
    rw [hin.out n hn] at this
    exact this
  have hall : ∀ f, f < 256 → holdN f 1 = !holdN f 0 ∧ holdN f 3 = !holdN f 2 ∧ holdN f 5 = !holdN f 4 ∧ holdN f 6 = decide (127 < f) ∧ holdN f 7 = true := by decide +kernel
  obtain ⟨p0, p1, p2, p3, p4⟩ := hall f hf2
  have I0 := hid (hI.out 0 (by omega))
  have I1 := hid (hI.out 1 (by omega))
  have I2 := hid (hI.out 2 (by omega))
  have I3 := hid (hI.out 3 (by omega))
  have I4 := hid (hI.out 4 (by omega))
  have I5 := hid (hI.out 5 (by omega))
  have I6 := hid (hI.out 6 (by omega))
  have I7 := hid (hI.out 7 (by omega))
  have P0 := hid (hP.out 0 (by omega))
  have P2 := hid (hP.out 2 (by omega))
  have P4 := hid (hP.out 4 (by omega))
  rw [p0] at I1
  rw [p1] at I3
  rw [p2] at I5
  rw [p3] at I6
  rw [p4] at I7
  have e6 : decide ((127 : Int) < c.f) = decide (127 < f) := by rw [hf]; exact decide_eq_decide.2 (by omega)
  generalize holdN f 0 = x0 at *
  generalize holdN f 2 = x2 at *
  generalize holdN f 4 = x4 at *
  clear hall p0 p1 p2 p3 p4 hI hP hin hc0
  have q1 := Blk.new w1 (cuA c) 25
  have hB1 := new_trans hb1 ((Below.refl w1.heap.size w1).alloc (Nat.le_refl _) (.cells (cuA c) 25))
  obtain ⟨bm, hbm⟩ : ∃ bm, w1.heap.size = bm := ⟨_, rfl⟩
  obtain ⟨W1, hW1⟩ : ∃ W1, w1.alloc (.cells (cuA c) 25) = W1 := ⟨_, rfl⟩
  rw [hW1] at q1 hB1
  rw [hbm] at q1
  replace q1 := hid q1
  replace hB1 := hid hB1
  replace hL := hid hL
  replace hok := hid hok
  replace e6 := hid e6
  replace hf := hid hf
  clear hb1
  go_upto_region 4 with fail
  clear hbm hW1
  go_wp2
  go_loopw [4] (fun i wr => ∃ k : Nat, k ≤ 3 ∧ i = .int .i64 k ∧ Blk wr bm (cuA c) ∧ Below w.heap.size w wr) (fun i _ => 3 - (intOf i).toNat)
  case atStart => exact ⟨0, by omega, rfl, q1.out, hB1.out⟩
  case round =>
    obtain ⟨k, hk, rfl, hq, hB⟩ := hrel
    clear q1 hB1
    by_cases hlt : k < 3
    · have hk3 : k = 0 ∨ k = 1 ∨ k = 2 := by omega
      have y0 := hq.cell
      replace hq := hid hq
      replace hB := hid hB
      rcases hk3 with rfl | rfl | rfl
      · clear I2 I3 I4 I5 I6 I7 P2 P4
        cases x0
        all_goals
          go_wp2_with fail
          refine (I0.out _ hB.out).mono ?_
          rintro e w2 ⟨rfl, hb⟩
          have k2 := hid (hq.out.below hb hq.out.lt)
          have B2 := hid (new_trans hB.out hb)
          have y2 := k2.out.cell
          clear hb hq hB y0
          go_wp2_with fail
          refine (I1.out _ B2.out).mono ?_
          rintro e w3 ⟨rfl, hb⟩
          have k3 := hid (k2.out.below hb k2.out.lt)
          have B3 := hid (new_trans B2.out hb)
          have y3 := k3.out.cell
          clear hb k2 B2 y2
          go_wp2_with fail
          refine (P0.out _).mono ?_
          rintro e w4 ⟨rfl, hb⟩
          have k4 := hid (k3.out.below hb k3.out.lt)
          have B4 := hid (new_trans B3.out hb)
          clear hb k3 B3 y3
          go_wp2
          go_roundw
          case rel => exact ⟨1, by omega, rfl, k4.out, B4.out⟩
          case measure => simp [intOf]
      · clear I0 I1 I4 I5 I6 I7 P0 P4
        cases x2
        all_goals
          go_wp2_with fail
          refine (I2.out _ hB.out).mono ?_
          rintro e w2 ⟨rfl, hb⟩
          have k2 := hid (hq.out.below hb hq.out.lt)
          have B2 := hid (new_trans hB.out hb)
          have y2 := k2.out.cell
          clear hb hq hB y0
          go_wp2_with fail
          refine (I3.out _ B2.out).mono ?_
          rintro e w3 ⟨rfl, hb⟩
          have k3 := hid (k2.out.below hb k2.out.lt)
          have B3 := hid (new_trans B2.out hb)
          have y3 := k3.out.cell
          clear hb k2 B2 y2
          go_wp2_with fail
          refine (P2.out _).mono ?_
          rintro e w4 ⟨rfl, hb⟩
          have k4 := hid (k3.out.below hb k3.out.lt)
          have B4 := hid (new_trans B3.out hb)
          clear hb k3 B3 y3
          go_wp2
          go_roundw
          case rel => exact ⟨2, by omega, rfl, k4.out, B4.out⟩
          case measure => simp [intOf]
      · clear I0 I1 I2 I3 I6 I7 P0 P2
        cases x4
        all_goals
          go_wp2_with fail
          refine (I4.out _ hB.out).mono ?_
          rintro e w2 ⟨rfl, hb⟩
          have k2 := hid (hq.out.below hb hq.out.lt)
          have B2 := hid (new_trans hB.out hb)
          have y2 := k2.out.cell
          clear hb hq hB y0
          go_wp2_with fail
          refine (I5.out _ B2.out).mono ?_
          rintro e w3 ⟨rfl, hb⟩
          have k3 := hid (k2.out.below hb k2.out.lt)
          have B3 := hid (new_trans B2.out hb)
          have y3 := k3.out.cell
          clear hb k2 B2 y2
          go_wp2_with fail
          refine (P4.out _).mono ?_
          rintro e w4 ⟨rfl, hb⟩
          have k4 := hid (k3.out.below hb k3.out.lt)
          have B4 := hid (new_trans B3.out hb)
          clear hb k3 B3 y3
          go_wp2
          go_roundw
          case rel => exact ⟨3, by omega, rfl, k4.out, B4.out⟩
          case measure => simp [intOf]
    · obtain rfl : k = 3 := by omega
      clear I0 I1 I2 I3 I4 I5 P0 P2 P4
      have y0 := hq.cell
      replace hq := hid hq
      replace hB := hid hB
      go_wp2_with fail
      refine (I6.out _ hB.out).mono ?_
      rintro e w2 ⟨rfl, hb⟩
      have k2 := hid (hq.out.below hb hq.out.lt)
      have B2 := hid (new_trans hB.out hb)
      have y2 := k2.out.cell
      clear hb hq hB y0
      go_wp2_with fail
      refine (I7.out _ B2.out).mono ?_
      rintro e w3 ⟨rfl, hb⟩
      have k3 := hid (k2.out.below hb k2.out.lt)
      have B3 := hid (new_trans B2.out hb)
      have y3 := k3.out.cell
      clear hb k2 B2 y2
      have e7 := e6.out
      go_wp2
      go_ret
      exact ⟨ret_bool (by simp), B3.out⟩

theorem door_met (os : Os) (args : Array Value) : laidMetH Tryd.prog Rows.fnHoldsRow.laid ((World.doorLaid Tryd.prog 400 os).forCall (fun _ _ => 0) ⟨#[], args, []⟩).memory :=
  laidMetH_of_parts3 (fuel := 8) (laidMet_of_run' 8 (by kernel_rfl) (by kernel_rfl)) (by kernel_rfl) (by kernel_rfl)

set_option maxRecDepth 100000 in
theorem lifted (os : Os) (started : os.Started) (H : Type) (enc : TypeId × Value → H) :
    ReturnsInHanded {} Tryd.checked os 3 .any (fun w args => (Rows.fnHoldsSpec.pre enc Tryd.prog Tryd.f3 [] false w args ∧ laidMetH Tryd.prog Rows.fnHoldsRow.laid w) ∧ sizedMet enc Tryd.prog Tryd.f3 (OpenSpec.ofChange Rows.fnHoldsSpec) false w args)
      (Rows.fnHoldsSpec.post enc Tryd.prog Tryd.f3 false true false false) := by
  refine returnsInHanded_of_change_and (C := Tryd.checked) (X := fun w _ => laidMetH Tryd.prog Rows.fnHoldsRow.laid w) (fun _ _ _ hh h => h.of_heap hh) own started (by kernel_rfl) Tryd.func3
    (ChangeSpec.witness_shaped (enc := enc) (C := Tryd.checked) (os := os) (X := fun w _ => laidMetH Tryd.prog Rows.fnHoldsRow.laid w) false (World.doorLaid Tryd.prog 400 os) #[.slice none 0 0] 8 rfl (World.shaped_of_RefB (by kernel_rfl) (by kernel_rfl)) (by kernel_rfl) (by kernel_rfl) (by kernel_rfl) (door_met os _)) ?_
  intro W base args ds gs before hval0 hW _ _ hL _
  have hval : ∀ (j : Nat) t v, Tryd.f3.params[j]? = some t → args[j]? = some v → Value.okWide Tryd.prog W .any base t v := hval0
  have hW' := hW
  obtain ⟨p, q, hA0, hV, hbefore, hfz, hnd⟩ := hW
  have hA : DataW.TrodAll enc Tryd.prog W 0 (fun _ => true) true Tryd.f3.params.toList args.toList ds p := hA0
  rw [Tryd.params3] at hA hval
  obtain ⟨v0, vs0, d0, ds0, p0, q0, hargs, rfl, rfl, h0, r0⟩ := trodAll_cons hA
  obtain ⟨rfl, rfl, rfl⟩ := trodAll_nil r0
  obtain rfl : args = #[v0] := by cases args; simp_all
  obtain ⟨g0, rfl⟩ := vars1_form hV
  obtain ⟨a0, len0, cap0, rfl⟩ := okWide_slice Tryd.underlying22 (hval 0 22 v0 rfl rfl)
  have k0 := h0
  have lt0 : ∀ x ∈ p0, x.block < W.heap.size := by obtain ⟨m, hm⟩ := k0; exact DataW.trod_lt m _ _ _ hm
  obtain ⟨z0, w0⟩ : ∃ zs, IsRow .u8 W a0 len0 cap0 zs := by
    obtain ⟨fuel, hf⟩ := h0
    rcases open_ints Tryd.underlying22 Tryd.underlying5 (by kernel_rfl) hf with ⟨hcs, _⟩ | ⟨x, l, c, zs, hcs, _, hl, hm, hz, _, hcell, hwz⟩
    · simp [Value.cells] at hcs
      obtain ⟨rfl, rfl, rfl⟩ := hcs
      exact ⟨[], .inl ⟨rfl, rfl, rfl, rfl⟩⟩
    · simp [Value.cells] at hcs
      obtain ⟨rfl, rfl, rfl⟩ := hcs
      exact ⟨zs, .inr ⟨_, rfl, hl, hm, by simpa using hz, hcell, hwz⟩⟩
  clear hA0 hval0
  refine (walk a0 len0 cap0 z0 W w0 (condh_of hL)).mono fun e W' ⟨he, bel⟩ => ?_
  subst he
  exact ⟨_, rfl, _, _, _, [], _, _, hW', trodAll_mk1 (shut_bool Tryd.underlying4 _), (trodAll_cons_mk (Below.trod laidOut (by kernel_rfl) (of_decide_eq_true (by kernel_rfl)) k0 bel lt0) trodAll_mk0), Below.trodVars laidOut bel (by kernel_rfl) hV, bel.frame _, fun h => by cases h⟩

theorem said : Rows.FnHoldsSaid :=
  OpenClaim.holds_of_wide 3 Tryd.f3 rfl rfl rfl rfl rfl rfl rfl ⟨rfl, rfl, rfl, rfl, rfl⟩ rfl rfl rfl rfl rfl (by kernel_rfl) Tryd.func3 (by kernel_rfl)
    (of_decide_eq_true (by kernel_rfl)) (by unfold Func.isWrapper; first | (rw [if_pos (by decide +kernel)]; kernel_rfl) | (rw [if_neg (by decide +kernel)]; exact ⟨rfl, rfl⟩))
    (fun os started H enc _ => lifted os started H enc)

theorem card : Rows.FnHoldsCardSaid :=
  Claim7.holds_tied_plain_at .later [] _ _ _ _ said (fun _ h => by cases h) (by kernel_rfl) (fun _ h => by cases h) fnHolds_row_tie rfl ⟨rfl, rfl⟩ (by kernel_rfl) rfl
    (fun f fn hf hfn => by
      obtain rfl : f = 3 := Option.some.inj ((show Tryd.prog.funcNamed "loop.example/g00644/laws.FnHolds" = some 3 by kernel_rfl).symm.trans hf) |>.symm
      obtain rfl : fn = Tryd.f3 := (Option.some.inj (Tryd.func3.symm.trans hfn)).symm
      exact ⟨by kernel_rfl, fun j t ht => by
        rw [Tryd.params3] at ht
        have hm : t ∈ [22] := by simpa using Array.mem_of_getElem? ht
        have hall : ([22].all fun u => !Tryd.prog.wantsStandIn u) = true := by kernel_rfl
        exact (show Tryd.prog.wantsStandIn t = false by simpa using List.all_eq_true.1 hall t hm)⟩)
    (by kernel_rfl)
end Go.Proofs.YtiidkhfigifmjaaDoor.fnHolds
namespace Go.Proofs.YtiidkhfigifmjaaDoor
theorem fnHolds_holds : Rows.FnHoldsCardSaid := fnHolds.card
#print axioms fnHolds_holds
end Go.Proofs.YtiidkhfigifmjaaDoor
