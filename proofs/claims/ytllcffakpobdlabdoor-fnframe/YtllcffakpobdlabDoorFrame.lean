/- For all bytes the law FnFrame returns true: who waits goes on when the chip lets it, at most six T later, and the table says the same; the pattern of waits being as the program's text lays it. -/
import Derived.Test.YtllcffakpobdlabDoorCards
import Derived.Test.YtllcffakpobdlabDoorTie
import Derived.Test.YtllcffakpobdlabDoorBase
import Derived.Test.YtllcffakpobdlabDoorIn
import Derived.Test.YtllcffakpobdlabDoorSa
import Derived.Test.YtllcffakpobdlabDoorSb
import Derived.Test.YtllcffakpobdlabDoorSc
import Derived.Test.YtllcffakpobdlabDoorQa
import Derived.Test.YtllcffakpobdlabDoorQb
import Derived.Test.YtllcffakpobdlabDoorQc
import Derived.Test.YtllcffakpobdlabDoorQd
import Derived.Test.YtllcffakpobdlabDoorQe
import Derived.Test.YtllcffakpobdlabDoorAt
import Derived.Test.YtllcffakpobdlabDoorFe
import Derived.WalkKit
import Derived.ProofKit
import Derived.OpenShut
import Derived.ShutString
import Derived.ChangeOld
import Derived.Below
import Derived.LaidMore
import Derived.OpenVars
import Derived.SevenTiedAt
import Derived.Stop.Joined
import Derived.Lib.SmallJoins
namespace Go.Proofs.YtllcffakpobdlabDoor.fnFrame
open Go.ChangeShapes Go.WideShapes Go.ChangeAt Go.RowKit Go.Joins
open Go.ChangeMaps (open_string shut_string)
set_option linter.unusedVariables false

theorem own : ownKnob Tryd.prog.godebug = none := by kernel_rfl
theorem laidOut : laidOutB Tryd.prog = true := by kernel_rfl

def IsRow (k : IntKind) (w : World) (a : Option Addr) (len cap : Nat) (zs : List Int) : Prop :=
  (a = none ∧ len = 0 ∧ cap = 0 ∧ zs = []) ∨
  ∃ x, a = some x ∧ len ≤ cap ∧ cap ≤ maxLen ∧ zs.length = cap ∧ (∀ i, i < zs.length → w.cell? (x.add i) = some (.int k (zs.getD i 0))) ∧ ∀ n ∈ zs, (Lit.int k n).wf = true

set_option maxRecDepth 100000 in
set_option maxHeartbeats 4000000 in
theorem walk (a0 : Option Addr) (len0 cap0 : Nat) (z0 : List Int) (a1 : Option Addr) (len1 cap1 : Nat) (z1 : List Int) (w : World) (w0 : IsRow .u8 w a0 len0 cap0 z0) (w1 : IsRow .u8 w a1 len1 cap1 z1) (hL : Pat w) :
    Calls Tryd.prog 4 #[.slice a0 len0 cap0, .slice a1 len1 cap1] w fun e w' => e = .returned (.bool true) ∧ Below w.heap.size w w' := by
  have hc1 := codeAt_of w1
  have hnn : ∀ (zs : List Int) (a : Option Addr) (len cap : Nat), IsRow .u8 w a len cap zs → len ≤ maxLen := by
    intro zs a len cap h
    rcases h with ⟨_, rfl, _, _⟩ | ⟨x, _, hl, hm, _⟩
    · exact Nat.zero_le _
    · omega
  have hl0 := hnn _ _ _ _ w0
  have hl1 := hnn _ _ _ _ w1
  clear hnn w0 w1
  unfold maxLen at hl0 hl1
  by_cases h1 : 1048576 < len0
  · go_enter Tryd.func4, Tryd.ntmps4
    go_wp2
    go_ret
    exact ⟨rfl, Below.refl _ _⟩
  by_cases h2 : 1048576 < len1
  · go_enter Tryd.func4, Tryd.ntmps4
    go_wp2
    go_ret
    exact ⟨rfl, Below.refl _ _⟩
  go_enter Tryd.func4, Tryd.ntmps4
  go_wp2_with fail
  refine (at_val _ _ _ 0 640 _ _ hc1 (by omega) (by omega) (by omega)).mono ?_
  rintro e w1 ⟨rfl, hb1⟩
  obtain ⟨t, et, ht⟩ : ∃ t : Nat, atV w a1 len1 0 640 = (t : Int) ∧ t < 640 := by
    have := atV_bd (w := w) (a := a1) (len := len1) (i := 0) (n := 640) (by omega)
    exact ⟨(atV w a1 len1 0 640).toNat, by omega, by omega⟩
  rw [et]
  clear et
  have P1 : Hid (Pat w1) := pat_below hL hb1
  have B1 : Hid (Below w.heap.size w w1) := hb1
  clear hb1 hc1 hL
  have hin : inB (t : Int) 0 639 = true := in_yes (by omega) (by omega)
  obtain ⟨q, hq⟩ : ∃ q : Int, (t : Int) / 32 = q := ⟨_, rfl⟩
  obtain ⟨r, hr⟩ : ∃ r : Int, (t : Int) % 32 = r := ⟨_, rfl⟩
  have hqr : q * 32 + r = (t : Int) := by omega
  have hqb : 0 ≤ q ∧ q < 20 := by omega
  have hrb : 0 ≤ r ∧ r < 32 := by omega
  have e1 : line3 (t : Int) = .tuple #[.int .i64 q, .int .i64 r, .int .i64 0] := by unfold line3; rw [hin, hq, hr]; rfl
  have e2 : scr2 (t : Int) = .tuple #[.bool (scrI (t : Int)), .int .i64 0] := by unfold scr2; rw [hin]; rfl
  have e3 : wait2 (t : Int) = .tuple #[.int .i64 (waitI (t : Int)), .int .i64 0] := by unfold wait2; rw [hin]; rfl
  have e4 : win2 (t : Int) = .tuple #[.bool (decide ((t : Int) < 8)), .int .i64 0] := by unfold win2; rw [hin]; rfl
  have hwb := waitI_bd (t : Int)
  have hoff := waitI_off (t : Int)
  have hthen := wait_then (t : Int) (by omega) (by omega)
  have e5 : waitI (t : Int) ≠ 0 → wait2 ((t : Int) + waitI (t : Int)) = .tuple #[.int .i64 0, .int .i64 0] := fun h => by
    unfold wait2
    rw [in_yes (by omega) (hthen h).1, (hthen h).2]
    rfl
  clear hthen hin hq hr
  obtain ⟨p, hp⟩ : ∃ p : Int, waitI (t : Int) = p := ⟨_, rfl⟩
  obtain ⟨s, hs⟩ : ∃ s : Bool, scrI (t : Int) = s := ⟨_, rfl⟩
  have hcell : Hid (∀ i : Nat, i < 640 → (wtN 640)[i]? = some (.int .i64 (waitI (i : Int)))) := fun i hi => wtN_at 640 i hi
  rw [hp] at hwb hoff e3 e5
  rw [hs] at hoff e2
  replace e5 : Hid (p ≠ 0 → wait2 ((t : Int) + p) = .tuple #[.int .i64 0, .int .i64 0]) := e5
  replace hp : Hid (waitI (t : Int) = p) := hp
  clear hs
  go_wp2_with (first | (go_at_call 11; refine (line_impl _ _).mono ?_; rintro e w' ⟨rfl, rfl⟩; rw [e1]) | (go_at_call 12; refine (isscr_impl _ _).mono ?_; rintro e w' ⟨rfl, rfl⟩; rw [e2]) | (go_at_call 13; refine (wait_impl _ _ P1.out).mono ?_; rintro e w' ⟨rfl, rfl⟩; rw [e3]) | (go_at_call 14; refine (wait_spec _ _).mono ?_; rintro e w' ⟨rfl, rfl⟩; rw [e3]))
  refine (table_impl _ P1.out).mono ?_
  rintro e w2 ⟨v, rfl, ho, hb2⟩
  obtain ⟨g, cap, rfl, hlo, hlt⟩ := ho.form (by omega)
  have hct : w2.cell? ⟨g, t, none⟩ = some (.int .i64 p) := by
    rw [ho.cellAt t (by omega), hcell.out t ht, hp.out]
  have P2 : Hid (Pat w2) := pat_below P1.out hb2
  have B2 : Hid (Below w.heap.size w w2) := B1.out.trans (hb2.mono B1.out.size)
  have hs2 : (!s && p != 0) = false := by
    cases s
    · have := hoff rfl
      simp [this]
    · rfl
  have hwin : (decide ((t : Int) < 8) != decide ((t : Int) < 8)) = false := by simp
  clear ho hb2 hcell hoff P1 B1 hp
  by_cases hp0 : p = 0
  · subst hp0
    clear e5 hs2
    cases s
    all_goals
      go_wp2_with (go_at_call 16; refine (win_impl _ _).mono ?_; rintro e w' ⟨rfl, rfl⟩; rw [e4])
      go_ret
      exact ⟨rfl, B2.out⟩
  · have e6 := e5.out hp0
    obtain rfl : s = true := by
      cases s
      · simp at hs2; exact absurd hs2 hp0
      · rfl
    clear e5 hs2
    have hp1 : (p == 0) = false := by simpa using hp0
    go_wp2_with (first | (go_at_call 16; refine (win_impl _ _).mono ?_; rintro e w' ⟨rfl, rfl⟩; rw [e4]) | (go_at_call 13; refine (wait_impl _ _ P2.out).mono ?_; rintro e w' ⟨rfl, rfl⟩; rw [e6]))
    go_ret
    exact ⟨rfl, B2.out⟩

theorem door_met (os : Os) (args : Array Value) : laidMetH Tryd.prog Rows.fnFrameRow.laid ((World.doorLaid Tryd.prog 400 os).forCall (fun _ _ => 0) ⟨#[], args, []⟩).memory :=
  laidMetH_of_parts3 (fuel := 8) (laidMet_of_run' 8 (by kernel_rfl) (by kernel_rfl)) (by kernel_rfl) (by kernel_rfl)

set_option maxRecDepth 100000 in
theorem lifted (os : Os) (started : os.Started) (H : Type) (enc : TypeId × Value → H) :
    ReturnsInHanded {} Tryd.checked os 4 .any (fun w args => (Rows.fnFrameSpec.pre enc Tryd.prog Tryd.f4 [] false w args ∧ laidMetH Tryd.prog Rows.fnFrameRow.laid w) ∧ sizedMet enc Tryd.prog Tryd.f4 (OpenSpec.ofChange Rows.fnFrameSpec) false w args)
      (Rows.fnFrameSpec.post enc Tryd.prog Tryd.f4 false true false false) := by
  refine returnsInHanded_of_change_and (C := Tryd.checked) (X := fun w _ => laidMetH Tryd.prog Rows.fnFrameRow.laid w) (fun _ _ _ hh h => h.of_heap hh) own started (by kernel_rfl) Tryd.func4
    (ChangeSpec.witness_shaped (enc := enc) (C := Tryd.checked) (os := os) (X := fun w _ => laidMetH Tryd.prog Rows.fnFrameRow.laid w) false (World.doorLaid Tryd.prog 400 os) #[.slice none 0 0, .slice none 0 0] 8 rfl (World.shaped_of_RefB (by kernel_rfl) (by kernel_rfl)) (by kernel_rfl) (by kernel_rfl) (by kernel_rfl) (door_met os _)) ?_
  intro W base args ds gs before hval0 hW _ _ hL _
  have hval : ∀ (j : Nat) t v, Tryd.f4.params[j]? = some t → args[j]? = some v → Value.okWide Tryd.prog W .any base t v := hval0
  have hW' := hW
  obtain ⟨p, q, hA0, hV, hbefore, hfz, hnd⟩ := hW
  have hA : DataW.TrodAll enc Tryd.prog W 0 (fun _ => true) true Tryd.f4.params.toList args.toList ds p := hA0
  rw [Tryd.params4] at hA hval
  obtain ⟨v0, vs0, d0, ds0, p0, q0, hargs, rfl, rfl, h0, r0⟩ := trodAll_cons hA
  obtain ⟨v1, vs1, d1, ds1, p1, q1, rfl, rfl, rfl, h1, r1⟩ := trodAll_cons r0
  obtain ⟨rfl, rfl, rfl⟩ := trodAll_nil r1
  obtain rfl : args = #[v0, v1] := by cases args; simp_all
  obtain ⟨g0, rfl⟩ := vars1_form hV
  obtain ⟨a0, len0, cap0, rfl⟩ := okWide_slice Tryd.underlying22 (hval 0 22 v0 rfl rfl)
  have k0 := h0
  have lt0 : ∀ x ∈ p0, x.block < W.heap.size := by obtain ⟨m, hm⟩ := k0; exact DataW.trod_lt m _ _ _ hm
  obtain ⟨z0, w0⟩ : ∃ zs, IsRow .u8 W a0 len0 cap0 zs := by
    obtain ⟨fuel, hf⟩ := h0
    rcases open_ints Tryd.underlying22 Tryd.underlying5 (by kernel_rfl) hf with ⟨hcs, _⟩ | ⟨x, l, c, zs, hcs, _, hl, hm, hz, _, hcell, hwz⟩
    · simp [Value.cells] at hcs
      obtain ⟨rfl, rfl, rfl⟩ := hcs
      exact ⟨[], .inl ⟨rfl, rfl, rfl, rfl⟩⟩
    · simp [Value.cells] at hcs
      obtain ⟨rfl, rfl, rfl⟩ := hcs
      exact ⟨zs, .inr ⟨_, rfl, hl, hm, by simpa using hz, hcell, hwz⟩⟩
  obtain ⟨a1, len1, cap1, rfl⟩ := okWide_slice Tryd.underlying22 (hval 1 22 v1 rfl rfl)
  have k1 := h1
  have lt1 : ∀ x ∈ p1, x.block < W.heap.size := by obtain ⟨m, hm⟩ := k1; exact DataW.trod_lt m _ _ _ hm
  obtain ⟨z1, w1⟩ : ∃ zs, IsRow .u8 W a1 len1 cap1 zs := by
    obtain ⟨fuel, hf⟩ := h1
    rcases open_ints Tryd.underlying22 Tryd.underlying5 (by kernel_rfl) hf with ⟨hcs, _⟩ | ⟨x, l, c, zs, hcs, _, hl, hm, hz, _, hcell, hwz⟩
    · simp [Value.cells] at hcs
      obtain ⟨rfl, rfl, rfl⟩ := hcs
      exact ⟨[], .inl ⟨rfl, rfl, rfl, rfl⟩⟩
    · simp [Value.cells] at hcs
      obtain ⟨rfl, rfl, rfl⟩ := hcs
      exact ⟨zs, .inr ⟨_, rfl, hl, hm, by simpa using hz, hcell, hwz⟩⟩
  clear hA0 hval0
  refine (walk a0 len0 cap0 z0 a1 len1 cap1 z1 W w0 w1 (pat_of hL)).mono fun e W' ⟨he, bel⟩ => ?_
  subst he
  exact ⟨_, rfl, _, _, _, [], _, _, hW', trodAll_mk1 (shut_bool Tryd.underlying4 _), (trodAll_cons_mk (Below.trod laidOut (by kernel_rfl) (of_decide_eq_true (by kernel_rfl)) k0 bel lt0) (trodAll_cons_mk (Below.trod laidOut (by kernel_rfl) (of_decide_eq_true (by kernel_rfl)) k1 bel lt1) trodAll_mk0)), Below.trodVars laidOut bel (by kernel_rfl) hV, bel.frame _, fun h => by cases h⟩

theorem said : Rows.FnFrameSaid :=
  OpenClaim.holds_of_wide 4 Tryd.f4 rfl rfl rfl rfl rfl rfl rfl ⟨rfl, rfl, rfl, rfl, rfl⟩ rfl rfl rfl rfl rfl (by kernel_rfl) Tryd.func4 (by kernel_rfl)
    (of_decide_eq_true (by kernel_rfl)) (by unfold Func.isWrapper; first | (rw [if_pos (by decide +kernel)]; kernel_rfl) | (rw [if_neg (by decide +kernel)]; exact ⟨rfl, rfl⟩))
    (fun os started H enc _ => lifted os started H enc)

theorem card : Rows.FnFrameCardSaid :=
  Claim7.holds_tied_plain_at .later [] _ _ _ _ said (fun _ h => by cases h) (by kernel_rfl) (fun _ h => by cases h) fnFrame_row_tie rfl ⟨rfl, rfl⟩ (by kernel_rfl) rfl
    (fun f fn hf hfn => by
      obtain rfl : f = 4 := Option.some.inj ((show Tryd.prog.funcNamed "loop.example/g00644/laws.FnFrame" = some 4 by kernel_rfl).symm.trans hf) |>.symm
      obtain rfl : fn = Tryd.f4 := (Option.some.inj (Tryd.func4.symm.trans hfn)).symm
      exact ⟨by kernel_rfl, fun j t ht => by
        rw [Tryd.params4] at ht
        have hm : t ∈ [22, 22] := by simpa using Array.mem_of_getElem? ht
        have hall : ([22, 22].all fun u => !Tryd.prog.wantsStandIn u) = true := by kernel_rfl
        exact (show Tryd.prog.wantsStandIn t = false by simpa using List.all_eq_true.1 hall t hm)⟩)
    (by kernel_rfl)
end Go.Proofs.YtllcffakpobdlabDoor.fnFrame
namespace Go.Proofs.YtllcffakpobdlabDoor
theorem fnFrame_holds : Rows.FnFrameCardSaid := fnFrame.card
#print axioms fnFrame_holds
end Go.Proofs.YtllcffakpobdlabDoor
