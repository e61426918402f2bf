/- For all bytes the law FnFetch returns true: in each frame each byte of the screen is fetched just once; the pattern of fetches being as the program's text lays it. -/
import Derived.Test.YtllcffakpobdlabDoorCards
import Derived.Test.YtllcffakpobdlabDoorTie
import Derived.Test.YtllcffakpobdlabDoorBase
import Derived.Test.YtllcffakpobdlabDoorIn
import Derived.Test.YtllcffakpobdlabDoorSa
import Derived.Test.YtllcffakpobdlabDoorQa
import Derived.Test.YtllcffakpobdlabDoorQb
import Derived.Test.YtllcffakpobdlabDoorQe
import Derived.Test.YtllcffakpobdlabDoorAt
import Derived.Test.YtllcffakpobdlabDoorFe
import Derived.WalkKit
import Derived.ProofKit
import Derived.OpenShut
import Derived.ShutString
import Derived.ChangeOld
import Derived.Below
import Derived.LaidMore
import Derived.OpenVars
import Derived.SevenTiedAt
import Derived.Stop.Joined
import Derived.Lib.SmallJoins
import Derived.Laws.OwnMore
import Derived.Deep.OwnRows
namespace Go.Proofs.YtllcffakpobdlabDoor.fnFetch
open Go.ChangeShapes Go.WideShapes Go.ChangeAt Go.RowKit Go.Joins
open Go.ChangeMaps (open_string shut_string)
set_option linter.unusedVariables false

theorem own : ownKnob Tryd.prog.godebug = none := by kernel_rfl
theorem laidOut : laidOutB Tryd.prog = true := by kernel_rfl

def IsRow (k : IntKind) (w : World) (a : Option Addr) (len cap : Nat) (zs : List Int) : Prop :=
  (a = none ∧ len = 0 ∧ cap = 0 ∧ zs = []) ∨
  ∃ x, a = some x ∧ len ≤ cap ∧ cap ≤ maxLen ∧ zs.length = cap ∧ (∀ i, i < zs.length → w.cell? (x.add i) = some (.int k (zs.getD i 0))) ∧ ∀ n ∈ zs, (Lit.int k n).wf = true

set_option maxRecDepth 100000 in
set_option maxHeartbeats 4000000 in
theorem walk (a0 : Option Addr) (len0 cap0 : Nat) (z0 : List Int) (a1 : Option Addr) (len1 cap1 : Nat) (z1 : List Int) (w : World) (w0 : IsRow .u8 w a0 len0 cap0 z0) (w1 : IsRow .u8 w a1 len1 cap1 z1) (hL : FPat w) :
    Calls Tryd.prog 5 #[.slice a0 len0 cap0, .slice a1 len1 cap1] w fun e w' => e = .returned (.bool true) ∧ Below w.heap.size w w' := by
  have hc1 := codeAt_of w1
  have hnn : ∀ (zs : List Int) (a : Option Addr) (len cap : Nat), IsRow .u8 w a len cap zs → len ≤ maxLen := by
    intro zs a len cap h
    rcases h with ⟨_, rfl, _, _⟩ | ⟨x, _, hl, hm, _⟩
    · exact Nat.zero_le _
    · omega
  have hl0 := hnn _ _ _ _ w0
  have hl1 := hnn _ _ _ _ w1
  clear hnn w0 w1
  unfold maxLen at hl0 hl1
  by_cases h1 : 1048576 < len0
  · go_enter Tryd.func5, Tryd.ntmps5
    go_wp2
    go_ret
    exact ⟨rfl, Below.refl _ _⟩
  by_cases h2 : 1048576 < len1
  · go_enter Tryd.func5, Tryd.ntmps5
    go_wp2
    go_ret
    exact ⟨rfl, Below.refl _ _⟩
  have infoF : (Tryd.prog.info? 3).map (fun i => (i.zero, i.size, i.bytes)) = some (some (.int .i64 0), 1, 8) := by kernel_rfl
  obtain ⟨MC, hsz, hls, hmk⟩ : ∃ MC : Array Value, MC.size = 64 ∧ MC.toList = sn 0 ∧ ∀ w : World, (Instr.makeSlice 33 (.int .i64 64) (.int .i64 64)).run Tryd.prog w = .ok (.slice (some ⟨w.heap.size, 0, none⟩) 64 64) (w.alloc (.cells MC 3)) :=
    ⟨madeCells #[.int .i64 0] 64, by rw [← Array.length_toList, toList_madeCells_one, List.length_replicate], by rw [toList_madeCells_one, sn_zero], fun w => run_make_row' (P := Tryd.prog) 33 3 (.int .i64 0) 8 Tryd.underlying33 infoF rfl .i64 .i64 64 (by omega) (by omega) w⟩
  clear infoF
  have r0 : Hid ((w.alloc (.cells MC 3)).ownsRow w.heap.size 3 1 (.slice (some ⟨w.heap.size, 0, none⟩) 64 64) 64 (sn 0)) := by
    unfold Hid
    rw [← hls]
    exact World.ownsRow_lit w MC 64 (Nat.le_refl _) (by decide) (by omega)
  replace hc1 : Hid (CodeAt w w.heap.size a1 len1) := hc1
  replace hL : Hid (FPat w) := hL
  go_enter Tryd.func5, Tryd.ntmps5
  go_wp2
  clear hmk hls hsz
  go_loopw [6] (fun i wr => ∃ k : Nat, k ≤ 640 ∧ i = .int .i64 k ∧ wr.ownsRow w.heap.size 3 1 (.slice (some ⟨w.heap.size, 0, none⟩) 64 64) 64 (sn k) ∧ Below w.heap.size w wr) (fun i _ => 640 - (intOf i).toNat)
  case atStart => exact ⟨0, by omega, rfl, r0.out, (Below.refl _ _).alloc (Nat.le_refl _) _⟩
  case round =>
    obtain ⟨k, hk, rfl, hown, hbel⟩ := hrel
    by_cases hlt : k < 640
    · have hF : Hid (FPat wr) := fpat_below hL.out hbel
      have hin : inB (k : Int) 0 639 = true := in_yes (by omega) (by omega)
      have e1 : fet2 (k : Int) = .tuple #[.int .i64 (fetI (k : Int)), .int .i64 0] := by unfold fet2; rw [hin]; rfl
      rw [fet_nat] at e1
      by_cases hf : fetN k < 64
      · rw [if_pos hf] at e1
        have hcj : wr.cell? ⟨w.heap.size, fetN k, none⟩ = some (.int .i64 ((cn k).getD (fetN k) 0 : Nat)) := by
          rw [hown.cellAt (fetN k) (by omega)]
          exact sn_at k _ hf
        have hfz := hown.frozenAt (fetN k)
        have hbd := cn_bd k (fetN k)
        have hst := hown.stored (fetN k) (.int .i64 ((((cn k).getD (fetN k) 0 : Nat) : Int) + 1))
        have R : Hid ((wr.setCell ⟨w.heap.size, fetN k, none⟩ (.int .i64 ((((cn k).getD (fetN k) 0 : Nat) : Int) + 1))).ownsRow w.heap.size 3 1 (.slice (some ⟨w.heap.size, 0, none⟩) 64 64) 64 (sn (k + 1)) ∧ Below w.heap.size w (wr.setCell ⟨w.heap.size, fetN k, none⟩ (.int .i64 ((((cn k).getD (fetN k) 0 : Nat) : Int) + 1)))) := by
          refine ⟨by rw [sn_some k hf]; exact hst.1, hbel.setCell (p := ⟨w.heap.size, fetN k, none⟩) (Nat.le_refl _) _⟩
        clear hst hown hbel hin
        generalize (cn k).getD (fetN k) 0 = m at *
        generalize fetN k = j at *
        go_wp2_with (go_at_call 17; refine (fetch_impl _ _ hF.out).mono ?_; rintro e w' ⟨rfl, rfl⟩; rw [e1])
        go_roundw
        case rel => exact ⟨k + 1, by omega, by go_num, R.out.1, R.out.2⟩
        case measure => simp [intOf]; omega
      · rw [if_neg hf] at e1
        have R : Hid (wr.ownsRow w.heap.size 3 1 (.slice (some ⟨w.heap.size, 0, none⟩) 64 64) 64 (sn (k + 1)) ∧ Below w.heap.size w wr) := ⟨by rw [sn_none k hf]; exact hown, hbel⟩
        clear hown hbel hin hf
        go_wp2_with (go_at_call 17; refine (fetch_impl _ _ hF.out).mono ?_; rintro e w' ⟨rfl, rfl⟩; rw [e1])
        go_roundw
        case rel => exact ⟨k + 1, by omega, by go_num, R.out.1, R.out.2⟩
        case measure => simp [intOf]; omega
    · obtain rfl : k = 640 := by omega
      have hcells : Hid (∀ j : Nat, j < 64 → wr.cell? ⟨w.heap.size, j, none⟩ = some (.int .i64 1)) := fun j hj => by
        rw [hown.cellAt j (by omega)]
        exact sn_all j hj
      replace hbel : Hid (Below w.heap.size w wr) := hbel
      clear hown r0
      go_wp2
      go_loop [9] (fun i => ∃ j : Nat, j ≤ 64 ∧ i = .int .i64 j) (fun i => 64 - (intOf i).toNat)
      case atStart => exact ⟨0, by omega, rfl⟩
      case round =>
        obtain ⟨j, hj, rfl⟩ := hrel
        by_cases hjl : j < 64
        · have hcj := hcells.out j hjl
          go_wp2
          go_round
          case rel => exact ⟨j + 1, by omega, by go_num⟩
          case measure => simp [intOf]; omega
        · obtain rfl : j = 64 := by omega
          clear hcells
          go_wp2_with fail
          refine (at_val _ _ _ 0 8 _ _ (hc1.out.below hbel.out hbel.out.size) (by omega) (by omega) (by omega)).mono ?_
          rintro e w2 ⟨rfl, hb2⟩
          obtain ⟨r, er, hr⟩ : ∃ r : Nat, atV wr a1 len1 0 8 = (r : Int) ∧ r < 8 := by
            have := atV_bd (w := wr) (a := a1) (len := len1) (i := 0) (n := 8) (by omega)
            exact ⟨(atV wr a1 len1 0 8).toNat, by omega, by omega⟩
          rw [er]
          clear er
          have B2 : Hid (Below w.heap.size w w2) := hbel.out.trans (hb2.mono hbel.out.size)
          clear hb2 hbel
          go_wp2_with fail
          refine (at_val _ _ _ 1 4 _ _ (hc1.out.below B2.out B2.out.size) (by omega) (by omega) (by omega)).mono ?_
          rintro e w3 ⟨rfl, hb3⟩
          obtain ⟨c, ec, hc⟩ : ∃ c : Nat, atV w2 a1 len1 1 4 = (c : Int) ∧ c < 4 := by
            have := atV_bd (w := w2) (a := a1) (len := len1) (i := 1) (n := 4) (by omega)
            exact ⟨(atV w2 a1 len1 1 4).toNat, by omega, by omega⟩
          rw [ec]
          clear ec
          have B3 : Hid (Below w.heap.size w w3) := B2.out.trans (hb3.mono B2.out.size)
          clear hb3 B2 hc1
          have hF : Hid (FPat w3) := fpat_below hL.out B3.out
          have e1 : cell2 (r : Int) (c : Int) = .tuple #[.int .i64 (4 * (r : Int) + (c : Int)), .int .i64 0] := by
            unfold cell2
            rw [in_yes (by omega) (by omega), in_yes (by omega) (by omega)]
            rfl
          have e2 : fet2 ((4 + (r : Int)) * 32 + 4 * (c : Int)) = .tuple #[.int .i64 (4 * (r : Int) + (c : Int)), .int .i64 0] := by
            unfold fet2
            rw [in_yes (by omega) (by omega), fet_cell r c hr hc]
            rfl
          have e3 : fet2 ((4 + (r : Int)) * 32 + 4 * (c : Int) + 1) = .tuple #[.int .i64 (4 * (r : Int) + (c : Int) + 32), .int .i64 0] := by
            unfold fet2
            rw [in_yes (by omega) (by omega), fet_cell1 r c hr hc]
            rfl
          go_wp2_with (first | (go_at_call 18; refine (cell_impl _ _ _).mono ?_; rintro e w' ⟨rfl, rfl⟩; rw [e1]) | (go_at_call 17; refine (fetch_impl _ _ hF.out).mono ?_; rintro e w' ⟨rfl, rfl⟩; first | rw [e2] | rw [e3]))
          go_ret
          exact ⟨rfl, B3.out⟩

theorem door_met (os : Os) (args : Array Value) : laidMetH Tryd.prog Rows.fnFetchRow.laid ((World.doorLaid Tryd.prog 400 os).forCall (fun _ _ => 0) ⟨#[], args, []⟩).memory :=
  laidMetH_of_parts3 (fuel := 8) (laidMet_of_run' 8 (by kernel_rfl) (by kernel_rfl)) (by kernel_rfl) (by kernel_rfl)

set_option maxRecDepth 100000 in
theorem lifted (os : Os) (started : os.Started) (H : Type) (enc : TypeId × Value → H) :
    ReturnsInHanded {} Tryd.checked os 5 .any (fun w args => (Rows.fnFetchSpec.pre enc Tryd.prog Tryd.f5 [] false w args ∧ laidMetH Tryd.prog Rows.fnFetchRow.laid w) ∧ sizedMet enc Tryd.prog Tryd.f5 (OpenSpec.ofChange Rows.fnFetchSpec) false w args)
      (Rows.fnFetchSpec.post enc Tryd.prog Tryd.f5 false true false false) := by
  refine returnsInHanded_of_change_and (C := Tryd.checked) (X := fun w _ => laidMetH Tryd.prog Rows.fnFetchRow.laid w) (fun _ _ _ hh h => h.of_heap hh) own started (by kernel_rfl) Tryd.func5
    (ChangeSpec.witness_shaped (enc := enc) (C := Tryd.checked) (os := os) (X := fun w _ => laidMetH Tryd.prog Rows.fnFetchRow.laid w) false (World.doorLaid Tryd.prog 400 os) #[.slice none 0 0, .slice none 0 0] 8 rfl (World.shaped_of_RefB (by kernel_rfl) (by kernel_rfl)) (by kernel_rfl) (by kernel_rfl) (by kernel_rfl) (door_met os _)) ?_
  intro W base args ds gs before hval0 hW _ _ hL _
  have hval : ∀ (j : Nat) t v, Tryd.f5.params[j]? = some t → args[j]? = some v → Value.okWide Tryd.prog W .any base t v := hval0
  have hW' := hW
  obtain ⟨p, q, hA0, hV, hbefore, hfz, hnd⟩ := hW
  have hA : DataW.TrodAll enc Tryd.prog W 0 (fun _ => true) true Tryd.f5.params.toList args.toList ds p := hA0
  rw [Tryd.params5] at hA hval
  obtain ⟨v0, vs0, d0, ds0, p0, q0, hargs, rfl, rfl, h0, r0⟩ := trodAll_cons hA
  obtain ⟨v1, vs1, d1, ds1, p1, q1, rfl, rfl, rfl, h1, r1⟩ := trodAll_cons r0
  obtain ⟨rfl, rfl, rfl⟩ := trodAll_nil r1
  obtain rfl : args = #[v0, v1] := by cases args; simp_all
  obtain ⟨g0, rfl⟩ := vars1_form hV
  obtain ⟨a0, len0, cap0, rfl⟩ := okWide_slice Tryd.underlying22 (hval 0 22 v0 rfl rfl)
  have k0 := h0
  have lt0 : ∀ x ∈ p0, x.block < W.heap.size := by obtain ⟨m, hm⟩ := k0; exact DataW.trod_lt m _ _ _ hm
  obtain ⟨z0, w0⟩ : ∃ zs, IsRow .u8 W a0 len0 cap0 zs := by
    obtain ⟨fuel, hf⟩ := h0
    rcases open_ints Tryd.underlying22 Tryd.underlying5 (by kernel_rfl) hf with ⟨hcs, _⟩ | ⟨x, l, c, zs, hcs, _, hl, hm, hz, _, hcell, hwz⟩
    · simp [Value.cells] at hcs
      obtain ⟨rfl, rfl, rfl⟩ := hcs
      exact ⟨[], .inl ⟨rfl, rfl, rfl, rfl⟩⟩
    · simp [Value.cells] at hcs
      obtain ⟨rfl, rfl, rfl⟩ := hcs
      exact ⟨zs, .inr ⟨_, rfl, hl, hm, by simpa using hz, hcell, hwz⟩⟩
  obtain ⟨a1, len1, cap1, rfl⟩ := okWide_slice Tryd.underlying22 (hval 1 22 v1 rfl rfl)
  have k1 := h1
  have lt1 : ∀ x ∈ p1, x.block < W.heap.size := by obtain ⟨m, hm⟩ := k1; exact DataW.trod_lt m _ _ _ hm
  obtain ⟨z1, w1⟩ : ∃ zs, IsRow .u8 W a1 len1 cap1 zs := by
    obtain ⟨fuel, hf⟩ := h1
    rcases open_ints Tryd.underlying22 Tryd.underlying5 (by kernel_rfl) hf with ⟨hcs, _⟩ | ⟨x, l, c, zs, hcs, _, hl, hm, hz, _, hcell, hwz⟩
    · simp [Value.cells] at hcs
      obtain ⟨rfl, rfl, rfl⟩ := hcs
      exact ⟨[], .inl ⟨rfl, rfl, rfl, rfl⟩⟩
    · simp [Value.cells] at hcs
      obtain ⟨rfl, rfl, rfl⟩ := hcs
      exact ⟨zs, .inr ⟨_, rfl, hl, hm, by simpa using hz, hcell, hwz⟩⟩
  clear hA0 hval0
  refine (walk a0 len0 cap0 z0 a1 len1 cap1 z1 W w0 w1 (fpat_of hL)).mono fun e W' ⟨he, bel⟩ => ?_
  subst he
  exact ⟨_, rfl, _, _, _, [], _, _, hW', trodAll_mk1 (shut_bool Tryd.underlying4 _), (trodAll_cons_mk (Below.trod laidOut (by kernel_rfl) (of_decide_eq_true (by kernel_rfl)) k0 bel lt0) (trodAll_cons_mk (Below.trod laidOut (by kernel_rfl) (of_decide_eq_true (by kernel_rfl)) k1 bel lt1) trodAll_mk0)), Below.trodVars laidOut bel (by kernel_rfl) hV, bel.frame _, fun h => by cases h⟩

theorem said : Rows.FnFetchSaid :=
  OpenClaim.holds_of_wide 5 Tryd.f5 rfl rfl rfl rfl rfl rfl rfl ⟨rfl, rfl, rfl, rfl, rfl⟩ rfl rfl rfl rfl rfl (by kernel_rfl) Tryd.func5 (by kernel_rfl)
    (of_decide_eq_true (by kernel_rfl)) (by unfold Func.isWrapper; first | (rw [if_pos (by decide +kernel)]; kernel_rfl) | (rw [if_neg (by decide +kernel)]; exact ⟨rfl, rfl⟩))
    (fun os started H enc _ => lifted os started H enc)

theorem card : Rows.FnFetchCardSaid :=
  Claim7.holds_tied_plain_at .later [] _ _ _ _ said (fun _ h => by cases h) (by kernel_rfl) (fun _ h => by cases h) fnFetch_row_tie rfl ⟨rfl, rfl⟩ (by kernel_rfl) rfl
    (fun f fn hf hfn => by
      obtain rfl : f = 5 := Option.some.inj ((show Tryd.prog.funcNamed "loop.example/g00644/laws.FnFetch" = some 5 by kernel_rfl).symm.trans hf) |>.symm
      obtain rfl : fn = Tryd.f5 := (Option.some.inj (Tryd.func5.symm.trans hfn)).symm
      exact ⟨by kernel_rfl, fun j t ht => by
        rw [Tryd.params5] at ht
        have hm : t ∈ [22, 22] := by simpa using Array.mem_of_getElem? ht
        have hall : ([22, 22].all fun u => !Tryd.prog.wantsStandIn u) = true := by kernel_rfl
        exact (show Tryd.prog.wantsStandIn t = false by simpa using List.all_eq_true.1 hall t hm)⟩)
    (by kernel_rfl)
end Go.Proofs.YtllcffakpobdlabDoor.fnFetch
namespace Go.Proofs.YtllcffakpobdlabDoor
theorem fnFetch_holds : Rows.FnFetchCardSaid := fnFetch.card
#print axioms fnFetch_holds
end Go.Proofs.YtllcffakpobdlabDoor
