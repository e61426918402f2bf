/- What the program decodes of a list. -/
import Derived.Test.YtneagomkohoceaaDoorKec
import Derived.Test.YtneagomkohoceaaDoorKac
import Derived.Maps.OwnSet
import Derived.Deep.MidRow
import Derived.WalkArith
namespace Go.Proofs.YtneagomkohoceaaDoor
open Go.ChangeShapes Go.WideShapes Go.ChangeAt Go.RowKit
set_option linter.unusedVariables false
set_option linter.unusedSimpArgs false

theorem isbyt_impl (a : Int) (w : World) : Calls Tryd.prog 46 #[.int .i64 a] w fun e w' => e = .returned (.bool (inB a 0 255)) ∧ w' = w := by
  go_enter Tryd.func46, Tryd.ntmps46
  go_wp2
  all_goals go_ret
  all_goals exact ⟨ret_bool (by rw [Bool.eq_iff_iff]; simp [inB]; try omega), rfl⟩
theorem bytes2_impl (a b : Int) (w : World) : Calls Tryd.prog 35 #[.int .i64 a, .int .i64 b] w fun e w' => e = .returned (.bool (inB a 0 255 && inB b 0 255)) ∧ w' = w := by
  cases h1 : inB a 0 255
  all_goals
    go_enter Tryd.func35, Tryd.ntmps35
    go_wp2_with (go_at_call 46; refine (isbyt_impl _ _).mono ?_; rintro e w' ⟨rfl, rfl⟩)
    go_ret
    exact ⟨ret_bool (by simp), rfl⟩
theorem bytes2_eq {zs : List Int} (h2 : zs.length = 2) : bytesB zs 2 = (inB (zs.getD 0 0) 0 255 && inB (zs.getD 1 0) 0 255) := by
  match zs, h2 with
  | [x, y], _ => simp [bytesB, inB]
set_option maxRecDepth 100000 in
set_option maxHeartbeats 2000000 in
theorem dec_impl (v : Value) (zs : List Int) (w : World) (hK : Kinds w) (h : RowR w v zs) (hl : zs.length ≤ 1000000000) :
    Calls Tryd.prog 13 #[v] w fun e w' => e = .returned (dec2 zs) ∧ Below w.heap.size w w' := by
  obtain ⟨a, cap, rfl, _⟩ := id h
  have hB : Hid (∀ o, Below w.heap.size w (w.alloc o)) := fun o => (Below.refl _ _).alloc (Nat.le_refl _) _
  have hBn : Hid (∀ o n, Below w.heap.size w ((w.alloc o).drewN n)) := fun o n => (hB.out o).trans (belD _ _ _)
  have hR : Hid (∀ o, RowR (w.alloc o) (.slice a zs.length cap) zs) := fun o => h.below (hB.out o)
  by_cases h1 : 4096 < zs.length
  · have e1 : decC zs = 2 := by unfold decC; rw [if_pos h1]
    have e : dec2 zs = .tuple #[insV 0 0 0 0 0, .int .i64 2] := by unfold dec2; rw [e1]; rfl
    rw [e]
    clear e e1 h
    go_enter Tryd.func13, Tryd.ntmps13
    go_wp2
    refine bodyPost_ret (v := .tuple #[insV 0 0 0 0 0, .int .i64 2]) (by simp [results, Tryd.results13, go_sem]) rfl ⟨rfl, hB.out _⟩
  by_cases h2 : zs.length = 2
  rotate_left
  · have e1 : decC zs = 8 := by unfold decC; rw [if_neg h1, if_neg h2]
    have e : dec2 zs = .tuple #[insV 0 0 0 0 0, .int .i64 8] := by unfold dec2; rw [e1]; rfl
    have h2' : ((zs.length : Int) != 2) = true := by simp; omega
    rw [e]
    clear e e1 h h2
    go_enter Tryd.func13, Tryd.ntmps13
    go_wp2
    refine bodyPost_ret (v := .tuple #[insV 0 0 0 0 0, .int .i64 8]) (by simp [results, Tryd.results13, go_sem]) rfl ⟨rfl, hB.out _⟩
  have h2' : ((zs.length : Int) != 2) = false := by simp; omega
  have h1' : decide ((4096 : Int) < (zs.length : Int)) = false := by simp; omega
  obtain ⟨b, off, ea, c0⟩ := row_some (hR.out (.cells #[.int .i64 0, .int .i64 0, .int .i64 0, .int .i64 0, .int .i64 0] 24)).disj (k := 0) (by omega)
  obtain ⟨b', off', ea', c1⟩ := row_some (hR.out (.cells #[.int .i64 0, .int .i64 0, .int .i64 0, .int .i64 0, .int .i64 0] 24)).disj (k := 1) (by omega)
  subst ea
  injection ea' with ea'
  injection ea' with e1' e2'
  subst e1' e2'
  rw [Nat.add_zero] at c0
  have h2n := hid h2
  have hb2 := bytes2_eq h2
  have hx : (1 : Int) < (zs.length : Int) := by rw [h2n.out]; decide
  have hx0 : (0 : Int) < (zs.length : Int) := by rw [h2n.out]; decide
  have hC : decC zs = if bytesB zs 2 = true then 0 else 4 := by unfold decC; rw [if_neg h1, if_pos h2]
  have hD : dec2 zs = if decC zs = 0 then .tuple #[dcdV (zs.getD 0 0) (zs.getD 1 0), .int .i64 0] else .tuple #[insV 0 0 0 0 0, .int .i64 (decC zs)] := rfl
  rw [hb2] at hC
  generalize zs.getD 0 0 = x at *
  generalize zs.getD 1 0 = y at *
  clear h h2 hb2
  have S0 : Hid (∀ n, Blk ((w.alloc (.cells #[.int .i64 0, .int .i64 0, .int .i64 0, .int .i64 0, .int .i64 0] 24)).drewN n).drew w.heap.size #[.int .i64 0, .int .i64 0, .int .i64 0, .int .i64 0, .int .i64 0]) := fun n => Blk.new w _ _
  have hK0 : Hid (∀ n, Kinds ((w.alloc (.cells #[.int .i64 0, .int .i64 0, .int .i64 0, .int .i64 0, .int .i64 0] 24)).drewN n).drew) := fun n => hK.below (hBn.out _ n).drew
  have hBd : Hid (∀ n, Below w.heap.size w ((w.alloc (.cells #[.int .i64 0, .int .i64 0, .int .i64 0, .int .i64 0, .int .i64 0] 24)).drewN n).drew) := fun n => (hBn.out _ n).drew
  clear hK hR
  cases hb : (inB x 0 255 && inB y 0 255)
  · have e : dec2 zs = .tuple #[insV 0 0 0 0 0, .int .i64 4] := by rw [hD, hC, hb]; rfl
    rw [e]
    clear e hC hD
    go_enter Tryd.func13, Tryd.ntmps13
    go_upto_region 5 with fail
    go_quiet ((go_at_call 35; exact Calls.quiet_of_same ((bytes2_impl _ _ _).mono (fun e w' h => by rw [hb] at h; exact h))))
    go_wp2
    refine bodyPost_ret (v := .tuple #[insV 0 0 0 0 0, .int .i64 4]) (by simp [results, Tryd.results13, go_sem]) rfl ⟨rfl, ?_⟩
    iterate 5 refine Below.setCell ?_ (by first | omega | (simp; done) | (simp; omega)) _
    exact hBn.out _ _
  · have e : dec2 zs = .tuple #[dcdV x y, .int .i64 0] := by rw [hD, hC, hb]; rfl
    have bb : (0 ≤ x ∧ x ≤ 255) ∧ (0 ≤ y ∧ y ≤ 255) := by simpa [inB] using hb
    obtain ⟨X, rfl⟩ : ∃ X : Nat, x = (X : Int) := ⟨x.toNat, by omega⟩
    obtain ⟨Y, rfl⟩ : ∃ Y : Nat, y = (Y : Int) := ⟨y.toNat, by omega⟩
    rw [e]
    clear e hC hD
    go_enter Tryd.func13, Tryd.ntmps13
    go_upto_region 5 with fail
    go_quiet ((go_at_call 35; exact Calls.quiet_of_same ((bytes2_impl _ _ _).mono (fun e w' h => by rw [hb] at h; exact h))))
    go_upto_region 7 with fail
    go_region_with ((go_at_call 36; refine (dec0_impl X Y _ (hK0.out _) (by omega) (by omega)).mono ?_; rintro e w2 ⟨rfl, hb2⟩; have q2 := (S0.out _).below hb2 (S0.out _).lt; have x2 := q2.cell; have f2 := q2.frozen; have hbw := hid (new_trans (hBd.out _) hb2); clear hb2 q2))
    all_goals
      go_wp2
      refine bodyPost_ret (v := .tuple #[dcdV X Y, .int .i64 0]) (by simp [results, Tryd.results13, go_sem, x2]) rfl ⟨rfl, ?_⟩
      iterate 5 refine Below.setCell ?_ (by first | omega | (simp; done) | (simp; omega)) _
      exact hbw.out
end Go.Proofs.YtneagomkohoceaaDoor

/- The program's map from words to numbers. -/
namespace Go.Proofs.YtneagomkohoceaaDoor
open Go.ChangeShapes Go.WideShapes Go.ChangeAt Go.RowKit Go.WideMaps Go.Maps
set_option linter.unusedVariables false
set_option linter.unusedSimpArgs false

theorem strK : Keyed Tryd.prog 9 := string_keyed Tryd.underlying9
theorem zeroI (w : World) : (zeroValue 3).run Tryd.prog w = .ok (.int .i64 0) w := by kernel_rfl
/-- the map, k words being in it -/
def DK : Nat → DataW Unit
  | 0 => .map []
  | k + 1 => (DK k).put (.string (kdWL.getD k [])) (.lit (.int .i64 (k : Int)))
def kcL : List Value := (List.range 24).flatMap fun k => [.string (kdW k), .int .i64 (kdN k), .int .i64 (kdA k), .int .i64 (kdB k), .int .i64 (kdT k)]
theorem kc_at : ∀ k, k < 24 → kcL[k * 5]? = some (.string (kdW k)) ∧ kcL[k * 5 + 1]? = some (.int .i64 (kdN k)) ∧ kcL[k * 5 + 2]? = some (.int .i64 (kdA k)) ∧ kcL[k * 5 + 3]? = some (.int .i64 (kdB k)) ∧ kcL[k * 5 + 4]? = some (.int .i64 (kdT k))
  | 0, _ => ⟨by kernel_rfl, by kernel_rfl, by kernel_rfl, by kernel_rfl, by kernel_rfl⟩
  | 1, _ => ⟨by kernel_rfl, by kernel_rfl, by kernel_rfl, by kernel_rfl, by kernel_rfl⟩
  | 2, _ => ⟨by kernel_rfl, by kernel_rfl, by kernel_rfl, by kernel_rfl, by kernel_rfl⟩
  | 3, _ => ⟨by kernel_rfl, by kernel_rfl, by kernel_rfl, by kernel_rfl, by kernel_rfl⟩
  | 4, _ => ⟨by kernel_rfl, by kernel_rfl, by kernel_rfl, by kernel_rfl, by kernel_rfl⟩
  | 5, _ => ⟨by kernel_rfl, by kernel_rfl, by kernel_rfl, by kernel_rfl, by kernel_rfl⟩
  | 6, _ => ⟨by kernel_rfl, by kernel_rfl, by kernel_rfl, by kernel_rfl, by kernel_rfl⟩
  | 7, _ => ⟨by kernel_rfl, by kernel_rfl, by kernel_rfl, by kernel_rfl, by kernel_rfl⟩
  | 8, _ => ⟨by kernel_rfl, by kernel_rfl, by kernel_rfl, by kernel_rfl, by kernel_rfl⟩
  | 9, _ => ⟨by kernel_rfl, by kernel_rfl, by kernel_rfl, by kernel_rfl, by kernel_rfl⟩
  | 10, _ => ⟨by kernel_rfl, by kernel_rfl, by kernel_rfl, by kernel_rfl, by kernel_rfl⟩
  | 11, _ => ⟨by kernel_rfl, by kernel_rfl, by kernel_rfl, by kernel_rfl, by kernel_rfl⟩
  | 12, _ => ⟨by kernel_rfl, by kernel_rfl, by kernel_rfl, by kernel_rfl, by kernel_rfl⟩
  | 13, _ => ⟨by kernel_rfl, by kernel_rfl, by kernel_rfl, by kernel_rfl, by kernel_rfl⟩
  | 14, _ => ⟨by kernel_rfl, by kernel_rfl, by kernel_rfl, by kernel_rfl, by kernel_rfl⟩
  | 15, _ => ⟨by kernel_rfl, by kernel_rfl, by kernel_rfl, by kernel_rfl, by kernel_rfl⟩
  | 16, _ => ⟨by kernel_rfl, by kernel_rfl, by kernel_rfl, by kernel_rfl, by kernel_rfl⟩
  | 17, _ => ⟨by kernel_rfl, by kernel_rfl, by kernel_rfl, by kernel_rfl, by kernel_rfl⟩
  | 18, _ => ⟨by kernel_rfl, by kernel_rfl, by kernel_rfl, by kernel_rfl, by kernel_rfl⟩
  | 19, _ => ⟨by kernel_rfl, by kernel_rfl, by kernel_rfl, by kernel_rfl, by kernel_rfl⟩
  | 20, _ => ⟨by kernel_rfl, by kernel_rfl, by kernel_rfl, by kernel_rfl, by kernel_rfl⟩
  | 21, _ => ⟨by kernel_rfl, by kernel_rfl, by kernel_rfl, by kernel_rfl, by kernel_rfl⟩
  | 22, _ => ⟨by kernel_rfl, by kernel_rfl, by kernel_rfl, by kernel_rfl, by kernel_rfl⟩
  | 23, _ => ⟨by kernel_rfl, by kernel_rfl, by kernel_rfl, by kernel_rfl, by kernel_rfl⟩
  | k + 24, h => by omega
theorem kc_len : kcL.length = 120 := by kernel_rfl
theorem kc_range {w : World} (h : Kinds w) : w.rangeAt 0 0 kcL := by
  intro j v hv
  have hj : j < 120 := by rw [← kc_len]; exact (List.getElem?_eq_some_iff.1 hv).1
  obtain ⟨k, i, hk, hi, rfl⟩ : ∃ k i, k < 24 ∧ i < 5 ∧ j = k * 5 + i := ⟨j / 5, j % 5, by omega, by omega, by omega⟩
  obtain ⟨h0, h1, h2, h3, h4⟩ := h k hk
  obtain ⟨a0, a1, a2, a3, a4⟩ := kc_at k hk
  rw [Nat.zero_add]
  have hi5 : i = 0 ∨ i = 1 ∨ i = 2 ∨ i = 3 ∨ i = 4 := by omega
  rcases hi5 with rfl | rfl | rfl | rfl | rfl
  · exact h0.trans (a0.symm.trans hv)
  · exact h1.trans (a1.symm.trans hv)
  · exact h2.trans (a2.symm.trans hv)
  · exact h3.trans (a3.symm.trans hv)
  · exact h4.trans (a4.symm.trans hv)
theorem kc_index : ∀ (j : Nat) (hj : j < 24) (w : World), (Instr.index 63 (.agg kcL.toArray) (.int .i64 (j : Int))).run Tryd.prog w = .ok (kinV (kdW j) (kdN j) (kdA j) (kdB j) (kdT j)) w
  | 0, _, w => by kernel_rfl
  | 1, _, w => by kernel_rfl
  | 2, _, w => by kernel_rfl
  | 3, _, w => by kernel_rfl
  | 4, _, w => by kernel_rfl
  | 5, _, w => by kernel_rfl
  | 6, _, w => by kernel_rfl
  | 7, _, w => by kernel_rfl
  | 8, _, w => by kernel_rfl
  | 9, _, w => by kernel_rfl
  | 10, _, w => by kernel_rfl
  | 11, _, w => by kernel_rfl
  | 12, _, w => by kernel_rfl
  | 13, _, w => by kernel_rfl
  | 14, _, w => by kernel_rfl
  | 15, _, w => by kernel_rfl
  | 16, _, w => by kernel_rfl
  | 17, _, w => by kernel_rfl
  | 18, _, w => by kernel_rfl
  | 19, _, w => by kernel_rfl
  | 20, _, w => by kernel_rfl
  | 21, _, w => by kernel_rfl
  | 22, _, w => by kernel_rfl
  | 23, _, w => by kernel_rfl
  | j + 24, h, w => by omega
theorem kdW_key (j : Nat) (hj : j < 24) : keyOf Tryd.prog 9 (.string (kdW j)) = some (.string (kdWL.getD j [])) := by
  have h : (kdW j).size ≤ maxLen := by
    have h : ∀ k, k < 24 → (kdW k).size ≤ 4 := by decide +kernel
    have := h j hj
    unfold maxLen
    omega
  have := keyOf_string_mk Tryd.underlying9 h
  simpa [kdW] using this
theorem make24 (w : World) : (Instr.makeMap 78 (some (.int .i64 24))).run Tryd.prog w = .ok (.map (some w.heap.size)) (w.alloc (.map #[] 0)) := by
  have hu := run_underlying Tryd.underlying78 w
  simp [Instr.makeMap, Sem.run_bind, hu, asInt, newObj, Result.andThen]
  rfl
set_option maxRecDepth 100000 in
theorem ops_impl (w : World) (hK : Kinds w) :
    Calls Tryd.prog 42 #[] w fun e w' => e = .returned (.map (some w.heap.size)) ∧ w'.ownsMap Tryd.prog 9 (plainElem Tryd.prog 3) w.heap.size 24 (DK 24) ∧ Below w.heap.size w w' := by
  have hmm := make24
  have hb0 := hid ((Below.refl w.heap.size w).alloc (Nat.le_refl _) (.map #[] 0))
  have hr := hid (kc_range (hK.below hb0.out))
  have hS : Hid ((w.alloc (.map #[] 0)).ownsMap Tryd.prog 9 (plainElem Tryd.prog 3) w.heap.size 0 (DK 0)) := World.ownsMap_made _ _ _ _
  go_enter Tryd.func42, Tryd.ntmps42
  go_upto_region 2 with fail
  go_wp2_with (refine wpList_load_mid rfl 63 _ rfl 0 0 rfl kcL _ hr.out Tryd.underlying63 rfl (by kernel_rfl) ?_)
  go_loopw [6] (fun i wr => ∃ j : Nat, j ≤ 24 ∧ i = .int .i64 j ∧ wr.ownsMap Tryd.prog 9 (plainElem Tryd.prog 3) w.heap.size j (DK j) ∧ Below w.heap.size w wr) (fun i _ => 24 - (intOf i).toNat)
  case atStart => exact ⟨0, by omega, rfl, hS.out, hb0.out⟩
  case round =>
    obtain ⟨j, hj, rfl, hown, hbel⟩ := hrel
    clear hr hS hb0
    by_cases hlt : j < 24
    · have hix := kc_index j hlt
      have hkey := kdW_key j hlt
      have hlti : (j : Int) < 24 := by omega
      have hnx : Hid (∀ w1 o, w1.ownsMap Tryd.prog 9 (plainElem Tryd.prog 3) w.heap.size (j + 1) ((DK j).put (.string (kdWL.getD j [])) (.lit (.int .i64 (j : Int)))) → (wr.alloc o).grownBy w1 (some w.heap.size) → w1.ownsMap Tryd.prog 9 (plainElem Tryd.prog 3) w.heap.size (j + 1) (DK (j + 1)) ∧ Below w.heap.size w w1) := fun w1 o h1 h2 => ⟨h1, (hbel.alloc hbel.size o).grown h2 (by have := hbel.size; simp; omega) (fun k hk => by cases hk; exact Nat.le_refl _)⟩
      replace hown := hid hown
      replace hbel := hid hbel
      generalize kdW j = WJ at *
      generalize kdN j = NJ at *
      generalize kdA j = AJ at *
      generalize kdB j = BJ at *
      generalize kdT j = TJ at *
      go_wp2_with (at_mapUpdate; refine wpList_mapUpdate_own _ rfl _ _ _ 78 rfl 9 3 strK Tryd.underlying78 _ w.heap.size j _ rfl (hown.out.alloc _) (by unfold maxLen; omega) _ _ _ rfl rfl hkey _ [] (plainElem_int Tryd.underlying3 (WalkArith.wf_i64 (by omega))) ?_; intro w1 hown1 hgrow1; have hN := hid (hnx.out _ _ hown1 hgrow1); clear hown1 hgrow1 hnx hown hbel)
      go_roundw
      case rel => exact ⟨j + 1, by omega, by go_num, hN.out.1, hN.out.2⟩
      case measure => simp [intOf]; omega
    · obtain rfl : j = 24 := by omega
      replace hown := hid hown
      replace hbel := hid hbel
      go_wp2
      go_ret
      exact ⟨rfl, hown.out, hbel.out⟩
end Go.Proofs.YtneagomkohoceaaDoor
