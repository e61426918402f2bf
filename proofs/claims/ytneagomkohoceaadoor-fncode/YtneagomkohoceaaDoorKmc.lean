/- The program's map from words to numbers. -/
import Derived.Test.YtneagomkohoceaaDoorKac
import Derived.Test.YtneagomkohoceaaDoorKec
import Derived.Maps.OwnSet
import Derived.Deep.MidRow
import Derived.WalkArith
namespace Go.Proofs.YtneagomkohoceaaDoor
open Go.ChangeShapes Go.WideShapes Go.ChangeAt Go.RowKit Go.WideMaps Go.Maps
set_option linter.unusedVariables false
set_option linter.unusedSimpArgs false

theorem strK : Keyed Tryd.prog 9 := string_keyed Tryd.underlying9
theorem zeroI (w : World) : (zeroValue 3).run Tryd.prog w = .ok (.int .i64 0) w := by kernel_rfl
/-- the map, k words being in it -/
def DK : Nat → DataW Unit
  | 0 => .map []
  | k + 1 => (DK k).put (.string (kdWL.getD k [])) (.lit (.int .i64 (k : Int)))
def kcL : List Value := (List.range 24).flatMap fun k => [.string (kdW k), .int .i64 (kdN k), .int .i64 (kdA k), .int .i64 (kdB k), .int .i64 (kdT k)]
theorem kc_at : ∀ k, k < 24 → kcL[k * 5]? = some (.string (kdW k)) ∧ kcL[k * 5 + 1]? = some (.int .i64 (kdN k)) ∧ kcL[k * 5 + 2]? = some (.int .i64 (kdA k)) ∧ kcL[k * 5 + 3]? = some (.int .i64 (kdB k)) ∧ kcL[k * 5 + 4]? = some (.int .i64 (kdT k))
  | 0, _ => ⟨by kernel_rfl, by kernel_rfl, by kernel_rfl, by kernel_rfl, by kernel_rfl⟩
  | 1, _ => ⟨by kernel_rfl, by kernel_rfl, by kernel_rfl, by kernel_rfl, by kernel_rfl⟩
  | 2, _ => ⟨by kernel_rfl, by kernel_rfl, by kernel_rfl, by kernel_rfl, by kernel_rfl⟩
  | 3, _ => ⟨by kernel_rfl, by kernel_rfl, by kernel_rfl, by kernel_rfl, by kernel_rfl⟩
  | 4, _ => ⟨by kernel_rfl, by kernel_rfl, by kernel_rfl, by kernel_rfl, by kernel_rfl⟩
  | 5, _ => ⟨by kernel_rfl, by kernel_rfl, by kernel_rfl, by kernel_rfl, by kernel_rfl⟩
  | 6, _ => ⟨by kernel_rfl, by kernel_rfl, by kernel_rfl, by kernel_rfl, by kernel_rfl⟩
  | 7, _ => ⟨by kernel_rfl, by kernel_rfl, by kernel_rfl, by kernel_rfl, by kernel_rfl⟩
  | 8, _ => ⟨by kernel_rfl, by kernel_rfl, by kernel_rfl, by kernel_rfl, by kernel_rfl⟩
  | 9, _ => ⟨by kernel_rfl, by kernel_rfl, by kernel_rfl, by kernel_rfl, by kernel_rfl⟩
  | 10, _ => ⟨by kernel_rfl, by kernel_rfl, by kernel_rfl, by kernel_rfl, by kernel_rfl⟩
  | 11, _ => ⟨by kernel_rfl, by kernel_rfl, by kernel_rfl, by kernel_rfl, by kernel_rfl⟩
  | 12, _ => ⟨by kernel_rfl, by kernel_rfl, by kernel_rfl, by kernel_rfl, by kernel_rfl⟩
  | 13, _ => ⟨by kernel_rfl, by kernel_rfl, by kernel_rfl, by kernel_rfl, by kernel_rfl⟩
  | 14, _ => ⟨by kernel_rfl, by kernel_rfl, by kernel_rfl, by kernel_rfl, by kernel_rfl⟩
  | 15, _ => ⟨by kernel_rfl, by kernel_rfl, by kernel_rfl, by kernel_rfl, by kernel_rfl⟩
  | 16, _ => ⟨by kernel_rfl, by kernel_rfl, by kernel_rfl, by kernel_rfl, by kernel_rfl⟩
  | 17, _ => ⟨by kernel_rfl, by kernel_rfl, by kernel_rfl, by kernel_rfl, by kernel_rfl⟩
  | 18, _ => ⟨by kernel_rfl, by kernel_rfl, by kernel_rfl, by kernel_rfl, by kernel_rfl⟩
  | 19, _ => ⟨by kernel_rfl, by kernel_rfl, by kernel_rfl, by kernel_rfl, by kernel_rfl⟩
  | 20, _ => ⟨by kernel_rfl, by kernel_rfl, by kernel_rfl, by kernel_rfl, by kernel_rfl⟩
  | 21, _ => ⟨by kernel_rfl, by kernel_rfl, by kernel_rfl, by kernel_rfl, by kernel_rfl⟩
  | 22, _ => ⟨by kernel_rfl, by kernel_rfl, by kernel_rfl, by kernel_rfl, by kernel_rfl⟩
  | 23, _ => ⟨by kernel_rfl, by kernel_rfl, by kernel_rfl, by kernel_rfl, by kernel_rfl⟩
  | k + 24, h => by omega
theorem kc_len : kcL.length = 120 := by kernel_rfl
theorem kc_range {w : World} (h : Kinds w) : w.rangeAt 0 0 kcL := by
  intro j v hv
  have hj : j < 120 := by rw [← kc_len]; exact (List.getElem?_eq_some_iff.1 hv).1
  obtain ⟨k, i, hk, hi, rfl⟩ : ∃ k i, k < 24 ∧ i < 5 ∧ j = k * 5 + i := ⟨j / 5, j % 5, by omega, by omega, by omega⟩
  obtain ⟨h0, h1, h2, h3, h4⟩ := h k hk
  obtain ⟨a0, a1, a2, a3, a4⟩ := kc_at k hk
  rw [Nat.zero_add]
  have hi5 : i = 0 ∨ i = 1 ∨ i = 2 ∨ i = 3 ∨ i = 4 := by omega
  rcases hi5 with rfl | rfl | rfl | rfl | rfl
  · exact h0.trans (a0.symm.trans hv)
  · exact h1.trans (a1.symm.trans hv)
  · exact h2.trans (a2.symm.trans hv)
  · exact h3.trans (a3.symm.trans hv)
  · exact h4.trans (a4.symm.trans hv)
theorem kc_index : ∀ (j : Nat) (hj : j < 24) (w : World), (Instr.index 63 (.agg kcL.toArray) (.int .i64 (j : Int))).run Tryd.prog w = .ok (kinV (kdW j) (kdN j) (kdA j) (kdB j) (kdT j)) w
  | 0, _, w => by kernel_rfl
  | 1, _, w => by kernel_rfl
  | 2, _, w => by kernel_rfl
  | 3, _, w => by kernel_rfl
  | 4, _, w => by kernel_rfl
  | 5, _, w => by kernel_rfl
  | 6, _, w => by kernel_rfl
  | 7, _, w => by kernel_rfl
  | 8, _, w => by kernel_rfl
  | 9, _, w => by kernel_rfl
  | 10, _, w => by kernel_rfl
  | 11, _, w => by kernel_rfl
  | 12, _, w => by kernel_rfl
  | 13, _, w => by kernel_rfl
  | 14, _, w => by kernel_rfl
  | 15, _, w => by kernel_rfl
  | 16, _, w => by kernel_rfl
  | 17, _, w => by kernel_rfl
  | 18, _, w => by kernel_rfl
  | 19, _, w => by kernel_rfl
  | 20, _, w => by kernel_rfl
  | 21, _, w => by kernel_rfl
  | 22, _, w => by kernel_rfl
  | 23, _, w => by kernel_rfl
  | j + 24, h, w => by omega
theorem kdW_key (j : Nat) (hj : j < 24) : keyOf Tryd.prog 9 (.string (kdW j)) = some (.string (kdWL.getD j [])) := by
  have h : (kdW j).size ≤ maxLen := by
    have h : ∀ k, k < 24 → (kdW k).size ≤ 4 := by decide +kernel
    have := h j hj
    unfold maxLen
    omega
  have := keyOf_string_mk Tryd.underlying9 h
  simpa [kdW] using this
theorem make24 (w : World) : (Instr.makeMap 78 (some (.int .i64 24))).run Tryd.prog w = .ok (.map (some w.heap.size)) (w.alloc (.map #[] 0)) := by
  have hu := run_underlying Tryd.underlying78 w
  simp [Instr.makeMap, Sem.run_bind, hu, asInt, newObj, Result.andThen]
  rfl
set_option maxRecDepth 100000 in
theorem ops_impl (w : World) (hK : Kinds w) :
    Calls Tryd.prog 42 #[] w fun e w' => e = .returned (.map (some w.heap.size)) ∧ w'.ownsMap Tryd.prog 9 (plainElem Tryd.prog 3) w.heap.size 24 (DK 24) ∧ Below w.heap.size w w' := by
  have hmm := make24
  have hb0 := hid ((Below.refl w.heap.size w).alloc (Nat.le_refl _) (.map #[] 0))
  have hr := hid (kc_range (hK.below hb0.out))
  have hS : Hid ((w.alloc (.map #[] 0)).ownsMap Tryd.prog 9 (plainElem Tryd.prog 3) w.heap.size 0 (DK 0)) := World.ownsMap_made _ _ _ _
  go_enter Tryd.func42, Tryd.ntmps42
  go_upto_region 2 with fail
  go_wp2_with (refine wpList_load_mid rfl 63 _ rfl 0 0 rfl kcL _ hr.out Tryd.underlying63 rfl (by kernel_rfl) ?_)
  go_loopw [6] (fun i wr => ∃ j : Nat, j ≤ 24 ∧ i = .int .i64 j ∧ wr.ownsMap Tryd.prog 9 (plainElem Tryd.prog 3) w.heap.size j (DK j) ∧ Below w.heap.size w wr) (fun i _ => 24 - (intOf i).toNat)
  case atStart => exact ⟨0, by omega, rfl, hS.out, hb0.out⟩
  case round =>
    obtain ⟨j, hj, rfl, hown, hbel⟩ := hrel
    clear hr hS hb0
    by_cases hlt : j < 24
    · have hix := kc_index j hlt
      have hkey := kdW_key j hlt
      have hlti : (j : Int) < 24 := by omega
      have hnx : Hid (∀ w1 o, w1.ownsMap Tryd.prog 9 (plainElem Tryd.prog 3) w.heap.size (j + 1) ((DK j).put (.string (kdWL.getD j [])) (.lit (.int .i64 (j : Int)))) → (wr.alloc o).grownBy w1 (some w.heap.size) → w1.ownsMap Tryd.prog 9 (plainElem Tryd.prog 3) w.heap.size (j + 1) (DK (j + 1)) ∧ Below w.heap.size w w1) := fun w1 o h1 h2 => ⟨h1, (hbel.alloc hbel.size o).grown h2 (by have := hbel.size; simp; omega) (fun k hk => by cases hk; exact Nat.le_refl _)⟩
      replace hown := hid hown
      replace hbel := hid hbel
      generalize kdW j = WJ at *
      generalize kdN j = NJ at *
      generalize kdA j = AJ at *
      generalize kdB j = BJ at *
      generalize kdT j = TJ at *
      go_wp2_with (at_mapUpdate; refine wpList_mapUpdate_own _ rfl _ _ _ 78 rfl 9 3 strK Tryd.underlying78 _ w.heap.size j _ rfl (hown.out.alloc _) (by unfold maxLen; omega) _ _ _ rfl rfl hkey _ [] (plainElem_int Tryd.underlying3 (WalkArith.wf_i64 (by omega))) ?_; intro w1 hown1 hgrow1; have hN := hid (hnx.out _ _ hown1 hgrow1); clear hown1 hgrow1 hnx hown hbel)
      go_roundw
      case rel => exact ⟨j + 1, by omega, by go_num, hN.out.1, hN.out.2⟩
      case measure => simp [intOf]; omega
    · obtain rfl : j = 24 := by omega
      replace hown := hid hown
      replace hbel := hid hbel
      go_wp2
      go_ret
      exact ⟨rfl, hown.out, hbel.out⟩
end Go.Proofs.YtneagomkohoceaaDoor
