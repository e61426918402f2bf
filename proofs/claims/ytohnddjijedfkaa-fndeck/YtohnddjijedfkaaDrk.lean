/- A deck in a block of its own goes on: begun, rewound, played, stopped, over an edge, run: the program. -/
import Derived.Test.YtohnddjijedfkaaDqk
namespace Go.Proofs.Ytohnddjijedfkaa
open Go.ChangeShapes Go.WideShapes Go.ChangeAt Go.RowKit
set_option linter.unusedVariables false
set_option linter.unusedSimpArgs false

theorem begin_end {P : List Int} {ix lf : Int} {lv pl : Bool} (h : ix = (P.length : Int)) : (Dk.mk P ix lf lv pl).begin = ⟨P, ix, 0, lv, false⟩ := by
  unfold Dk.begin
  rw [if_pos (show (Dk.mk P ix lf lv pl).index = (Dk.mk P ix lf lv pl).len from h)]
theorem begin_mid {P : List Int} {ix lf : Int} {lv pl : Bool} (h : ix ≠ (P.length : Int)) : (Dk.mk P ix lf lv pl).begin = ⟨P, ix, P.getD ix.toNat 0, lv, pl⟩ := by
  unfold Dk.begin
  rw [if_neg (show ¬ (Dk.mk P ix lf lv pl).index = (Dk.mk P ix lf lv pl).len from h)]
  rfl
/-- over an edge: the level turned, the next pulse begun -/
theorem begin_edge {P : List Int} {ix lf : Int} {lv : Bool} (h0 : 0 ≤ ix) (h : ix < (P.length : Int)) : (Dk.mk P (ix + 1) lf (!lv) true).begin = (Dk.mk P ix lf lv true).edge := by
  have e : (Dk.mk P ix lf lv true).edge = ⟨P, ix + 1, if ix + 1 < (P.length : Int) then P.getD (ix + 1).toNat 0 else 0, !lv, decide (ix + 1 < (P.length : Int))⟩ := rfl
  rw [e]
  by_cases he : ix + 1 = (P.length : Int)
  · rw [begin_end he, if_neg (by omega), decide_eq_false (by omega)]
  · rw [begin_mid he, if_pos (by omega), decide_eq_true (by omega)]
theorem begin_zero {P : List Int} {lf : Int} : (Dk.mk P 0 lf false false).begin = Dk.goto ⟨P, 0, 0, false, false⟩ 0 := by
  have e : Dk.goto ⟨P, 0, 0, false, false⟩ 0 = ⟨P, 0, if 0 < (P.length : Int) then P.getD (0 : Int).toNat 0 else 0, false, false⟩ := rfl
  rw [e]
  by_cases he : (0 : Int) = (P.length : Int)
  · rw [begin_end he, if_neg (by omega)]
  · rw [begin_mid he, if_pos (by omega)]
theorem gset {W : World} (b i : Nat) (u : Value) : W.grownBy (W.setCell ⟨b, i, none⟩ u) (some b) := grown_set1 (World.grownBy.refl W (some b))
set_option maxRecDepth 100000 in
set_option maxHeartbeats 1000000 in
theorem begin_impl (b : Nat) (a : Option Addr) (cap : Nat) (d : Dk) (W : World) (h : Blk W b (dkA (.slice a d.pulses.length cap) d)) (hr : RowR W (.slice a d.pulses.length cap) d.pulses) (hn : Apart a d.pulses.length b) (hx : 0 ≤ d.index ∧ d.index ≤ d.len) (hl : d.pulses.length ≤ 1048576) :
    Calls Try.prog 53 #[.pointer (some ⟨b, 0, none⟩)] W fun e w' => e = .returned (.tuple #[]) ∧ Blk w' b (dkA (.slice a d.pulses.length cap) d.begin) ∧ W.grownBy w' (some b) := by
  obtain ⟨P, ix, lf, lv, pl⟩ := d
  have hA := hid (atend_impl b a cap P ix lf lv pl W h)
  replace hx : 0 ≤ ix ∧ ix ≤ (P.length : Int) := hx
  by_cases he : ix = (P.length : Int)
  · rw [begin_end he]
    have heb : (ix == (P.length : Int)) = true := by rw [beq_iff_eq]; exact he
    rw [heb] at hA
    clear he heb hx
    go_enter Try.func53, Try.ntmps53
    go_wp2_with fail
    refine hA.out.mono ?_
    rintro e w1 ⟨rfl, n1, rfl⟩
    have h1 : Blk (W.drewN n1) b #[.slice a P.length cap, .int .i64 ix, .int .i64 lf, .bool lv, .bool pl] := h
    have g1 := gdrewN W n1 (some b)
    obtain ⟨W1, hW1⟩ : ∃ W1, W.drewN n1 = W1 := ⟨_, rfl⟩
    rw [hW1] at h1 g1 ⊢
    clear hW1 hA
    have x0 := h1.cell
    have xf := h1.frozen
    have xl := h1.lt
    have q2 := hid ((h1.set 2 (.int .i64 0)).set 4 (.bool false))
    have g2 := hid (gtrans (gtrans g1 (gset b 2 (.int .i64 0))) (gset b 4 (.bool false)))
    clear h h1 g1
    go_wp2
    exact bodyPost_ret (v := .tuple #[]) (by simp [results, Try.results53]) rfl ⟨rfl, q2.out, g2.out⟩
  · rw [begin_mid he]
    have heb : (ix == (P.length : Int)) = false := by rw [beq_eq_false_iff_ne]; exact he
    rw [heb] at hA
    obtain ⟨k, rfl⟩ : ∃ k : Nat, ix = (k : Int) := ⟨ix.toNat, by omega⟩
    have hkl : k < P.length := by omega
    have hkI : (k : Int) < (P.length : Int) := by omega
    rw [Int.toNat_natCast]
    obtain ⟨c, off, rfl, xk⟩ := hr.at hkl
    have hcb : ¬ c = b := hn (show 0 < P.length by omega) c off rfl
    generalize P.getD k 0 = X at *
    clear he heb hx hr hn
    go_enter Try.func53, Try.ntmps53
    go_wp2_with fail
    refine hA.out.mono ?_
    rintro e w1 ⟨rfl, n1, rfl⟩
    have h1 : Blk (W.drewN n1) b #[.slice (some ⟨c, off, none⟩) P.length cap, .int .i64 (k : Int), .int .i64 lf, .bool lv, .bool pl] := h
    have g1 := gdrewN W n1 (some b)
    have xk1 : (W.drewN n1).cell? ⟨c, off + k, none⟩ = some (.int .i64 X) := xk
    obtain ⟨W1, hW1⟩ : ∃ W1, W.drewN n1 = W1 := ⟨_, rfl⟩
    rw [hW1] at h1 g1 xk1 ⊢
    clear hW1 hA xk
    have x0 := h1.cell
    have xf := h1.frozen
    have xl := h1.lt
    have q2 : Hid (∀ n, Blk ((W1.drewN n).setCell ⟨b, 2, none⟩ (.int .i64 X)) b _) := fun n => (show Blk (W1.drewN n) b _ from h1).set 2 (.int .i64 X)
    have g2 : Hid (∀ n, W.grownBy ((W1.drewN n).setCell ⟨b, 2, none⟩ (.int .i64 X)) (some b)) := fun n => gtrans (gtrans g1 (gdrewN W1 n (some b))) (gset b 2 (.int .i64 X))
    clear h h1 g1
    go_wp2
    go_region
    go_wp2
    exact bodyPost_end (v := .tuple #[]) (by simp [results, Try.results53]) rfl ⟨rfl, q2.out 1, g2.out 1⟩
end Go.Proofs.Ytohnddjijedfkaa
