/- A deck in a block: whether it is at its end, whether it is right: the program. -/
import Derived.Test.YtifcdojaocndhaaDoorM27
import Derived.Test.YtifcdojaocndhaaDoorM34
import Derived.Deep.QuietTactic
import Derived.Test.YtifcdojaocndhaaDoorM00
import Derived.RangeFuncBox
import Derived.RangeFuncCalls
import Derived.RangeFuncLeaves
import Derived.Shelf.Abstract
import Derived.Shelf.RegionOpen
import Derived.OwnWalkIn
import Derived.TacticsInMore
import Derived.Maps.OwnIn
import Derived.KernelRfl
import Derived.LoopNIn
import Derived.LoopIn
namespace Go.Proofs.YtifcdojaocndhaaDoor
open Go.ChangeShapes Go.WideShapes Go.ChangeAt Go.RowKit
set_option linter.unusedVariables false
set_option linter.unusedSimpArgs false

set_option maxRecDepth 100000 in
theorem atend_impl (b : Nat) (a : Option Addr) (cap : Nat) (P : List Int) (ix lf : Int) (lv pl : Bool) (W : World) (h : Blk W b #[.slice a P.length cap, .int .i64 ix, .int .i64 lf, .bool lv, .bool pl]) :
    Calls Tryd.prog 144 #[.pointer (some ⟨b, 0, none⟩)] W fun e w' => e = .returned (.bool (ix == (P.length : Int))) ∧ ∃ n, w' = W.drewN n := by
  have x0 := h.cell
  clear h
  go_enter Tryd.func144, Tryd.ntmps144
  go_wp2
  go_quiet (fail)
  go_wp2
  go_ret
  exact ⟨rfl, _, rfl⟩
set_option maxRecDepth 100000 in
set_option maxHeartbeats 1000000 in
theorem right_long (b : Nat) (a : Option Addr) (cap : Nat) (P : List Int) (ix lf : Int) (lv pl : Bool) (W : World) (h : Blk W b #[.slice a P.length cap, .int .i64 ix, .int .i64 lf, .bool lv, .bool pl]) (hl : 5000 < P.length) :
    Calls Tryd.prog 112 #[.pointer (some ⟨b, 0, none⟩)] W fun e w' => e = .returned (.bool false) ∧ ∃ n, w' = W.drewN n := by
  have x0 := h.cell
  have hd : (5000 : Int) < (P.length : Int) := by omega
  clear h
  go_enter Tryd.func112, Tryd.ntmps112
  go_wp2
  go_quiet (fail)
  go_wp2
  go_ret
  exact ⟨rfl, _, rfl⟩
set_option maxRecDepth 100000 in
set_option maxHeartbeats 1000000 in
theorem right_out (b : Nat) (a : Option Addr) (cap : Nat) (P : List Int) (ix lf : Int) (lv pl : Bool) (W : World) (h : Blk W b #[.slice a P.length cap, .int .i64 ix, .int .i64 lf, .bool lv, .bool pl]) (hl : P.length ≤ 5000) (hi : inB ix 0 (P.length : Int) = false) :
    Calls Tryd.prog 112 #[.pointer (some ⟨b, 0, none⟩)] W fun e w' => e = .returned (.bool false) ∧ ∃ n, w' = W.drewN n := by
  have x0 := h.cell
  have hd : ¬ (5000 : Int) < (P.length : Int) := by omega
  have hI := hid (fun W => withinV_impl ix 0 (P.length : Int) W)
  rw [hi] at hI
  clear h
  go_enter Tryd.func112, Tryd.ntmps112
  go_wp2
  go_quiet ((go_at_call 114; exact Calls.quiet_of_same (hI.out _)))
  go_wp2
  go_ret
  exact ⟨rfl, _, rfl⟩
set_option maxRecDepth 100000 in
set_option maxHeartbeats 2000000 in
theorem right_in (b : Nat) (a : Option Addr) (cap : Nat) (P : List Int) (ix lf : Int) (lv pl : Bool) (W : World) (h : Blk W b #[.slice a P.length cap, .int .i64 ix, .int .i64 lf, .bool lv, .bool pl]) (hr : RowR W (.slice a P.length cap) P) (hl : P.length ≤ 5000) (hi : inB ix 0 (P.length : Int) = true) :
    Calls Tryd.prog 112 #[.pointer (some ⟨b, 0, none⟩)] W fun e w' => e = .returned (.bool (Dk.mk P ix lf lv pl).ok) ∧ ∃ n, w' = W.drewN n := by
  have hno : Hid (∀ k, k < P.length → inB (P.getD k 0) 1 1000 = false → (Dk.mk P ix lf lv pl).ok = false) := fun k hk hb => by
    unfold Dk.ok okPl
    rw [show allP P = false from all_no hk hb]
    rfl
  have hyes : Hid ((∀ k, k < P.length → inB (P.getD k 0) 1 1000 = true) → (Dk.mk P ix lf lv pl).ok = if ix = (P.length : Int) then decide (lf = 0) && !pl else inB lf 1 (P.getD ix.toNat 0)) := fun hh => by
    show ((allP P && decide (P.length ≤ 5000)) && inB ix 0 (P.length : Int) && (if ix = (P.length : Int) then decide (lf = 0) && !pl else inB lf 1 (P.getD ix.toNat 0))) = _
    rw [show allP P = true from all_yes hh, decide_eq_true hl, hi]
    rfl
  obtain ⟨Q, hQ⟩ : ∃ Q, (Dk.mk P ix lf lv pl).ok = Q := ⟨_, rfl⟩
  rw [hQ] at hno hyes ⊢
  clear hQ
  have x0 := h.cell
  have hd : ¬ (5000 : Int) < (P.length : Int) := by omega
  have hI := hid (fun W => withinV_impl ix 0 (P.length : Int) W)
  rw [hi] at hI
  have hi2 : Hid (0 ≤ ix ∧ ix ≤ (P.length : Int)) := hid (of_decide_eq_true hi)
  replace h := hid h
  replace hr := hid hr
  clear hi
  go_enter Tryd.func112, Tryd.ntmps112
  go_wp2
  go_quiet ((go_at_call 114; exact Calls.quiet_of_same (hI.out _)))
  generalize nq = n1 at *
  clear hI
  go_wp2
  go_loop [29] (fun i => ∃ k : Nat, k ≤ P.length ∧ i = .int .i64 k ∧ (∀ j, j < k → inB (P.getD j 0) 1 1000 = true)) (fun i => P.length - (intOf i).toNat)
  case atStart => exact ⟨0, by omega, rfl, fun j hj => by omega⟩
  case round =>
    obtain ⟨k, hk, rfl, hj⟩ := hrel
    by_cases hlt : k < P.length
    · obtain ⟨g, off, rfl, x1⟩ := hr.out.at hlt
      cases hb : inB (P.getD k 0) 1 1000
      · have hE2 := hid (hno.out k hlt hb)
        clear hj hno hyes
        have hI := hid (fun W => isPulse_impl (P.getD k 0) W)
        rw [hb] at hI
        clear hb
        generalize P.getD k 0 = X at *
        go_wp2_with (go_at_call 143; refine (hI.out _).mono ?_; rintro e w' ⟨rfl, hww⟩; obtain rfl := hww.symm)
        go_ret
        exact ⟨ret_bool hE2.out.symm, _, rfl⟩
      · have hj2 : Hid (∀ j, j < k + 1 → inB (P.getD j 0) 1 1000 = true) := fun j hj1 => by
          by_cases e : j = k
          · rw [e]; exact hb
          · exact hj j (by omega)
        clear hj hno hyes
        have hI := hid (fun W => isPulse_impl (P.getD k 0) W)
        rw [hb] at hI
        clear hb
        generalize P.getD k 0 = X at *
        go_wp2_with (go_at_call 143; refine (hI.out _).mono ?_; rintro e w' ⟨rfl, hww⟩; obtain rfl := hww.symm)
        go_round
        case rel => exact ⟨k + 1, by omega, by go_num, hj2.out⟩
        case measure => simp [intOf] <;> omega
    · obtain rfl : k = P.length := by omega
      have hE := hyes.out hj
      clear hj hno hyes
      have hA := hid (atend_impl b a cap P ix lf lv pl (W.drewN n1) h.out)
      by_cases he : ix = (P.length : Int)
      · rw [if_pos he] at hE
        have heb : (ix == (P.length : Int)) = true := by rw [beq_iff_eq]; exact he
        rw [heb] at hA
        replace hE := hid hE
        clear he heb
        go_wp2_with fail
        refine hA.out.mono ?_
        rintro e w2 ⟨rfl, n2, rfl⟩
        have e2 : decide (lf = 0) = (lf == 0) := by rw [Bool.eq_iff_iff]; simp
        rw [e2] at hE
        clear e2
        cases hl0 : (lf == 0)
        all_goals
          go_wp2
          go_ret
          exact ⟨ret_bool (by rw [hE.out, hl0]; cases pl <;> rfl), n1 + n2, by first | rfl | exact World.drewN_drewN W n1 n2⟩
      · rw [if_neg he] at hE
        have heb : (ix == (P.length : Int)) = false := by rw [beq_eq_false_iff_ne]; exact he
        rw [heb] at hA
        obtain ⟨m, rfl⟩ : ∃ m : Nat, ix = (m : Int) := ⟨ix.toNat, by have := hi2.out.1; omega⟩
        have hml : m < P.length := by have := hi2.out.2; omega
        have hmI : (m : Int) < (P.length : Int) := by omega
        rw [Int.toNat_natCast] at hE
        obtain ⟨g, off, rfl, xm⟩ := hr.out.at hml
        have hI2 := hid (fun W => withinV_impl lf 1 (P.getD m 0) W)
        generalize P.getD m 0 = X at *
        replace hE := hid hE
        clear he heb hi2
        go_wp2_with fail
        refine hA.out.mono ?_
        rintro e w2 ⟨rfl, n2, rfl⟩
        have x2 : ∀ i, ((W.drewN n1).drewN n2).cell? ⟨b, i, none⟩ = _ := x0
        have y2 : ((W.drewN n1).drewN n2).cell? ⟨g, off + m, none⟩ = _ := xm
        obtain ⟨W2, hW2⟩ : ∃ W2, (W.drewN n1).drewN n2 = W2 := ⟨_, rfl⟩
        rw [hW2] at x2 y2 ⊢
        replace hW2 := hid hW2
        clear x0 xm
        go_wp2
        go_quiet ((go_at_call 114; exact Calls.quiet_of_same (hI2.out _)))
        generalize nq = n3 at *
        go_wp2
        go_ret
        exact ⟨ret_bool hE.out.symm, n1 + (n2 + n3), by rw [← hW2.out, World.drewN_drewN, World.drewN_drewN]⟩
theorem right_impl (b : Nat) (a : Option Addr) (cap : Nat) (d : Dk) (W : World) (h : Blk W b (dkA (.slice a d.pulses.length cap) d)) (hr : RowR W (.slice a d.pulses.length cap) d.pulses) :
    Calls Tryd.prog 112 #[.pointer (some ⟨b, 0, none⟩)] W fun e w' => e = .returned (.bool d.ok) ∧ ∃ n, w' = W.drewN n := by
  obtain ⟨P, ix, lf, lv, pl⟩ := d
  by_cases hl : P.length ≤ 5000
  · cases hi : inB ix 0 (P.length : Int)
    · have e : (Dk.mk P ix lf lv pl).ok = false := by
        show ((allP P && decide (P.length ≤ 5000)) && inB ix 0 (P.length : Int) && _) = false
        rw [hi, Bool.and_false, Bool.false_and]
      rw [e]
      exact right_out b a cap P ix lf lv pl W h hl hi
    · exact right_in b a cap P ix lf lv pl W h hr hl hi
  · have e : (Dk.mk P ix lf lv pl).ok = false := by
      show ((allP P && decide (P.length ≤ 5000)) && inB ix 0 (P.length : Int) && _) = false
      rw [decide_eq_false hl, Bool.and_false, Bool.false_and, Bool.false_and]
    rw [e]
    exact right_long b a cap P ix lf lv pl W h (by omega)
end Go.Proofs.YtifcdojaocndhaaDoor

/- A deck in a block of its own is copied, begun, rewound, played, stopped: the program. -/
namespace Go.Proofs.YtifcdojaocndhaaDoor
open Go.ChangeShapes Go.WideShapes Go.ChangeAt Go.RowKit
set_option linter.unusedVariables false
set_option linter.unusedSimpArgs false

theorem gtrans {a b c : World} {r : Option Nat} (h : a.grownBy b r) (k : b.grownBy c r) : a.grownBy c r :=
  ⟨k.os.trans h.os, k.tape.trans h.tape, k.output.trans h.output, Nat.le_trans h.size k.size, fun i hi hne => (k.block i (Nat.lt_of_lt_of_le hi h.size) hne).trans (h.block i hi hne)⟩
theorem gdrewN (W : World) (n : Nat) (r : Option Nat) : W.grownBy (W.drewN n) r := ⟨rfl, rfl, rfl, Nat.le_refl _, fun _ _ _ => rfl⟩
/-- the numbers of a slice do not lie in block b -/
def Apart (a : Option Addr) (n b : Nat) : Prop := 0 < n → ∀ g o, a = some ⟨g, o, none⟩ → g ≠ b
theorem RowR.apart {W W' : World} {a : Option Addr} {cap b : Nat} {P : List Int} (h : RowR W (.slice a P.length cap) P) (hg : W.grownBy W' (some b)) (hn : Apart a P.length b) : RowR W' (.slice a P.length cap) P := by
  refine ⟨a, cap, rfl, ?_⟩
  by_cases h0 : 0 < P.length
  · obtain ⟨g, off, rfl, hc⟩ := h.at h0
    refine .inr ⟨g, off, rfl, fun i hi => ?_⟩
    obtain ⟨g', off', e, hc⟩ := h.at hi
    cases e
    have hne := hn h0 g off rfl
    rw [hg.cell_far ⟨g, off + i, none⟩ (World.block_lt_of_cell? W _ hc) (fun e => hne (by simpa using e))]
    exact hc
  · exact .inl (List.length_eq_zero_iff.1 (by omega))
theorem Grow.apart {w W : World} {a : Option Addr} {cap : Nat} {P : List Int} (h : Grow w W (.slice a P.length cap) P) {b : Nat} (hb : (Value.slice a P.length cap).ownBlock ≠ some b) : Apart a P.length b := fun h0 g o e => by
  subst e
  obtain ⟨g', cap', e, _⟩ := h.own.form h0
  cases e
  exact fun e => hb (by rw [e]; rfl)
/-- the pulse at the index begins -/
def Dk.begin (d : Dk) : Dk := if d.index = d.len then ⟨d.pulses, d.index, 0, d.level, false⟩ else ⟨d.pulses, d.index, d.pulse d.index, d.level, d.plays⟩
end Go.Proofs.YtifcdojaocndhaaDoor

/- A deck in a block of its own goes on: begun, rewound, played, stopped, over an edge, run: the program. -/
namespace Go.Proofs.YtifcdojaocndhaaDoor
open Go.ChangeShapes Go.WideShapes Go.ChangeAt Go.RowKit
set_option linter.unusedVariables false
set_option linter.unusedSimpArgs false

theorem begin_end {P : List Int} {ix lf : Int} {lv pl : Bool} (h : ix = (P.length : Int)) : (Dk.mk P ix lf lv pl).begin = ⟨P, ix, 0, lv, false⟩ := by
  unfold Dk.begin
  rw [if_pos (show (Dk.mk P ix lf lv pl).index = (Dk.mk P ix lf lv pl).len from h)]
theorem begin_mid {P : List Int} {ix lf : Int} {lv pl : Bool} (h : ix ≠ (P.length : Int)) : (Dk.mk P ix lf lv pl).begin = ⟨P, ix, P.getD ix.toNat 0, lv, pl⟩ := by
  unfold Dk.begin
  rw [if_neg (show ¬ (Dk.mk P ix lf lv pl).index = (Dk.mk P ix lf lv pl).len from h)]
  rfl
/-- over an edge: the level turned, the next pulse begun -/
theorem begin_edge {P : List Int} {ix lf : Int} {lv : Bool} (h0 : 0 ≤ ix) (h : ix < (P.length : Int)) : (Dk.mk P (ix + 1) lf (!lv) true).begin = (Dk.mk P ix lf lv true).edge := by
  have e : (Dk.mk P ix lf lv true).edge = ⟨P, ix + 1, if ix + 1 < (P.length : Int) then P.getD (ix + 1).toNat 0 else 0, !lv, decide (ix + 1 < (P.length : Int))⟩ := rfl
  rw [e]
  by_cases he : ix + 1 = (P.length : Int)
  · rw [begin_end he, if_neg (by omega), decide_eq_false (by omega)]
  · rw [begin_mid he, if_pos (by omega), decide_eq_true (by omega)]
theorem begin_zero {P : List Int} {lf : Int} : (Dk.mk P 0 lf false false).begin = Dk.goto ⟨P, 0, 0, false, false⟩ 0 := by
  have e : Dk.goto ⟨P, 0, 0, false, false⟩ 0 = ⟨P, 0, if 0 < (P.length : Int) then P.getD (0 : Int).toNat 0 else 0, false, false⟩ := rfl
  rw [e]
  by_cases he : (0 : Int) = (P.length : Int)
  · rw [begin_end he, if_neg (by omega)]
  · rw [begin_mid he, if_pos (by omega)]
theorem gset {W : World} (b i : Nat) (u : Value) : W.grownBy (W.setCell ⟨b, i, none⟩ u) (some b) := grown_set1 (World.grownBy.refl W (some b))
set_option maxRecDepth 100000 in
set_option maxHeartbeats 1000000 in
theorem begin_impl (b : Nat) (a : Option Addr) (cap : Nat) (d : Dk) (W : World) (h : Blk W b (dkA (.slice a d.pulses.length cap) d)) (hr : RowR W (.slice a d.pulses.length cap) d.pulses) (hn : Apart a d.pulses.length b) (hx : 0 ≤ d.index ∧ d.index ≤ d.len) (hl : d.pulses.length ≤ 1048576) :
    Calls Tryd.prog 134 #[.pointer (some ⟨b, 0, none⟩)] W fun e w' => e = .returned (.tuple #[]) ∧ Blk w' b (dkA (.slice a d.pulses.length cap) d.begin) ∧ W.grownBy w' (some b) := by
  obtain ⟨P, ix, lf, lv, pl⟩ := d
  have hA := hid (atend_impl b a cap P ix lf lv pl W h)
  replace hx : 0 ≤ ix ∧ ix ≤ (P.length : Int) := hx
  by_cases he : ix = (P.length : Int)
  · rw [begin_end he]
    have heb : (ix == (P.length : Int)) = true := by rw [beq_iff_eq]; exact he
    rw [heb] at hA
    clear he heb hx
    go_enter Tryd.func134, Tryd.ntmps134
    go_wp2_with fail
    refine hA.out.mono ?_
    rintro e w1 ⟨rfl, n1, rfl⟩
    have h1 : Blk (W.drewN n1) b #[.slice a P.length cap, .int .i64 ix, .int .i64 lf, .bool lv, .bool pl] := h
    have g1 := gdrewN W n1 (some b)
    obtain ⟨W1, hW1⟩ : ∃ W1, W.drewN n1 = W1 := ⟨_, rfl⟩
    rw [hW1] at h1 g1 ⊢
    clear hW1 hA
    have x0 := h1.cell
    have xf := h1.frozen
    have xl := h1.lt
    have q2 := hid ((h1.set 2 (.int .i64 0)).set 4 (.bool false))
    have g2 := hid (gtrans (gtrans g1 (gset b 2 (.int .i64 0))) (gset b 4 (.bool false)))
    clear h h1 g1
    go_wp2
    exact bodyPost_ret (v := .tuple #[]) (by simp [results, Tryd.results134]) rfl ⟨rfl, q2.out, g2.out⟩
  · rw [begin_mid he]
    have heb : (ix == (P.length : Int)) = false := by rw [beq_eq_false_iff_ne]; exact he
    rw [heb] at hA
    obtain ⟨k, rfl⟩ : ∃ k : Nat, ix = (k : Int) := ⟨ix.toNat, by omega⟩
    have hkl : k < P.length := by omega
    have hkI : (k : Int) < (P.length : Int) := by omega
    rw [Int.toNat_natCast]
    obtain ⟨c, off, rfl, xk⟩ := hr.at hkl
    have hcb : ¬ c = b := hn (show 0 < P.length by omega) c off rfl
    generalize P.getD k 0 = X at *
    clear he heb hx hr hn
    go_enter Tryd.func134, Tryd.ntmps134
    go_wp2_with fail
    refine hA.out.mono ?_
    rintro e w1 ⟨rfl, n1, rfl⟩
    have h1 : Blk (W.drewN n1) b #[.slice (some ⟨c, off, none⟩) P.length cap, .int .i64 (k : Int), .int .i64 lf, .bool lv, .bool pl] := h
    have g1 := gdrewN W n1 (some b)
    have xk1 : (W.drewN n1).cell? ⟨c, off + k, none⟩ = some (.int .i64 X) := xk
    obtain ⟨W1, hW1⟩ : ∃ W1, W.drewN n1 = W1 := ⟨_, rfl⟩
    rw [hW1] at h1 g1 xk1 ⊢
    clear hW1 hA xk
    have x0 := h1.cell
    have xf := h1.frozen
    have xl := h1.lt
    have q2 : Hid (∀ n, Blk ((W1.drewN n).setCell ⟨b, 2, none⟩ (.int .i64 X)) b _) := fun n => (show Blk (W1.drewN n) b _ from h1).set 2 (.int .i64 X)
    have g2 : Hid (∀ n, W.grownBy ((W1.drewN n).setCell ⟨b, 2, none⟩ (.int .i64 X)) (some b)) := fun n => gtrans (gtrans g1 (gdrewN W1 n (some b))) (gset b 2 (.int .i64 X))
    clear h h1 g1
    go_wp2
    go_region
    go_wp2
    exact bodyPost_end (v := .tuple #[]) (by simp [results, Tryd.results134]) rfl ⟨rfl, q2.out 1, g2.out 1⟩
end Go.Proofs.YtifcdojaocndhaaDoor

/- A deck in a block of its own is rewound, played, stopped, goes over an edge, runs: the program. -/
namespace Go.Proofs.YtifcdojaocndhaaDoor
open Go.ChangeShapes Go.WideShapes Go.ChangeAt Go.RowKit
set_option linter.unusedVariables false
set_option linter.unusedSimpArgs false

set_option maxRecDepth 100000 in
set_option maxHeartbeats 1000000 in
theorem rewind_impl (b : Nat) (a : Option Addr) (cap : Nat) (P : List Int) (ix lf : Int) (lv pl : Bool) (W : World) (h : Blk W b #[.slice a P.length cap, .int .i64 ix, .int .i64 lf, .bool lv, .bool pl]) (hr : RowR W (.slice a P.length cap) P) (hn : Apart a P.length b) (hl : P.length ≤ 1048576) :
    Calls Tryd.prog 81 #[.pointer (some ⟨b, 0, none⟩)] W fun e w' => e = .returned (.tuple #[]) ∧ Blk w' b (dkA (.slice a P.length cap) (Dk.goto ⟨P, 0, 0, false, false⟩ 0)) ∧ W.grownBy w' (some b) := by
  have x0 := h.cell
  have xf := h.frozen
  have xl := h.lt
  have q1 := hid (((h.set 1 (.int .i64 0)).set 3 (.bool false)).set 4 (.bool false))
  have g1 := gtrans (gtrans (gset (W := W) b 1 (.int .i64 0)) (gset b 3 (.bool false))) (gset b 4 (.bool false))
  have r1 := hid (hr.apart g1 hn)
  replace g1 := hid g1
  clear h hr
  go_enter Tryd.func81, Tryd.ntmps81
  go_upto_region 1 with fail
  obtain ⟨W1, hW1⟩ : ∃ W1, ((W.setCell ⟨b, 1, none⟩ (.int .i64 0)).setCell ⟨b, 3, none⟩ (.bool false)).setCell ⟨b, 4, none⟩ (.bool false) = W1 := ⟨_, rfl⟩
  rw [hW1] at q1 g1 r1 ⊢
  clear hW1 x0 xf xl
  go_wp2_with fail
  refine (begin_impl b a cap ⟨P, 0, lf, false, false⟩ _ q1.out r1.out hn ⟨Int.le_refl _, show (0 : Int) ≤ (P.length : Int) by omega⟩ hl).mono ?_
  rintro e w2 ⟨rfl, h2, g2⟩
  rw [begin_zero] at h2
  have g3 := hid (gtrans g1.out g2)
  replace h2 := hid h2
  clear q1 r1 g1 g2
  go_wp2
  exact bodyPost_end (v := .tuple #[]) (by simp [results, Tryd.results81]) rfl ⟨rfl, h2.out, g3.out⟩
end Go.Proofs.YtifcdojaocndhaaDoor

/- What a loop over a function leaves as it was, from round to round. -/
namespace Go.Proofs.YtifcdojaocndhaaDoor
open Go.ChangeShapes Go.WideShapes Go.ChangeAt Go.RowKit Go.Shelf
set_option linter.unusedVariables false
set_option linter.unusedSimpArgs false

/-- two worlds that agree on what a loop holds -/
structure SameOn (base : Nat) (fix : List Nat) (v : Value) (W W' : World) : Prop where
  os : W'.os = W.os
  tape : W'.tape = W.tape
  output : W'.output = W.output
  size : W.heap.size ≤ W'.heap.size
  low : ∀ b, b < base → W'.heap[b]? = W.heap[b]?
  fix : ∀ b, b ∈ fix → W'.heap[b]? = W.heap[b]?
  own : ∀ g, v.ownBlock = some g → W'.heap[g]? = W.heap[g]?
/-- what a round leaves as it was -/
structure Kp (fix : List Nat) (W : World) (v : Value) (W' : World) (v' : Value) : Prop where
  size : W.heap.size ≤ W'.heap.size
  same : ∀ b, b < W.heap.size → b ∉ fix → v.ownBlock ≠ some b → W'.heap[b]? = W.heap[b]?
  own : v'.ownBlock = v.ownBlock ∨ ∃ g, v'.ownBlock = some g ∧ W.heap.size ≤ g
theorem Kp.refl (fix : List Nat) (W : World) (v : Value) : Kp fix W v W v := ⟨Nat.le_refl _, fun _ _ _ _ => rfl, .inl rfl⟩
theorem Kp.ne {fix : List Nat} {W W' : World} {v v' : Value} (h : Kp fix W v W' v') {b : Nat} (hb : b < W.heap.size) (hn : v.ownBlock ≠ some b) : v'.ownBlock ≠ some b := by
  rcases h.own with e | ⟨g, e, hl⟩
  · rw [e]; exact hn
  · rw [e]
    intro e2
    simp at e2
    omega
theorem Kp.trans {fix : List Nat} {W W' W'' : World} {v v' v'' : Value} (h : Kp fix W v W' v') (k : Kp fix W' v' W'' v'') : Kp fix W v W'' v'' := by
  refine ⟨Nat.le_trans h.size k.size, fun b hb hf hn => ?_, ?_⟩
  · exact (k.same b (Nat.lt_of_lt_of_le hb h.size) hf (h.ne hb hn)).trans (h.same b hb hf hn)
  · rcases k.own with e | ⟨g, e, hl⟩
    · rw [e]; exact h.own
    · exact .inr ⟨g, e, Nat.le_trans h.size hl⟩
theorem Kp.below {fix : List Nat} {W W' : World} {v : Value} (hb : Below W.heap.size W W') : Kp fix W v W' v := ⟨hb.size, fun b h _ _ => hb.block b h, .inl rfl⟩
theorem Kp.blk {fix : List Nat} {W W' : World} {v v' : Value} (h : Kp fix W v W' v') {b : Nat} {A : Array Value} (hq : Blk W b A) (hf : b ∉ fix) (hn : v.ownBlock ≠ some b) : Blk W' b A := by
  have e := h.same b hq.lt hf hn
  obtain ⟨t, hq⟩ := hq
  exact ⟨t, e.trans hq⟩
theorem YieldAt.any {P : Program} {k m l : Nat} {args : Array Value} {W : World} {R : Ending → World → Prop} (h : YieldAt Fence.wide k P l args W R) : YieldAt Fence.wide m P l args W R := by
  obtain ⟨fn, tmps, assign, body, hy, hf, hr⟩ := h
  exact ⟨fn, tmps, assign, body, hy, hf, fun c cs _ => hr c cs (room_wide _)⟩
/-- a loop that gathers numbers: the list's box, the rounds' deferred calls, the record -/
structure Pj where
  w : World
  O : Nat
  DF : Nat
  L : Nat
  R : Loop
def Pj.bs (p : Pj) : List Nat := [p.O, p.DF, p.L]
theorem Pj.mem (p : Pj) : p.O ∈ p.bs ∧ p.DF ∈ p.bs ∧ p.L ∈ p.bs := by simp [Pj.bs]
theorem own_sameV {W W' : World} {lo n z : Nat} {e : TypeId} {v : Value} {xs : List Value} (h : W.ownsRow lo e z v n xs) (hs : W.heap.size ≤ W'.heap.size) (hk : ∀ g, v.ownBlock = some g → W'.heap[g]? = W.heap[g]?) : W'.ownsRow lo e z v n xs := by
  obtain ⟨hl, ⟨rfl, h0⟩ | ⟨g, cap, cur, rfl, hb, hh, h1, h2, h3, h4⟩⟩ := h
  · exact ⟨hl, .inl ⟨rfl, h0⟩⟩
  · exact ⟨hl, .inr ⟨g, cap, cur, rfl, hb, (hk g rfl).trans hh, h1, h2, h3, h4⟩⟩
end Go.Proofs.YtifcdojaocndhaaDoor
