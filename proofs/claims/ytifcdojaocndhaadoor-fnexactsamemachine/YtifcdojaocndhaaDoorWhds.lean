/- SameMachine: the program. -/
import Derived.Test.YtifcdojaocndhaaDoorS37
import Derived.Test.YtifcdojaocndhaaDoorS32
import Derived.Test.YtifcdojaocndhaaDoorS26
import Derived.Test.YtifcdojaocndhaaDoorDvs
import Derived.Test.YtifcdojaocndhaaDoorBis
namespace Go.Proofs.YtifcdojaocndhaaDoor
open Go.ChangeShapes Go.WideShapes Go.ChangeAt Go.RowKit
set_option linter.unusedVariables false
set_option linter.unusedSimpArgs false

set_option maxRecDepth 100000 in
set_option maxHeartbeats 2000000 in
theorem alike_nM (b b2 : Nat) (a1 a2 : Option Addr) (c1 c2 : Nat) (P P2 : List Int) (ix lf ix2 lf2 : Int) (lv pl lv2 pl2 : Bool) (W : World) (q : Dk8 W b #[.slice a1 P.length c1, .int .i64 ix, .int .i64 lf, .bool lv, .bool pl]) (q2 : Dk8 W b2 #[.slice a2 P2.length c2, .int .i64 ix2, .int .i64 lf2, .bool lv2, .bool pl2]) (h : RowR W (.slice a1 P.length c1) P) (h2 : RowR W (.slice a2 P2.length c2) P2) (hl : P.length ≤ 1048576) (hl2 : P2.length ≤ 1048576) (hp : decide (P = P2) = false) :
    Calls Tryd.prog 128 #[.pointer (some ⟨b, 48, none⟩), .pointer (some ⟨b2, 48, none⟩)] W fun e w' => e = .returned (.bool false) ∧ ∃ n, w' = W.drewN n := by
  obtain ⟨xa, xb, xc, xd, xe⟩ := q.five rfl
  obtain ⟨ya, yb, yc, yd, ye⟩ := q2.five rfl
  have hE : Hid (∀ n, Calls Tryd.prog 158 #[.slice a1 P.length c1, .slice a2 P2.length c2] (W.drewN n) fun e w' => e = .returned (.bool (decide (P = P2))) ∧ ∃ m, w' = (W.drewN n).drewN m) := fun n => equalD_impl _ _ P P2 (W.drewN n) h h2 (by omega) (by omega)
  rw [hp] at hE
  clear q q2 h h2 hp
  go_enter Tryd.func128, Tryd.ntmps128
  go_wp2
  go_quiet ((go_at_call 158; exact Calls.quiet_of (hE.out _)))
  go_wp2
  go_ret
  exact ⟨rfl, _, rfl⟩
set_option maxRecDepth 100000 in
set_option maxHeartbeats 2000000 in
theorem alike_e0M (b b2 : Nat) (a1 a2 : Option Addr) (c1 c2 : Nat) (P P2 : List Int) (ix lf ix2 lf2 : Int) (lv pl lv2 pl2 : Bool) (W : World) (q : Dk8 W b #[.slice a1 P.length c1, .int .i64 ix, .int .i64 lf, .bool lv, .bool pl]) (q2 : Dk8 W b2 #[.slice a2 P2.length c2, .int .i64 ix2, .int .i64 lf2, .bool lv2, .bool pl2]) (h : RowR W (.slice a1 P.length c1) P) (h2 : RowR W (.slice a2 P2.length c2) P2) (hl : P.length ≤ 1048576) (hl2 : P2.length ≤ 1048576) (hp : decide (P = P2) = true) (e0 : (ix == ix2) = false) :
    Calls Tryd.prog 128 #[.pointer (some ⟨b, 48, none⟩), .pointer (some ⟨b2, 48, none⟩)] W fun e w' => e = .returned (.bool false) ∧ ∃ n, w' = W.drewN n := by
  obtain ⟨xa, xb, xc, xd, xe⟩ := q.five rfl
  obtain ⟨ya, yb, yc, yd, ye⟩ := q2.five rfl
  have hE : Hid (∀ n, Calls Tryd.prog 158 #[.slice a1 P.length c1, .slice a2 P2.length c2] (W.drewN n) fun e w' => e = .returned (.bool (decide (P = P2))) ∧ ∃ m, w' = (W.drewN n).drewN m) := fun n => equalD_impl _ _ P P2 (W.drewN n) h h2 (by omega) (by omega)
  rw [hp] at hE
  clear q q2 h h2 hp
  go_enter Tryd.func128, Tryd.ntmps128
  go_wp2
  go_quiet ((go_at_call 158; exact Calls.quiet_of (hE.out _)))
  go_wp2
  go_ret
  exact ⟨rfl, _, rfl⟩
set_option maxRecDepth 100000 in
set_option maxHeartbeats 2000000 in
theorem alike_e1M (b b2 : Nat) (a1 a2 : Option Addr) (c1 c2 : Nat) (P P2 : List Int) (ix lf ix2 lf2 : Int) (lv pl lv2 pl2 : Bool) (W : World) (q : Dk8 W b #[.slice a1 P.length c1, .int .i64 ix, .int .i64 lf, .bool lv, .bool pl]) (q2 : Dk8 W b2 #[.slice a2 P2.length c2, .int .i64 ix2, .int .i64 lf2, .bool lv2, .bool pl2]) (h : RowR W (.slice a1 P.length c1) P) (h2 : RowR W (.slice a2 P2.length c2) P2) (hl : P.length ≤ 1048576) (hl2 : P2.length ≤ 1048576) (hp : decide (P = P2) = true) (e0 : (ix == ix2) = true) (e1 : (lf == lf2) = false) :
    Calls Tryd.prog 128 #[.pointer (some ⟨b, 48, none⟩), .pointer (some ⟨b2, 48, none⟩)] W fun e w' => e = .returned (.bool false) ∧ ∃ n, w' = W.drewN n := by
  obtain ⟨xa, xb, xc, xd, xe⟩ := q.five rfl
  obtain ⟨ya, yb, yc, yd, ye⟩ := q2.five rfl
  have hE : Hid (∀ n, Calls Tryd.prog 158 #[.slice a1 P.length c1, .slice a2 P2.length c2] (W.drewN n) fun e w' => e = .returned (.bool (decide (P = P2))) ∧ ∃ m, w' = (W.drewN n).drewN m) := fun n => equalD_impl _ _ P P2 (W.drewN n) h h2 (by omega) (by omega)
  rw [hp] at hE
  clear q q2 h h2 hp
  go_enter Tryd.func128, Tryd.ntmps128
  go_wp2
  go_quiet ((go_at_call 158; exact Calls.quiet_of (hE.out _)))
  go_wp2
  go_ret
  exact ⟨rfl, _, rfl⟩
set_option maxRecDepth 100000 in
set_option maxHeartbeats 2000000 in
theorem alike_e2M (b b2 : Nat) (a1 a2 : Option Addr) (c1 c2 : Nat) (P P2 : List Int) (ix lf ix2 lf2 : Int) (lv pl lv2 pl2 : Bool) (W : World) (q : Dk8 W b #[.slice a1 P.length c1, .int .i64 ix, .int .i64 lf, .bool lv, .bool pl]) (q2 : Dk8 W b2 #[.slice a2 P2.length c2, .int .i64 ix2, .int .i64 lf2, .bool lv2, .bool pl2]) (h : RowR W (.slice a1 P.length c1) P) (h2 : RowR W (.slice a2 P2.length c2) P2) (hl : P.length ≤ 1048576) (hl2 : P2.length ≤ 1048576) (hp : decide (P = P2) = true) (e0 : (ix == ix2) = true) (e1 : (lf == lf2) = true) (e2 : (lv == lv2) = false) :
    Calls Tryd.prog 128 #[.pointer (some ⟨b, 48, none⟩), .pointer (some ⟨b2, 48, none⟩)] W fun e w' => e = .returned (.bool false) ∧ ∃ n, w' = W.drewN n := by
  obtain ⟨xa, xb, xc, xd, xe⟩ := q.five rfl
  obtain ⟨ya, yb, yc, yd, ye⟩ := q2.five rfl
  have hE : Hid (∀ n, Calls Tryd.prog 158 #[.slice a1 P.length c1, .slice a2 P2.length c2] (W.drewN n) fun e w' => e = .returned (.bool (decide (P = P2))) ∧ ∃ m, w' = (W.drewN n).drewN m) := fun n => equalD_impl _ _ P P2 (W.drewN n) h h2 (by omega) (by omega)
  rw [hp] at hE
  clear q q2 h h2 hp
  go_enter Tryd.func128, Tryd.ntmps128
  go_wp2
  go_quiet ((go_at_call 158; exact Calls.quiet_of (hE.out _)))
  go_wp2
  go_ret
  exact ⟨rfl, _, rfl⟩
set_option maxRecDepth 100000 in
set_option maxHeartbeats 2000000 in
theorem alike_e3M (b b2 : Nat) (a1 a2 : Option Addr) (c1 c2 : Nat) (P P2 : List Int) (ix lf ix2 lf2 : Int) (lv pl lv2 pl2 : Bool) (W : World) (q : Dk8 W b #[.slice a1 P.length c1, .int .i64 ix, .int .i64 lf, .bool lv, .bool pl]) (q2 : Dk8 W b2 #[.slice a2 P2.length c2, .int .i64 ix2, .int .i64 lf2, .bool lv2, .bool pl2]) (h : RowR W (.slice a1 P.length c1) P) (h2 : RowR W (.slice a2 P2.length c2) P2) (hl : P.length ≤ 1048576) (hl2 : P2.length ≤ 1048576) (hp : decide (P = P2) = true) (e0 : (ix == ix2) = true) (e1 : (lf == lf2) = true) (e2 : (lv == lv2) = true) (e3 : (pl == pl2) = false) :
    Calls Tryd.prog 128 #[.pointer (some ⟨b, 48, none⟩), .pointer (some ⟨b2, 48, none⟩)] W fun e w' => e = .returned (.bool false) ∧ ∃ n, w' = W.drewN n := by
  obtain ⟨xa, xb, xc, xd, xe⟩ := q.five rfl
  obtain ⟨ya, yb, yc, yd, ye⟩ := q2.five rfl
  have hE : Hid (∀ n, Calls Tryd.prog 158 #[.slice a1 P.length c1, .slice a2 P2.length c2] (W.drewN n) fun e w' => e = .returned (.bool (decide (P = P2))) ∧ ∃ m, w' = (W.drewN n).drewN m) := fun n => equalD_impl _ _ P P2 (W.drewN n) h h2 (by omega) (by omega)
  rw [hp] at hE
  clear q q2 h h2 hp
  go_enter Tryd.func128, Tryd.ntmps128
  go_wp2
  go_quiet ((go_at_call 158; exact Calls.quiet_of (hE.out _)))
  go_wp2
  go_ret
  exact ⟨rfl, _, rfl⟩
set_option maxRecDepth 100000 in
set_option maxHeartbeats 2000000 in
theorem alike_e4M (b b2 : Nat) (a1 a2 : Option Addr) (c1 c2 : Nat) (P P2 : List Int) (ix lf ix2 lf2 : Int) (lv pl lv2 pl2 : Bool) (W : World) (q : Dk8 W b #[.slice a1 P.length c1, .int .i64 ix, .int .i64 lf, .bool lv, .bool pl]) (q2 : Dk8 W b2 #[.slice a2 P2.length c2, .int .i64 ix2, .int .i64 lf2, .bool lv2, .bool pl2]) (h : RowR W (.slice a1 P.length c1) P) (h2 : RowR W (.slice a2 P2.length c2) P2) (hl : P.length ≤ 1048576) (hl2 : P2.length ≤ 1048576) (hp : decide (P = P2) = true) (e0 : (ix == ix2) = true) (e1 : (lf == lf2) = true) (e2 : (lv == lv2) = true) (e3 : (pl == pl2) = true) :
    Calls Tryd.prog 128 #[.pointer (some ⟨b, 48, none⟩), .pointer (some ⟨b2, 48, none⟩)] W fun e w' => e = .returned (.bool true) ∧ ∃ n, w' = W.drewN n := by
  obtain ⟨xa, xb, xc, xd, xe⟩ := q.five rfl
  obtain ⟨ya, yb, yc, yd, ye⟩ := q2.five rfl
  have hE : Hid (∀ n, Calls Tryd.prog 158 #[.slice a1 P.length c1, .slice a2 P2.length c2] (W.drewN n) fun e w' => e = .returned (.bool (decide (P = P2))) ∧ ∃ m, w' = (W.drewN n).drewN m) := fun n => equalD_impl _ _ P P2 (W.drewN n) h h2 (by omega) (by omega)
  rw [hp] at hE
  clear q q2 h h2 hp
  go_enter Tryd.func128, Tryd.ntmps128
  go_wp2
  go_quiet ((go_at_call 158; exact Calls.quiet_of (hE.out _)))
  go_wp2
  go_ret
  exact ⟨rfl, _, rfl⟩
theorem dkalike_implM (b b2 : Nat) (a1 a2 : Option Addr) (c1 c2 : Nat) (P P2 : List Int) (ix lf ix2 lf2 : Int) (lv pl lv2 pl2 : Bool) (W : World) (q : Dk8 W b #[.slice a1 P.length c1, .int .i64 ix, .int .i64 lf, .bool lv, .bool pl]) (q2 : Dk8 W b2 #[.slice a2 P2.length c2, .int .i64 ix2, .int .i64 lf2, .bool lv2, .bool pl2]) (h : RowR W (.slice a1 P.length c1) P) (h2 : RowR W (.slice a2 P2.length c2) P2) (hl : P.length ≤ 1048576) (hl2 : P2.length ≤ 1048576) :
    Calls Tryd.prog 128 #[.pointer (some ⟨b, 48, none⟩), .pointer (some ⟨b2, 48, none⟩)] W fun e w' => e = .returned (.bool (decide (P = P2) && (ix == ix2) && (lf == lf2) && (lv == lv2) && (pl == pl2))) ∧ ∃ n, w' = W.drewN n := by
  cases hp : decide (P = P2)
  · exact alike_nM b b2 a1 a2 c1 c2 P P2 ix lf ix2 lf2 lv pl lv2 pl2 W q q2 h h2 hl hl2 hp
  cases e0 : (ix == ix2)
  · exact alike_e0M b b2 a1 a2 c1 c2 P P2 ix lf ix2 lf2 lv pl lv2 pl2 W q q2 h h2 hl hl2 hp e0
  cases e1 : (lf == lf2)
  · exact alike_e1M b b2 a1 a2 c1 c2 P P2 ix lf ix2 lf2 lv pl lv2 pl2 W q q2 h h2 hl hl2 hp e0 e1
  cases e2 : (lv == lv2)
  · exact alike_e2M b b2 a1 a2 c1 c2 P P2 ix lf ix2 lf2 lv pl lv2 pl2 W q q2 h h2 hl hl2 hp e0 e1 e2
  cases e3 : (pl == pl2)
  · exact alike_e3M b b2 a1 a2 c1 c2 P P2 ix lf ix2 lf2 lv pl lv2 pl2 W q q2 h h2 hl hl2 hp e0 e1 e2 e3
  exact alike_e4M b b2 a1 a2 c1 c2 P P2 ix lf ix2 lf2 lv pl lv2 pl2 W q q2 h h2 hl hl2 hp e0 e1 e2 e3
def dkAl (d d2 : Dk) : Bool := decide (d.pulses = d2.pulses) && (d.index == d2.index) && (d.left == d2.left) && (d.level == d2.level) && (d.plays == d2.plays)
theorem dk8_ev {W W' : World} {b : Nat} {A : Array Value} (h : Dk8 W b A) (hb : Below W.heap.size W W') (hs : A.size = 5) : Dk8 W' b A := fun i hi => by
  have h0 := h i hi
  have : A[i]? = some A[i] := Array.getElem?_eq_getElem (by omega)
  rw [this] at h0 ⊢
  rw [hb.cell (p := ⟨b, 48 + i, none⟩) (World.block_lt_of_cell? W _ h0)]
  exact h0
/-- slices.Equal over events -/
def evsEq (l l' : List Evt) : Bool := decide (l.length = l'.length) && evsAll l l'
set_option maxRecDepth 100000 in
set_option maxHeartbeats 4000000 in
theorem equalE_impl (v v' : Value) (l l' : List Evt) (w : World) (h : EvR w v l) (h' : EvR w v' l') (hl : l.length ≤ 1048576) (hl' : l'.length ≤ 1048576) :
    Calls Tryd.prog 129 #[v, v'] w fun e w' => e = .returned (.bool (evsEq l l')) ∧ Below w.heap.size w w' := by
  obtain ⟨a, c, rfl, _⟩ := id h
  obtain ⟨a', c', rfl, _⟩ := id h'
  by_cases hne : l.length = l'.length
  rotate_left
  · have e : evsEq l l' = false := by unfold evsEq; rw [decide_eq_false hne, Bool.false_and]
    have hne2 : ((l.length : Int) != (l'.length : Int)) = true := by simp; omega
    rw [e]
    clear e hne h h'
    go_enter Tryd.func129, Tryd.ntmps129
    go_wp2
    go_ret
    exact ⟨rfl, Below.refl _ _⟩
  have hQ : evsEq l l' = evsAll l l' := by unfold evsEq; rw [decide_eq_true hne, Bool.true_and]
  rw [hQ]
  have hn := hid (fun i hi hh => evsAll_no (l := l) (l' := l') (i := i) hi hh)
  have hE := hid (fun hh => evsAll_yes (l := l) (l' := l') hh)
  have hne2 : ((l.length : Int) != (l'.length : Int)) = false := by simp; omega
  generalize evsAll l l' = Q at *
  replace h := hid h
  replace h' := hid h'
  replace hne := hid hne
  clear hQ
  go_enter Tryd.func129, Tryd.ntmps129
  go_wp2
  clear hne2
  go_loopw [13] (fun i wr => ∃ k : Nat, k ≤ l.length ∧ i = .int .i64 k ∧ (∀ j, j < k → sameEv (l.getD j e0) (l'.getD j e0) = true) ∧ Below w.heap.size w wr) (fun i _ => l.length - (intOf i).toNat)
  case atStart => exact ⟨0, by omega, rfl, fun j hj => by omega, Below.refl _ _⟩
  case round =>
    obtain ⟨k, hk, rfl, hj, hB⟩ := hrel
    by_cases hlt : k < l.length
    · have hlt2 := hid (show k < l'.length by rw [← hne.out]; exact hlt)
      obtain ⟨g, o, rfl, _⟩ := (h.out.below hB).at hlt
      obtain ⟨g', o', rfl, _⟩ := (h'.out.below hB).at hlt2.out
      have hltY : (k : Int) < (l'.length : Int) := by have := hlt2.out; omega
      have hltX : (k : Int) < (l.length : Int) := by omega
      obtain ⟨s1, s2, s3, hE1⟩ : ∃ b1 b2 b3, l.getD k e0 = ⟨b1, b2, b3⟩ := ⟨(l.getD k e0).t, (l.getD k e0).k, (l.getD k e0).v, rfl⟩
      obtain ⟨t1, t2, t3, hE2⟩ : ∃ b1 b2 b3, l'.getD k e0 = ⟨b1, b2, b3⟩ := ⟨(l'.getD k e0).t, (l'.getD k e0).k, (l'.getD k e0).v, rfl⟩
      obtain ⟨R, hR⟩ : ∃ R, sameEv ⟨s1, s2, s3⟩ ⟨t1, t2, t3⟩ = R := ⟨_, rfl⟩
      have hjn : Hid (R = true → ∀ j, j < k + 1 → sameEv (l.getD j e0) (l'.getD j e0) = true) := fun h j hj1 => by
        rcases Nat.lt_or_ge j k with h1 | h1
        · exact hj j h1
        · have : j = k := by omega
          rw [this, hE1, hE2, hR]; exact h
      have hsn : Hid (R = false → Q = false) := fun h => hn.out k hlt (by rw [hE1, hE2, hR]; exact h)
      have hev : Hid (∀ W, Below w.heap.size w W → (W.cell? ⟨g, o + k * 3, none⟩ = some (.int .i64 s1) ∧ W.cell? ⟨g, o + k * 3 + 1, none⟩ = some (.int .i64 s2) ∧ W.cell? ⟨g, o + k * 3 + 2, none⟩ = some (.int .i64 s3)) ∧ (W.cell? ⟨g', o' + k * 3, none⟩ = some (.int .i64 t1) ∧ W.cell? ⟨g', o' + k * 3 + 1, none⟩ = some (.int .i64 t2) ∧ W.cell? ⟨g', o' + k * 3 + 2, none⟩ = some (.int .i64 t3))) := fun W hW => by
        obtain ⟨_, _, ee, d0, d1, d2⟩ := (h.out.below hW).at hlt
        cases ee
        obtain ⟨_, _, ee, f0, f1, f2⟩ := (h'.out.below hW).at hlt2.out
        cases ee
        rw [hE1] at d0 d1 d2
        rw [hE2] at f0 f1 f2
        exact ⟨⟨d0, d1, d2⟩, ⟨f0, f1, f2⟩⟩
      replace hB := hid hB
      replace hR := hid hR
      clear hn hE hE1 hE2 hj hne
      go_upto_region 6 with fail
      refine calm_region 9 (fun W => Hid (Below w.heap.size w W)) (fun _ => True) (by kernel_rfl) (by kernel_rfl) (by kernel_rfl) (by kernel_rfl) (by kernel_rfl) (by kernel_rfl) (hid (hB.out.drew)) ?_
      iterate 8 (refine calm_take (v := ?_) (by decide) (by kernel_rfl) (by kernel_rfl) ?_ ?_; rotate_left; (focus (intro W hW; obtain ⟨⟨d0, d1, d2⟩, ⟨f0, f1, f2⟩⟩ := hev.out W hW.out; go_simp; first | done | with_reducible rfl)); (try simp only [Act.put, List.setIfInBounds_toArray, List.set_cons_zero, List.set_cons_succ]))
      refine calm_take (v := .bool (!R)) (by decide) (by kernel_rfl) (by kernel_rfl) ?_ ?_; (focus (intro W hW; have r9 := hR.out; go_simp; rw [← r9]; simp only [sameEv]; by_cases e1 : s1 = t1 <;> by_cases e2 : s2 = t2 <;> by_cases e3 : s3 = t3 <;> simp [e1, e2, e3])); (try simp only [Act.put, List.setIfInBounds_toArray, List.set_cons_zero, List.set_cons_succ])
      refine calm_end (fun W hW => ?_)
      replace hB := hid (show Below w.heap.size w W from hW)
      clear hW hR hev
      cases R
      · have hfin := hid (hsn.out rfl)
        clear hsn hjn
        go_wp2
        go_ret
        exact ⟨ret_bool hfin.out.symm, hB.out⟩
      · have hfin := hid (hjn.out rfl)
        clear hsn hjn
        go_wp2
        go_roundw
        case rel => exact ⟨k + 1, by omega, by go_num, hfin.out, hB.out⟩
        case measure => simp [intOf]; omega
    · obtain rfl : k = l.length := by omega
      have hfin := hid (hE.out hj)
      replace hB := hid hB
      clear hn hE hj
      go_wp2
      go_ret
      exact ⟨ret_bool hfin.out.symm, hB.out⟩
def sameAl (x y : Mc) : Bool := sameCu x.c y.c && sameM x.m y.m && samePo x.p y.p && sameSg x.g y.g && dkAl x.d y.d && (x.t == y.t) && (x.fr == y.fr) && (x.pt == y.pt) && (x.sv.toList == y.sv.toList) && evsEq x.ev y.ev
theorem sano_1 {x y : Mc} (h : sameCu x.c y.c = false) : sameAl x y = false := by simp only [sameAl, h, Bool.and_false, Bool.false_and]
theorem sano_2 {x y : Mc} (h : sameM x.m y.m = false) : sameAl x y = false := by simp only [sameAl, h, Bool.and_false, Bool.false_and]
theorem sano_3 {x y : Mc} (h : samePo x.p y.p = false) : sameAl x y = false := by simp only [sameAl, h, Bool.and_false, Bool.false_and]
theorem sano_4 {x y : Mc} (h : sameSg x.g y.g = false) : sameAl x y = false := by simp only [sameAl, h, Bool.and_false, Bool.false_and]
theorem sano_5 {x y : Mc} (h : dkAl x.d y.d = false) : sameAl x y = false := by simp only [sameAl, h, Bool.and_false, Bool.false_and]
theorem sano_6 {x y : Mc} (h : (x.t == y.t) = false) : sameAl x y = false := by simp only [sameAl, h, Bool.and_false, Bool.false_and]
theorem sano_7 {x y : Mc} (h : (x.fr == y.fr) = false) : sameAl x y = false := by simp only [sameAl, h, Bool.and_false, Bool.false_and]
theorem sano_8 {x y : Mc} (h : (x.pt == y.pt) = false) : sameAl x y = false := by simp only [sameAl, h, Bool.and_false, Bool.false_and]
theorem sano_9 {x y : Mc} (h : (x.sv.toList == y.sv.toList) = false) : sameAl x y = false := by simp only [sameAl, h, Bool.and_false, Bool.false_and]
theorem sayes {x y : Mc} (h1 : sameCu x.c y.c = true) (h2 : sameM x.m y.m = true) (h3 : samePo x.p y.p = true) (h4 : sameSg x.g y.g = true) (h5 : dkAl x.d y.d = true) (h6 : (x.t == y.t) = true) (h7 : (x.fr == y.fr) = true) (h8 : (x.pt == y.pt) = true) (h9 : (x.sv.toList == y.sv.toList) = true) : sameAl x y = evsEq x.ev y.ev := by simp only [sameAl, h1, h2, h3, h4, h5, h6, h7, h8, h9, Bool.true_and]
structure SaNo (x y : Mc) (Q : Bool) : Prop where
  h1 : sameCu x.c y.c = false → Q = false
  h2 : sameM x.m y.m = false → Q = false
  h3 : samePo x.p y.p = false → Q = false
  h4 : sameSg x.g y.g = false → Q = false
  h5 : dkAl x.d y.d = false → Q = false
  h6 : (x.t == y.t) = false → Q = false
  h7 : (x.fr == y.fr) = false → Q = false
  h8 : (x.pt == y.pt) = false → Q = false
  h9 : (x.sv.toList == y.sv.toList) = false → Q = false
theorem saNo (x y : Mc) : SaNo x y (sameAl x y) := ⟨sano_1, sano_2, sano_3, sano_4, sano_5, sano_6, sano_7, sano_8, sano_9⟩
set_option maxRecDepth 100000 in
set_option maxHeartbeats 8000000 in
theorem alikeM_impl {p q : Nat → Bool} (x y : Mc) (v u : Value) (w : World) (h : MacR p w v x) (h' : MacR q w u y) (hf : FitMc x) (hf' : FitMc y) : Calls Tryd.prog 72 #[v, u] w fun r w' => r = .returned (.bool (sameAl x y)) ∧ Below w.heap.size w w' := by
  obtain ⟨vr, vm, vd, ve, ur, um, ud, ue, rfl, rfl, hL⟩ := ML2.start h h' 41
  have hn := hid (saNo x y)
  have hy := hid (fun a1 a2 a3 a4 a5 a6 a7 a8 a9 => sayes (x := x) (y := y) a1 a2 a3 a4 a5 a6 a7 a8 a9)
  generalize sameAl x y = Q at *
  obtain ⟨a1, c1, rfl, _⟩ := id hL.d1
  obtain ⟨a2, c2, rfl, _⟩ := id hL.e1
  obtain ⟨a3, c3, rfl, _⟩ := id hL.d2
  obtain ⟨a4, c4, rfl, _⟩ := id hL.e2
  replace hL := hid hL
  replace hf := hid hf
  replace hf' := hid hf'
  clear h h'
  go_enter Tryd.func72, Tryd.ntmps72
  go_upto_region 1 with fail
  obtain ⟨V, hV⟩ : ∃ V, (w.alloc (Obj.cells (mcA x vr vm (.slice a1 x.d.pulses.length c1) (.slice a2 x.ev.length c2)) 41)).alloc (Obj.cells (mcA y ur um (.slice a3 y.d.pulses.length c3) (.slice a4 y.ev.length c4)) 41) = V := ⟨_, rfl⟩
  rw [hV] at hL ⊢
  clear hV
  try simp only [List.append_eq, List.cons_append, List.nil_append]
  have xC1 := hid (mc_cpu hL.out.q1)
  have xC2 := hid (mc_cpu hL.out.q2)
  have hq1 := eqCuX x.c y.c
  cases k1 : sameCu x.c y.c
  · rw [k1] at hq1
    clear hy
    go_wp2_with (first | (refine wpList_load_mid rfl 26 _ rfl w.heap.size 0 rfl (cuA x.c).toList _ xC1.out Tryd.underlying26 rfl (szCu _) ?_) | (refine wpList_load_mid rfl 26 _ rfl (w.heap.size + 1) 0 rfl (cuA y.c).toList _ xC2.out Tryd.underlying26 rfl (szCu _) ?_))
    go_ret
    exact ⟨ret_bool (hn.out.h1 k1).symm, hL.out.bel⟩
  rw [k1] at hq1
  have xE1 := hid (mc_mem hL.out.q1)
  have xE2 := hid (mc_mem hL.out.q2)
  go_wp2_with (first | (refine wpList_load_mid rfl 26 _ rfl w.heap.size 0 rfl (cuA x.c).toList _ xC1.out Tryd.underlying26 rfl (szCu _) ?_) | (refine wpList_load_mid rfl 26 _ rfl (w.heap.size + 1) 0 rfl (cuA y.c).toList _ xC2.out Tryd.underlying26 rfl (szCu _) ?_) | (guard_target = wpList _ _ _ (Oper.mk _ (Op.load 30 _) _ _ _ (some _) :: _) _ _; refine ld_wantM 30 _ rfl w.heap.size 14 rfl (by kernel_rfl) (mcC vr vm x.m) _ xE1.out Tryd.underlying30 rfl (szMe _ _ _) ?_; simp only [Act.put, List.setIfInBounds_toArray, List.set_cons_zero, List.set_cons_succ]) | (guard_target = wpList _ _ _ (Oper.mk _ (Op.load 30 _) _ _ _ (some _) :: _) _ _; refine ld_wantM 30 _ rfl (w.heap.size + 1) 14 rfl (by kernel_rfl) (mcC ur um y.m) _ xE2.out Tryd.underlying30 rfl (szMe _ _ _) ?_; simp only [Act.put, List.setIfInBounds_toArray, List.set_cons_zero, List.set_cons_succ]))
  refine (same_impl _ _ x.m y.m _ hL.out.m1 hL.out.m2 hf.out.m hf'.out.m).mono ?_
  rintro r w1 ⟨rfl, hb⟩
  have hL := hid (hL.out.below hb)
  clear hb xC1 xC2 xE1 xE2 hq1
  cases k2 : sameM x.m y.m
  · clear hy
    go_wp2_with fail
    go_ret
    exact ⟨ret_bool (hn.out.h2 k2).symm, hL.out.bel⟩
  have xP1 := hid (mc_po hL.out.q1)
  have xP2 := hid (mc_po hL.out.q2)
  have hq3 := eqPoX x.p y.p
  cases k3 : samePo x.p y.p
  · rw [k3] at hq3
    clear hy
    go_wp2_with (first | (guard_target = wpList _ _ _ (Oper.mk _ (Op.load 32 _) _ _ _ (some _) :: _) _ _; refine ld_wantM 32 _ rfl w.heap.size 19 rfl (by kernel_rfl) (poA x.p).toList _ xP1.out Tryd.underlying32 rfl (szPo _) ?_; simp only [Act.put, List.setIfInBounds_toArray, List.set_cons_zero, List.set_cons_succ]) | (guard_target = wpList _ _ _ (Oper.mk _ (Op.load 32 _) _ _ _ (some _) :: _) _ _; refine ld_wantM 32 _ rfl (w.heap.size + 1) 19 rfl (by kernel_rfl) (poA y.p).toList _ xP2.out Tryd.underlying32 rfl (szPo _) ?_; simp only [Act.put, List.setIfInBounds_toArray, List.set_cons_zero, List.set_cons_succ]))
    go_ret
    exact ⟨ret_bool (hn.out.h3 k3).symm, hL.out.bel⟩
  rw [k3] at hq3
  have xG1 := hid (mc_sg hL.out.q1)
  have xG2 := hid (mc_sg hL.out.q2)
  have hq4 := eqSgX x.g y.g
  cases k4 : sameSg x.g y.g
  · rw [k4] at hq4
    clear hy
    go_wp2_with (first | (guard_target = wpList _ _ _ (Oper.mk _ (Op.load 32 _) _ _ _ (some _) :: _) _ _; refine ld_wantM 32 _ rfl w.heap.size 19 rfl (by kernel_rfl) (poA x.p).toList _ xP1.out Tryd.underlying32 rfl (szPo _) ?_; simp only [Act.put, List.setIfInBounds_toArray, List.set_cons_zero, List.set_cons_succ]) | (guard_target = wpList _ _ _ (Oper.mk _ (Op.load 32 _) _ _ _ (some _) :: _) _ _; refine ld_wantM 32 _ rfl (w.heap.size + 1) 19 rfl (by kernel_rfl) (poA y.p).toList _ xP2.out Tryd.underlying32 rfl (szPo _) ?_; simp only [Act.put, List.setIfInBounds_toArray, List.set_cons_zero, List.set_cons_succ]) | (guard_target = wpList _ _ _ (Oper.mk _ (Op.load 36 _) _ _ _ (some _) :: _) _ _; refine ld_wantM 36 _ rfl w.heap.size 31 rfl (by kernel_rfl) (sgA x.g).toList _ xG1.out Tryd.underlying36 rfl (szSg _) ?_; simp only [Act.put, List.setIfInBounds_toArray, List.set_cons_zero, List.set_cons_succ]) | (guard_target = wpList _ _ _ (Oper.mk _ (Op.load 36 _) _ _ _ (some _) :: _) _ _; refine ld_wantM 36 _ rfl (w.heap.size + 1) 31 rfl (by kernel_rfl) (sgA y.g).toList _ xG2.out Tryd.underlying36 rfl (szSg _) ?_; simp only [Act.put, List.setIfInBounds_toArray, List.set_cons_zero, List.set_cons_succ]))
    go_ret
    exact ⟨ret_bool (hn.out.h4 k4).symm, hL.out.bel⟩
  rw [k4] at hq4
  have hdk := hid (fun W (hb : ML2 w W w.heap.size (w.heap.size + 1) x y vr vm (.slice a1 x.d.pulses.length c1) (.slice a2 x.ev.length c2) ur um (.slice a3 y.d.pulses.length c3) (.slice a4 y.ev.length c4)) => dkalike_implM w.heap.size (w.heap.size + 1) a1 a3 c1 c3 x.d.pulses y.d.pulses x.d.index x.d.left y.d.index y.d.left x.d.level x.d.plays y.d.level y.d.plays W (dk8_of hb.q1) (dk8_of hb.q2) hb.d1 hb.d2 hf.out.d hf'.out.d)
  go_wp2_with (first | (guard_target = wpList _ _ _ (Oper.mk _ (Op.load 32 _) _ _ _ (some _) :: _) _ _; refine ld_wantM 32 _ rfl w.heap.size 19 rfl (by kernel_rfl) (poA x.p).toList _ xP1.out Tryd.underlying32 rfl (szPo _) ?_; simp only [Act.put, List.setIfInBounds_toArray, List.set_cons_zero, List.set_cons_succ]) | (guard_target = wpList _ _ _ (Oper.mk _ (Op.load 32 _) _ _ _ (some _) :: _) _ _; refine ld_wantM 32 _ rfl (w.heap.size + 1) 19 rfl (by kernel_rfl) (poA y.p).toList _ xP2.out Tryd.underlying32 rfl (szPo _) ?_; simp only [Act.put, List.setIfInBounds_toArray, List.set_cons_zero, List.set_cons_succ]) | (guard_target = wpList _ _ _ (Oper.mk _ (Op.load 36 _) _ _ _ (some _) :: _) _ _; refine ld_wantM 36 _ rfl w.heap.size 31 rfl (by kernel_rfl) (sgA x.g).toList _ xG1.out Tryd.underlying36 rfl (szSg _) ?_; simp only [Act.put, List.setIfInBounds_toArray, List.set_cons_zero, List.set_cons_succ]) | (guard_target = wpList _ _ _ (Oper.mk _ (Op.load 36 _) _ _ _ (some _) :: _) _ _; refine ld_wantM 36 _ rfl (w.heap.size + 1) 31 rfl (by kernel_rfl) (sgA y.g).toList _ xG2.out Tryd.underlying36 rfl (szSg _) ?_; simp only [Act.put, List.setIfInBounds_toArray, List.set_cons_zero, List.set_cons_succ]))
  refine (hdk.out _ hL.out).mono ?_
  rintro r w1 ⟨rfl, n9, rfl⟩
  have hL := hid (hL.out.below (Below.drewN _ n9 _))
  clear xP1 xP2 xG1 xG2 hq3 hq4 hdk
  have hD : dkAl x.d y.d = (decide (x.d.pulses = y.d.pulses) && (x.d.index == y.d.index) && (x.d.left == y.d.left) && (x.d.level == y.d.level) && (x.d.plays == y.d.plays)) := rfl
  rw [← hD]
  clear hD
  cases k5 : dkAl x.d y.d
  · clear hy
    go_wp2_with fail
    go_ret
    exact ⟨ret_bool (hn.out.h5 k5).symm, hL.out.bel⟩
  have y61 : _ = some (Value.int .i64 x.t) := hL.out.q1.cell 53
  have y62 : _ = some (Value.int .i64 y.t) := hL.out.q2.cell 53
  cases k6 : (x.t == y.t)
  · clear hy
    go_wp2_with fail
    go_ret
    exact ⟨ret_bool (hn.out.h6 k6).symm, hL.out.bel⟩
  have y71 : _ = some (Value.int .i64 x.fr) := hL.out.q1.cell 54
  have y72 : _ = some (Value.int .i64 y.fr) := hL.out.q2.cell 54
  cases k7 : (x.fr == y.fr)
  · clear hy
    go_wp2_with fail
    go_ret
    exact ⟨ret_bool (hn.out.h7 k7).symm, hL.out.bel⟩
  have y81 : _ = some (Value.int .i64 x.pt) := hL.out.q1.cell 55
  have y82 : _ = some (Value.int .i64 y.pt) := hL.out.q2.cell 55
  cases k8 : (x.pt == y.pt)
  · clear hy
    go_wp2_with fail
    go_ret
    exact ⟨ret_bool (hn.out.h8 k8).symm, hL.out.bel⟩
  have y91 : _ = some (Value.string x.sv) := hL.out.q1.cell 56
  have y92 : _ = some (Value.string y.sv) := hL.out.q2.cell 56
  cases k9 : (x.sv.toList == y.sv.toList)
  · clear hy
    go_wp2_with fail
    go_ret
    exact ⟨ret_bool (hn.out.h9 k9).symm, hL.out.bel⟩
  have yA1 : _ = some (Value.slice a2 x.ev.length c2) := hL.out.q1.cell 57
  have yA2 : _ = some (Value.slice a4 y.ev.length c4) := hL.out.q2.cell 57
  have hy := hid (hy.out k1 k2 k3 k4 k5 k6 k7 k8 k9)
  go_wp2_with fail
  refine (equalE_impl _ _ x.ev y.ev _ hL.out.e1 hL.out.e2 hf.out.e hf'.out.e).mono ?_
  rintro r w1 ⟨rfl, hb⟩
  have hL := hid (hL.out.below hb)
  rw [← hy.out]
  clear hb hy hn
  go_wp2_with fail
  go_ret
  exact ⟨rfl, hL.out.bel⟩
theorem sameMc_al (x y : Mc) : sameMc x y = (okMc x && okMc y && sameAl x y) := by
  cases h1 : okMc x
  · rw [smno_1 h1]; rfl
  cases h2 : okMc y
  · rw [smno_2 h2]; rfl
  have e1 := ((okMc_iff x).1 h1).1.d
  have e2 := ((okMc_iff y).1 h2).1.d
  have hd : x.d.same y.d = dkAl x.d y.d := by
    unfold Dk.same dkAl
    rw [e1, e2, Bool.true_and, Bool.true_and]
    rfl
  unfold sameMc sameAl evsEq
  rw [h1, h2, hd]
  simp only [Bool.true_and, Bool.and_assoc]
set_option maxRecDepth 100000 in
set_option maxHeartbeats 4000000 in
theorem same_implM {p q : Nat → Bool} (x y : Mc) (v u : Value) (w : World) (h : MacR p w v x) (h' : MacR q w u y) (hf : FitMc x) (hf' : FitMc y) (hP : PBit w) : Calls Tryd.prog 26 #[v, u] w fun r w' => r = .returned (.bool (sameMc x y)) ∧ Below w.heap.size w w' := by
  obtain ⟨vr, vm, vd, ve, ur, um, ud, ue, rfl, rfl, hL⟩ := ML2.start h h' 41
  rw [sameMc_al]
  have hA := hid (fun W (hb : ML2 w W w.heap.size (w.heap.size + 1) x y vr vm vd ve ur um ud ue) => alikeM_impl x y _ _ W hb.mac1 hb.mac2 hf hf')
  have hO1 := hid (fun W (hb : ML2 w W w.heap.size (w.heap.size + 1) x y vr vm vd ve ur um ud ue) => isrightM_impl x _ W hb.mac1 hf (hP.below hb.bel))
  have hO2 := hid (fun W (hb : ML2 w W w.heap.size (w.heap.size + 1) x y vr vm vd ve ur um ud ue) => isrightM_impl y _ W hb.mac2 hf' (hP.below hb.bel))
  generalize sameAl x y = Q at *
  replace hL := hid hL
  clear h h' hf hf' hP
  go_enter Tryd.func26, Tryd.ntmps26
  go_upto_region 1 with fail
  obtain ⟨V, hV⟩ : ∃ V, (w.alloc (Obj.cells (mcA x vr vm vd ve) 41)).alloc (Obj.cells (mcA y ur um ud ue) 41) = V := ⟨_, rfl⟩
  rw [hV] at hL ⊢
  clear hV
  have xM1 := hid (mc_all hL.out.q1)
  go_wp2_with (refine wpList_load_mid rfl 41 _ rfl w.heap.size 0 rfl (mcA x vr vm vd ve).toList _ xM1.out Tryd.underlying41 rfl (szMc _ _ _ _ _) ?_)
  refine (hO1.out _ hL.out).mono ?_
  rintro r w1 ⟨rfl, hb⟩
  have hL := hid (hL.out.below hb)
  clear hb xM1 hO1
  cases k1 : okMc x
  · go_wp2_with fail
    go_ret
    exact ⟨ret_bool (by rw [k1]; rfl), hL.out.bel⟩
  have xM2 := hid (mc_all hL.out.q2)
  go_wp2_with (guard_target = wpList _ _ _ (Oper.mk _ (Op.load 41 _) _ _ _ (some _) :: _) _ _; refine ld_wantM 41 _ rfl (w.heap.size + 1) 0 rfl (by kernel_rfl) (mcA y ur um ud ue).toList _ xM2.out Tryd.underlying41 rfl (szMc _ _ _ _ _) ?_; simp only [Act.put, List.setIfInBounds_toArray, List.set_cons_zero, List.set_cons_succ])
  refine (hO2.out _ hL.out).mono ?_
  rintro r w1 ⟨rfl, hb⟩
  have hL := hid (hL.out.below hb)
  clear hb xM2 hO2
  cases k2 : okMc y
  · go_wp2_with fail
    go_ret
    exact ⟨ret_bool (by rw [k1, k2]; rfl), hL.out.bel⟩
  have xM1 := hid (mc_all hL.out.q1)
  have xM2 := hid (mc_all hL.out.q2)
  go_wp2_with (first | (guard_target = wpList _ _ _ (Oper.mk _ (Op.load 41 _) _ _ _ (some _) :: _) _ _; refine ld_wantM 41 _ rfl w.heap.size 0 rfl (by kernel_rfl) (mcA x vr vm vd ve).toList _ xM1.out Tryd.underlying41 rfl (szMc _ _ _ _ _) ?_; simp only [Act.put, List.setIfInBounds_toArray, List.set_cons_zero, List.set_cons_succ]) | (guard_target = wpList _ _ _ (Oper.mk _ (Op.load 41 _) _ _ _ (some _) :: _) _ _; refine ld_wantM 41 _ rfl (w.heap.size + 1) 0 rfl (by kernel_rfl) (mcA y ur um ud ue).toList _ xM2.out Tryd.underlying41 rfl (szMc _ _ _ _ _) ?_; simp only [Act.put, List.setIfInBounds_toArray, List.set_cons_zero, List.set_cons_succ]))
  refine (hA.out _ hL.out).mono ?_
  rintro r w1 ⟨rfl, hb⟩
  have hL := hid (hL.out.below hb)
  clear hb xM1 xM2 hA
  go_wp2_with fail
  go_ret
  exact ⟨ret_bool (by rw [k1, k2, Bool.true_and, Bool.true_and]), hL.out.bel⟩
end Go.Proofs.YtifcdojaocndhaaDoor
