/- A deck at a pulse's beginning, and a deck with pulses of its own: the specification. -/
import Derived.Test.YtohnddjijedfkaaDck
namespace Go.Proofs.Ytohnddjijedfkaa
open Go.ChangeShapes Go.WideShapes Go.ChangeAt Go.RowKit
set_option linter.unusedVariables false
set_option linter.unusedSimpArgs false

theorem two_newD (w : World) (A B : Array Value) (t u : TypeId) : Blk ((w.alloc (.cells A t)).alloc (.cells B u)) w.heap.size A ∧ Blk ((w.alloc (.cells A t)).alloc (.cells B u)) (w.heap.size + 1) B ∧ Below w.heap.size w ((w.alloc (.cells A t)).alloc (.cells B u)) := by
  refine ⟨(Blk.new w A t).alloc _, ?_, ((Below.refl _ _).alloc (Nat.le_refl _) _).alloc (by simp) _⟩
  have := Blk.new (w.alloc (.cells A t)) B u
  rw [World.size_alloc] at this
  exact this
set_option maxRecDepth 100000 in
set_option maxHeartbeats 1000000 in
theorem goto_in (b off cap : Nat) (P : List Int) (ix lf : Int) (lv pl : Bool) (k : Nat) (X : Int) (w : World) (hk : k < P.length) (hl : P.length ≤ 1048576) (xk : w.cell? ⟨b, off + k, none⟩ = some (.int .i64 X)) :
    Calls Try.prog 48 #[.agg #[.slice (some ⟨b, off, none⟩) P.length cap, .int .i64 ix, .int .i64 lf, .bool lv, .bool pl], .int .i64 (k : Int)] w fun e w' => e = .returned (.agg #[.slice (some ⟨b, off, none⟩) P.length cap, .int .i64 (k : Int), .int .i64 X, .bool lv, .bool pl]) ∧ Below w.heap.size w w' := by
  obtain ⟨qO, qR, hB⟩ := two_newD w #[.slice (some ⟨b, off, none⟩) P.length cap, .int .i64 ix, .int .i64 lf, .bool lv, .bool pl] #[.slice none 0 0, .int .i64 0, .int .i64 0, .bool false, .bool false] 25 25
  have xk2 := cell_keptU hB xk
  have hbl : b < w.heap.size := World.block_lt_of_cell? w _ xk
  have hkI : (k : Int) < (P.length : Int) := by omega
  go_enter Try.func48, Try.ntmps48
  go_upto_region 1 with fail
  obtain ⟨V, hV⟩ : ∃ V, (w.alloc (.cells #[.slice (some ⟨b, off, none⟩) P.length cap, .int .i64 ix, .int .i64 lf, .bool lv, .bool pl] 25)).alloc (.cells #[.slice none 0 0, .int .i64 0, .int .i64 0, .bool false, .bool false] 25) = V := ⟨_, rfl⟩
  rw [hV] at qO qR hB xk2 ⊢
  clear hV xk
  obtain ⟨O, hO⟩ : ∃ O, w.heap.size = O := ⟨_, rfl⟩
  have hBh : Hid (Below w.heap.size w V ∧ w.heap.size = O) := ⟨hB, hO⟩
  rw [hO] at qO qR hbl ⊢
  clear hB hO
  have n1 : ¬ b = O := by omega
  have n3 : ¬ O + 1 = O := by omega
  have n4 : ¬ O = O + 1 := by omega
  have xO := qO.cell
  have fO := qO.frozen
  have lO := qO.lt
  have q3 := (qO.set 1 (.int .i64 (k : Int))).set 2 (.int .i64 0)
  have r3 := (qR.other (p := ⟨O, 1, none⟩) n3 (.int .i64 (k : Int))).other (p := ⟨O, 2, none⟩) n3 (.int .i64 0)
  have x3 : ((V.setCell ⟨O, 1, none⟩ (.int .i64 (k : Int))).setCell ⟨O, 2, none⟩ (.int .i64 0)).cell? ⟨b, off + k, none⟩ = some (.int .i64 X) := by
    rw [World.cell?_of_block (a := ⟨b, off + k, none⟩) ((Below.heap_setCell _ _ _ _ n1).trans (Below.heap_setCell _ _ _ _ n1))]
    exact xk2
  have B3 : Hid (Below w.heap.size w ((V.setCell ⟨O, 1, none⟩ (.int .i64 (k : Int))).setCell ⟨O, 2, none⟩ (.int .i64 0))) := (hBh.out.1.setCell (p := ⟨O, 1, none⟩) (by show w.heap.size ≤ O; have := hBh.out.2; omega) _).setCell (p := ⟨O, 2, none⟩) (by show w.heap.size ≤ O; have := hBh.out.2; omega) _
  replace q3 := hid q3
  replace r3 := hid r3
  replace x3 := hid x3
  clear qO qR xk2
  go_upto_region 3 with fail
  obtain ⟨W3, hW3⟩ : ∃ W, (V.setCell ⟨O, 1, none⟩ (.int .i64 (k : Int))).setCell ⟨O, 2, none⟩ (.int .i64 0) = W := ⟨_, rfl⟩
  rw [hW3] at q3 r3 x3 B3 ⊢
  clear hW3 xO fO lO
  have xO := q3.out.cell
  have fO := q3.out.frozen
  have lO := q3.out.lt
  have x3' := x3.out
  have q4 := hid (q3.out.set 2 (.int .i64 X))
  have r4 := hid (r3.out.other (p := ⟨O, 2, none⟩) n3 (.int .i64 X))
  have B4 : Hid (Below w.heap.size w (W3.setCell ⟨O, 2, none⟩ (.int .i64 X))) := B3.out.setCell (p := ⟨O, 2, none⟩) (by show w.heap.size ≤ O; have := hBh.out.2; omega) _
  go_upto_region 5 with fail
  obtain ⟨W4, hW4⟩ : ∃ W, W3.setCell ⟨O, 2, none⟩ (.int .i64 X) = W := ⟨_, rfl⟩
  rw [hW4] at q4 r4 B4 ⊢
  clear hW4 xO fO lO x3' x3 q3 r3 B3
  have xO := q4.out.cell
  have xR := r4.out.cell
  have fR := r4.out.frozen
  have lR := r4.out.lt
  have r5 := ((((r4.out.set 0 (.slice (some ⟨b, off, none⟩) P.length cap)).set 1 (.int .i64 (k : Int))).set 2 (.int .i64 X)).set 3 (.bool lv)).set 4 (.bool pl)
  have x5 := hid r5.cell
  have B5 : Hid (Below w.heap.size w (((((W4.setCell ⟨O + 1, 0, none⟩ (.slice (some ⟨b, off, none⟩) P.length cap)).setCell ⟨O + 1, 1, none⟩ (.int .i64 (k : Int))).setCell ⟨O + 1, 2, none⟩ (.int .i64 X)).setCell ⟨O + 1, 3, none⟩ (.bool lv)).setCell ⟨O + 1, 4, none⟩ (.bool pl))) := by
    refine Below.setCell (p := ⟨O + 1, 4, none⟩) (Below.setCell (p := ⟨O + 1, 3, none⟩) (Below.setCell (p := ⟨O + 1, 2, none⟩) (Below.setCell (p := ⟨O + 1, 1, none⟩) (Below.setCell (p := ⟨O + 1, 0, none⟩) B4.out ?_ _) ?_ _) ?_ _) ?_ _) ?_ _
    all_goals (show w.heap.size ≤ O + 1; have := hBh.out.2; omega)
  clear r5
  go_wp2
  have x6 := x5.out
  exact bodyPost_ret (v := .agg #[.slice (some ⟨b, off, none⟩) P.length cap, .int .i64 (k : Int), .int .i64 X, .bool lv, .bool pl]) (by simp [results, Try.results48, go_sem, x6]; try rfl) rfl ⟨rfl, B5.out⟩
set_option maxRecDepth 100000 in
set_option maxHeartbeats 1000000 in
theorem goto_out (a : Option Addr) (cap : Nat) (P : List Int) (ix lf : Int) (lv pl : Bool) (k : Nat) (w : World) (hk : P.length ≤ k) (hl : P.length ≤ 1048576) :
    Calls Try.prog 48 #[.agg #[.slice a P.length cap, .int .i64 ix, .int .i64 lf, .bool lv, .bool pl], .int .i64 (k : Int)] w fun e w' => e = .returned (.agg #[.slice a P.length cap, .int .i64 (k : Int), .int .i64 0, .bool lv, .bool pl]) ∧ Below w.heap.size w w' := by
  obtain ⟨qO, qR, hB⟩ := two_newD w #[.slice a P.length cap, .int .i64 ix, .int .i64 lf, .bool lv, .bool pl] #[.slice none 0 0, .int .i64 0, .int .i64 0, .bool false, .bool false] 25 25
  have hkI : ¬ (k : Int) < (P.length : Int) := by omega
  go_enter Try.func48, Try.ntmps48
  go_upto_region 1 with fail
  obtain ⟨V, hV⟩ : ∃ V, (w.alloc (.cells #[.slice a P.length cap, .int .i64 ix, .int .i64 lf, .bool lv, .bool pl] 25)).alloc (.cells #[.slice none 0 0, .int .i64 0, .int .i64 0, .bool false, .bool false] 25) = V := ⟨_, rfl⟩
  rw [hV] at qO qR hB ⊢
  clear hV
  obtain ⟨O, hO⟩ : ∃ O, w.heap.size = O := ⟨_, rfl⟩
  have hBh : Hid (Below w.heap.size w V ∧ w.heap.size = O) := ⟨hB, hO⟩
  rw [hO] at qO qR ⊢
  clear hB hO
  have n3 : ¬ O + 1 = O := by omega
  have n4 : ¬ O = O + 1 := by omega
  have xO := qO.cell
  have fO := qO.frozen
  have lO := qO.lt
  have q3 := (qO.set 1 (.int .i64 (k : Int))).set 2 (.int .i64 0)
  have r3 := (qR.other (p := ⟨O, 1, none⟩) n3 (.int .i64 (k : Int))).other (p := ⟨O, 2, none⟩) n3 (.int .i64 0)
  have B3 : Hid (Below w.heap.size w ((V.setCell ⟨O, 1, none⟩ (.int .i64 (k : Int))).setCell ⟨O, 2, none⟩ (.int .i64 0))) := (hBh.out.1.setCell (p := ⟨O, 1, none⟩) (by show w.heap.size ≤ O; have := hBh.out.2; omega) _).setCell (p := ⟨O, 2, none⟩) (by show w.heap.size ≤ O; have := hBh.out.2; omega) _
  replace q3 := hid q3
  replace r3 := hid r3
  clear qO qR
  go_upto_region 3 with fail
  obtain ⟨W3, hW3⟩ : ∃ W, (V.setCell ⟨O, 1, none⟩ (.int .i64 (k : Int))).setCell ⟨O, 2, none⟩ (.int .i64 0) = W := ⟨_, rfl⟩
  rw [hW3] at q3 r3 B3 ⊢
  clear hW3 xO fO lO
  have xO := q3.out.cell
  have xR := r3.out.cell
  have fR := r3.out.frozen
  have lR := r3.out.lt
  have r5 := ((((r3.out.set 0 (.slice a P.length cap)).set 1 (.int .i64 (k : Int))).set 2 (.int .i64 0)).set 3 (.bool lv)).set 4 (.bool pl)
  have x5 := hid r5.cell
  have B5 : Hid (Below w.heap.size w (((((W3.setCell ⟨O + 1, 0, none⟩ (.slice a P.length cap)).setCell ⟨O + 1, 1, none⟩ (.int .i64 (k : Int))).setCell ⟨O + 1, 2, none⟩ (.int .i64 0)).setCell ⟨O + 1, 3, none⟩ (.bool lv)).setCell ⟨O + 1, 4, none⟩ (.bool pl))) := by
    refine Below.setCell (p := ⟨O + 1, 4, none⟩) (Below.setCell (p := ⟨O + 1, 3, none⟩) (Below.setCell (p := ⟨O + 1, 2, none⟩) (Below.setCell (p := ⟨O + 1, 1, none⟩) (Below.setCell (p := ⟨O + 1, 0, none⟩) B3.out ?_ _) ?_ _) ?_ _) ?_ _) ?_ _
    all_goals (show w.heap.size ≤ O + 1; have := hBh.out.2; omega)
  clear r5
  go_wp2
  have x6 := x5.out
  exact bodyPost_ret (v := .agg #[.slice a P.length cap, .int .i64 (k : Int), .int .i64 0, .bool lv, .bool pl]) (by simp [results, Try.results48, go_sem, x6]; try rfl) rfl ⟨rfl, B5.out⟩
theorem goto_spec (a : Option Addr) (cap : Nat) (d : Dk) (i : Int) (w : World) (h : RowR w (.slice a d.pulses.length cap) d.pulses) (h0 : 0 ≤ i) (hl : d.pulses.length ≤ 1048576) :
    Calls Try.prog 48 #[dkV (.slice a d.pulses.length cap) d, .int .i64 i] w fun e w' => e = .returned (dkV (.slice a d.pulses.length cap) (d.goto i)) ∧ Below w.heap.size w w' := by
  obtain ⟨k, rfl⟩ : ∃ k : Nat, i = (k : Int) := ⟨i.toNat, by omega⟩
  obtain ⟨P, ix, lf, lv, pl⟩ := d
  by_cases hlt : k < P.length
  · obtain ⟨b, off, rfl, hc⟩ := h.at hlt
    have e : (Dk.mk P ix lf lv pl).goto (k : Int) = ⟨P, k, P.getD k 0, lv, pl⟩ := by
      show Dk.mk P k (if (k : Int) < (P.length : Int) then P.getD ((k : Int).toNat) 0 else 0) lv pl = _
      rw [if_pos (by omega), Int.toNat_natCast]
    rw [e]
    exact goto_in b off cap P ix lf lv pl k _ w hlt hl hc
  · have e : (Dk.mk P ix lf lv pl).goto (k : Int) = ⟨P, k, 0, lv, pl⟩ := by
      show Dk.mk P k (if (k : Int) < (P.length : Int) then P.getD ((k : Int).toNat) 0 else 0) lv pl = _
      rw [if_neg (by omega)]
    rw [e]
    exact goto_out a cap P ix lf lv pl k w (by omega) hl
end Go.Proofs.Ytohnddjijedfkaa
