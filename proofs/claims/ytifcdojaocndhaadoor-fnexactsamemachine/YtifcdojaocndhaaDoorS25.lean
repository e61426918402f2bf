/- Two processors, ports, sound chips, events held against each other. -/
import Derived.Test.YtifcdojaocndhaaDoorWacs
import Derived.Test.YtifcdojaocndhaaDoorWads
import Derived.ChangeKeysEq
import Derived.Test.YtifcdojaocndhaaDoorS21
import Derived.Test.YtifcdojaocndhaaDoorS20
import Derived.Deep.QuietTactic
namespace Go.Proofs.YtifcdojaocndhaaDoor
open Go.ChangeShapes Go.WideShapes Go.ChangeAt Go.RowKit
set_option linter.unusedVariables false
set_option linter.unusedSimpArgs false

theorem partX_int {xs : Array Value} {i : Nat} {v : Value} (h : xs[i]? = some v) (w : World) : (part 3 xs i).run Tryd.prog w = .ok v w := by
  have hu := Tryd.underlying3
  simp [part, isAgg, go_sem, hu, h]
theorem eqX_int1 (d : Nat) (z y : Int) (w : World) : (Op.equalIn (d + 1) 3 (.int .i64 z) (.int .i64 y)).run Tryd.prog w = .ok (z == y) w := by
  have hu := Tryd.underlying3
  simp [Op.equalIn, go_sem, hu]
theorem partX_bool {xs : Array Value} {i : Nat} {v : Value} (h : xs[i]? = some v) (w : World) : (part 4 xs i).run Tryd.prog w = .ok v w := by
  have hu := Tryd.underlying4
  simp [part, isAgg, go_sem, hu, h]
theorem eqX_bool1 (d : Nat) (z y : Bool) (w : World) : (Op.equalIn (d + 1) 4 (.bool z) (.bool y)).run Tryd.prog w = .ok (z == y) w := by
  have hu := Tryd.underlying4
  simp [Op.equalIn, go_sem, hu]
theorem itemsX (d : Nat) (xs ys : Array Value) (f g : Nat → Int) (w : World) : ∀ is : List Nat, (∀ i ∈ is, xs[i * 1]? = some (.int .i64 (f i))) → (∀ i ∈ is, ys[i * 1]? = some (.int .i64 (g i))) → (Op.eqItems (d + 1) 3 1 xs ys is).run Tryd.prog w = .ok (is.all fun i => f i == g i) w := by
  intro is
  induction is with
  | nil => intro _ _; rfl
  | cons i t ih =>
    intro h h'
    simp only [Op.eqItems, Sem.run_bind, partX_int (h i (by simp)), partX_int (h' i (by simp)), Result.andThen_ok, eqX_int1, List.all_cons]
    cases f i == g i
    · rfl
    · simp only [Bool.not_true, Bool.false_eq_true, if_false, Bool.true_and]
      exact ih (fun j hj => h j (by simp [hj])) (fun j hj => h' j (by simp [hj]))
theorem itemsXb (d : Nat) (xs ys : Array Value) (f g : Nat → Bool) (w : World) : ∀ is : List Nat, (∀ i ∈ is, xs[i * 1]? = some (.bool (f i))) → (∀ i ∈ is, ys[i * 1]? = some (.bool (g i))) → (Op.eqItems (d + 1) 4 1 xs ys is).run Tryd.prog w = .ok (is.all fun i => f i == g i) w := by
  intro is
  induction is with
  | nil => intro _ _; rfl
  | cons i t ih =>
    intro h h'
    simp only [Op.eqItems, Sem.run_bind, partX_bool (h i (by simp)), partX_bool (h' i (by simp)), Result.andThen_ok, eqX_bool1, List.all_cons]
    cases f i == g i
    · rfl
    · simp only [Bool.not_true, Bool.false_eq_true, if_false, Bool.true_and]
      exact ih (fun j hj => h j (by simp [hj])) (fun j hj => h' j (by simp [hj]))
def same8 (x0 x1 x2 x3 x4 x5 x6 x7 y0 y1 y2 y3 y4 y5 y6 y7 : Int) : Bool := [0, 1, 2, 3, 4, 5, 6, 7].all fun i => [x0, x1, x2, x3, x4, x5, x6, x7].getD i 0 == [y0, y1, y2, y3, y4, y5, y6, y7].getD i 0
theorem eqX8 (d : Nat) (x0 x1 x2 x3 x4 x5 x6 x7 y0 y1 y2 y3 y4 y5 y6 y7 : Int) (w : World) : Sem.run Tryd.prog (Op.equalIn (d + 1 + 1) 24 (.agg #[.int .i64 x0, .int .i64 x1, .int .i64 x2, .int .i64 x3, .int .i64 x4, .int .i64 x5, .int .i64 x6, .int .i64 x7]) (.agg #[.int .i64 y0, .int .i64 y1, .int .i64 y2, .int .i64 y3, .int .i64 y4, .int .i64 y5, .int .i64 y6, .int .i64 y7])) w = .ok (same8 x0 x1 x2 x3 x4 x5 x6 x7 y0 y1 y2 y3 y4 y5 y6 y7) w := by
  obtain ⟨i, hi⟩ : ∃ i, Tryd.prog.info? 3 = some i := Option.isSome_iff_exists.1 (by kernel_rfl)
  have c1 : Tryd.prog.cellsOf 3 = 1 := by kernel_rfl
  rw [run_equalIn_array (w := w) (d + 1) _ _ Tryd.underlying24 hi, c1]
  exact itemsX d _ _ (fun i => [x0, x1, x2, x3, x4, x5, x6, x7].getD i 0) (fun i => [y0, y1, y2, y3, y4, y5, y6, y7].getD i 0) w _ (fun i hi => by
    have hi8 : i < 8 := List.mem_range.1 hi
    rcases (by omega : i = 0 ∨ i = 1 ∨ i = 2 ∨ i = 3 ∨ i = 4 ∨ i = 5 ∨ i = 6 ∨ i = 7) with rfl | rfl | rfl | rfl | rfl | rfl | rfl | rfl <;> rfl) (fun i hi => by
    have hi8 : i < 8 := List.mem_range.1 hi
    rcases (by omega : i = 0 ∨ i = 1 ∨ i = 2 ∨ i = 3 ∨ i = 4 ∨ i = 5 ∨ i = 6 ∨ i = 7) with rfl | rfl | rfl | rfl | rfl | rfl | rfl | rfl <;> rfl)
theorem same8_self (x0 x1 x2 x3 x4 x5 x6 x7 : Int) : same8 x0 x1 x2 x3 x4 x5 x6 x7 x0 x1 x2 x3 x4 x5 x6 x7 = true := by simp [same8]
def same2 (x0 x1 y0 y1 : Int) : Bool := [0, 1].all fun i => [x0, x1].getD i 0 == [y0, y1].getD i 0
def sameb2 (x0 x1 y0 y1 : Bool) : Bool := [0, 1].all fun i => [x0, x1].getD i false == [y0, y1].getD i false
theorem eqX2 (d : Nat) (x0 x1 y0 y1 : Int) (w : World) : Sem.run Tryd.prog (Op.equalIn (d + 1 + 1) 33 (.agg #[.int .i64 x0, .int .i64 x1]) (.agg #[.int .i64 y0, .int .i64 y1])) w = .ok (same2 x0 x1 y0 y1) w := by
  obtain ⟨i, hi⟩ : ∃ i, Tryd.prog.info? 3 = some i := Option.isSome_iff_exists.1 (by kernel_rfl)
  have c1 : Tryd.prog.cellsOf 3 = 1 := by kernel_rfl
  rw [run_equalIn_array (w := w) (d + 1) _ _ Tryd.underlying33 hi, c1]
  exact itemsX d _ _ (fun i => [x0, x1].getD i 0) (fun i => [y0, y1].getD i 0) w _ (fun i hi => by
    have hi2 : i < 2 := List.mem_range.1 hi
    rcases (by omega : i = 0 ∨ i = 1) with rfl | rfl <;> rfl) (fun i hi => by
    have hi2 : i < 2 := List.mem_range.1 hi
    rcases (by omega : i = 0 ∨ i = 1) with rfl | rfl <;> rfl)
theorem eqXb2 (d : Nat) (x0 x1 y0 y1 : Bool) (w : World) : Sem.run Tryd.prog (Op.equalIn (d + 1 + 1) 34 (.agg #[.bool x0, .bool x1]) (.agg #[.bool y0, .bool y1])) w = .ok (sameb2 x0 x1 y0 y1) w := by
  obtain ⟨i, hi⟩ : ∃ i, Tryd.prog.info? 4 = some i := Option.isSome_iff_exists.1 (by kernel_rfl)
  have c1 : Tryd.prog.cellsOf 4 = 1 := by kernel_rfl
  rw [run_equalIn_array (w := w) (d + 1) _ _ Tryd.underlying34 hi, c1]
  exact itemsXb d _ _ (fun i => [x0, x1].getD i false) (fun i => [y0, y1].getD i false) w _ (fun i hi => by
    have hi2 : i < 2 := List.mem_range.1 hi
    rcases (by omega : i = 0 ∨ i = 1) with rfl | rfl <;> rfl) (fun i hi => by
    have hi2 : i < 2 := List.mem_range.1 hi
    rcases (by omega : i = 0 ∨ i = 1) with rfl | rfl <;> rfl)
def sameCu (c c' : Cu) : Bool := same8 c.r0 c.r1 c.r2 c.r3 c.r4 c.r5 c.r6 c.r7 c'.r0 c'.r1 c'.r2 c'.r3 c'.r4 c'.r5 c'.r6 c'.r7 && (c.f == c'.f) && (c.sp == c'.sp) && (c.pc == c'.pc) && (c.iff == c'.iff) && (c.ei == c'.ei) && (c.halt == c'.halt)
def samePo (c c' : Po) : Bool := same8 c.k0 c.k1 c.k2 c.k3 c.k4 c.k5 c.k6 c.k7 c'.k0 c'.k1 c'.k2 c'.k3 c'.k4 c'.k5 c'.k6 c'.k7 && (c.joy == c'.joy) && (c.border == c'.border) && (c.mic == c'.mic) && (c.beep == c'.beep)
def sameSg (c c' : Sg) : Bool := same8 c.r0 c.r1 c.r2 c.r3 c.r4 c.r5 c.r6 c.r7 c'.r0 c'.r1 c'.r2 c'.r3 c'.r4 c'.r5 c'.r6 c'.r7 && (c.sel == c'.sel) && same2 c.c0 c.c1 c'.c0 c'.c1 && sameb2 c.o0 c.o1 c'.o0 c'.o1 && (c.noise == c'.noise) && (c.shift == c'.shift) && (c.env == c'.env) && (c.ec == c'.ec)
def sameEv (e e' : Evt) : Bool := (e.t == e'.t) && (e.k == e'.k) && (e.v == e'.v)
theorem sameCu_self (c : Cu) : sameCu c c = true := by simp [sameCu, same8_self]
theorem samePo_self (c : Po) : samePo c c = true := by simp [samePo, same8_self]
theorem sameSg_self (c : Sg) : sameSg c c = true := by simp [sameSg, same8_self, same2, sameb2]
theorem sameEv_self (e : Evt) : sameEv e e = true := by simp [sameEv]
theorem eqCuX (c c' : Cu) (w : World) : Sem.run Tryd.prog (Op.equalIn 10000 26 (cuV c) (cuV c')) w = .ok (sameCu c c') w := by
  have h8 := eqX8 9997 c.r0 c.r1 c.r2 c.r3 c.r4 c.r5 c.r6 c.r7 c'.r0 c'.r1 c'.r2 c'.r3 c'.r4 c'.r5 c'.r6 c'.r7 w
  unfold sameCu
  generalize same8 c.r0 c.r1 c.r2 c.r3 c.r4 c.r5 c.r6 c.r7 c'.r0 c'.r1 c'.r2 c'.r3 c'.r4 c'.r5 c'.r6 c'.r7 = q0 at *
  go_simp
  repeat' split
  all_goals simp_all
theorem eqPoX (c c' : Po) (w : World) : Sem.run Tryd.prog (Op.equalIn 10000 32 (poV c) (poV c')) w = .ok (samePo c c') w := by
  have h8 := eqX8 9997 c.k0 c.k1 c.k2 c.k3 c.k4 c.k5 c.k6 c.k7 c'.k0 c'.k1 c'.k2 c'.k3 c'.k4 c'.k5 c'.k6 c'.k7 w
  unfold samePo
  generalize same8 c.k0 c.k1 c.k2 c.k3 c.k4 c.k5 c.k6 c.k7 c'.k0 c'.k1 c'.k2 c'.k3 c'.k4 c'.k5 c'.k6 c'.k7 = q0 at *
  go_simp
  repeat' split
  all_goals simp_all
theorem eqSgX (c c' : Sg) (w : World) : Sem.run Tryd.prog (Op.equalIn 10000 36 (sgV c) (sgV c')) w = .ok (sameSg c c') w := by
  have h8 := eqX8 9997 c.r0 c.r1 c.r2 c.r3 c.r4 c.r5 c.r6 c.r7 c'.r0 c'.r1 c'.r2 c'.r3 c'.r4 c'.r5 c'.r6 c'.r7 w
  have h2 := eqX2 9997 c.c0 c.c1 c'.c0 c'.c1 w
  have hb := eqXb2 9997 c.o0 c.o1 c'.o0 c'.o1 w
  unfold sameSg
  generalize same8 c.r0 c.r1 c.r2 c.r3 c.r4 c.r5 c.r6 c.r7 c'.r0 c'.r1 c'.r2 c'.r3 c'.r4 c'.r5 c'.r6 c'.r7 = q0 at *
  generalize same2 c.c0 c.c1 c'.c0 c'.c1 = q2 at *
  generalize sameb2 c.o0 c.o1 c'.o0 c'.o1 = q3 at *
  go_simp
  repeat' split
  all_goals simp_all
theorem eqEvX (e e' : Evt) (w : World) : Sem.run Tryd.prog (Op.equalIn 10000 117 (evV e) (evV e')) w = .ok (sameEv e e') w := by
  unfold sameEv
  go_simp
  repeat' split
  all_goals simp_all
end Go.Proofs.YtifcdojaocndhaaDoor

/- A deck runs: the specification. -/
namespace Go.Proofs.YtifcdojaocndhaaDoor
open Go.ChangeShapes Go.WideShapes Go.ChangeAt Go.RowKit
set_option linter.unusedVariables false
set_option linter.unusedSimpArgs false

theorem runD_part {P : List Int} {ix lf : Int} {lv : Bool} {t e : Int} (h : (Dk.mk P ix lf lv true).ok = true) (ht : 0 < t) (hl : t < lf) :
    runD (P.length + 1) ⟨P, ix, lf, lv, true⟩ t e = runD (P.length + 1) ⟨P, ix, lf - t, lv, true⟩ 0 e ∧ (Dk.mk P ix (lf - t) lv true).ok = true := by
  have e1 : runD (P.length + 1) ⟨P, ix, lf, lv, true⟩ t e = (⟨P, ix, lf - t, lv, true⟩, e) := by
    unfold runD
    rw [if_pos ⟨rfl, ht⟩, if_pos hl]
  have e2 : runD (P.length + 1) ⟨P, ix, lf - t, lv, true⟩ 0 e = (⟨P, ix, lf - t, lv, true⟩, e) := by
    unfold runD
    rw [if_neg (fun h => by have := h.2; omega)]
  refine ⟨e1.trans e2.symm, ?_⟩
  have := (runD_ok (P.length + 1) ⟨P, ix, lf, lv, true⟩ t e h).1
  rw [e1] at this
  exact this
theorem runD_edge {P : List Int} {ix lf : Int} {lv : Bool} {t e : Int} (h : (Dk.mk P ix lf lv true).ok = true) (ht : 0 < t) (hl : ¬ t < lf) :
    runD (P.length + 1) ⟨P, ix, lf, lv, true⟩ t e = runD (P.length + 1) (Dk.mk P ix lf lv true).edge (t - lf) (e + 1) := by
  obtain ⟨k1, k2, k3, k4, k5⟩ := Dk.edge_ok h rfl
  have hix := ((Dk.ok_iff _).1 h).2.1
  have e1 : runD (P.length + 1) ⟨P, ix, lf, lv, true⟩ t e = runD P.length (Dk.mk P ix lf lv true).edge (t - lf) (e + 1) := by
    show (if true = true ∧ 0 < t then _ else _) = _
    rw [if_pos ⟨rfl, ht⟩, if_neg hl]
  rw [e1]
  refine runD_more _ _ _ _ _ k1 ?_ ?_
  · show (P.length : Int) - (ix + 1) < (P.length : Int)
    have : 0 ≤ ix := hix.1
    omega
  · show (P.length : Int) - (ix + 1) < ((P.length + 1 : Nat) : Int)
    have : 0 ≤ ix := hix.1
    omega
theorem runD_stop {P : List Int} {ix lf : Int} {lv pl : Bool} {t e : Int} (h : ¬ (pl = true ∧ 0 < t)) : runD (P.length + 1) ⟨P, ix, lf, lv, pl⟩ t e = (⟨P, ix, lf, lv, pl⟩, e) := by
  unfold runD
  rw [if_neg h]
theorem ok_lens {P : List Int} {ix lf : Int} {lv pl : Bool} (h : (Dk.mk P ix lf lv pl).ok = true) : P.length ≤ 5000 ∧ 0 ≤ ix ∧ ix ≤ (P.length : Int) ∧ 0 ≤ lf ∧ lf ≤ 1000 ∧ (pl = true → ix < (P.length : Int) ∧ 1 ≤ lf) := by
  obtain ⟨h1, h2, h3⟩ := (Dk.ok_iff _).1 h
  have hn := ((okPl_iff _).1 h1).2
  refine ⟨hn, h2.1, h2.2, ?_⟩
  rcases h3 with ⟨k1, k2, k3⟩ | ⟨k1, k2, k3⟩
  · have k2' : lf = 0 := k2
    exact ⟨by omega, by omega, fun e => by rw [show pl = false from k3] at e; cases e⟩
  · have hlt : ix < (P.length : Int) := by
      have : ix ≤ (P.length : Int) := h2.2
      have : ¬ ix = (P.length : Int) := k1
      omega
    have hb := Dk.pulse_bd h1 h2.1 hlt
    have k2' : 1 ≤ lf := k2
    have : lf ≤ (Dk.mk P ix lf lv pl).pulse ix := k3
    have hb2 : (Dk.mk P ix lf lv pl).pulse ix ≤ 1000 := hb.2
    exact ⟨by omega, by omega, fun _ => ⟨hlt, k2'⟩⟩
end Go.Proofs.YtifcdojaocndhaaDoor

/- Pulses that are right, and the length of a tape: the specification and the program. -/
namespace Go.Proofs.YtifcdojaocndhaaDoor
open Go.ChangeShapes Go.WideShapes Go.ChangeAt Go.RowKit
set_option linter.unusedVariables false
set_option linter.unusedSimpArgs false

def fltP (P : List Int) : Int := if 4096 < P.length then 2 else if allP P = true then 0 else 4
theorem isPulse_impl (x : Int) (w : World) : Calls Tryd.prog 143 #[.int .i64 x] w fun e w' => e = .returned (.bool (inB x 1 1000)) ∧ w' = w := by
  go_enter Tryd.func143, Tryd.ntmps143
  go_wp2_with (go_at_call 114; refine (withinV_impl _ _ _ _).mono ?_; rintro e w' ⟨rfl, hww⟩; obtain rfl := hww.symm)
  go_ret
  exact ⟨rfl, rfl⟩
set_option maxRecDepth 100000 in
set_option maxHeartbeats 2000000 in
theorem pok_specV (a : Option Addr) (cap : Nat) (P : List Int) (w : World) (h : RowR w (.slice a P.length cap) P) (hl : P.length ≤ 4096) : Calls Tryd.prog 137 #[.slice a P.length cap] w fun e w' => e = .returned (.bool (allP P)) ∧ w' = w := by
  have hno : Hid (∀ k, k < P.length → inB (P.getD k 0) 1 1000 = false → allP P = false) := fun k hk hb => all_no hk hb
  have hyes : Hid ((∀ k, k < P.length → inB (P.getD k 0) 1 1000 = true) → allP P = true) := fun hh => all_yes hh
  replace h := hid h
  obtain ⟨Q, hQ⟩ : ∃ Q, allP P = Q := ⟨_, rfl⟩
  rw [hQ] at hno hyes ⊢
  clear hQ
  go_enter Tryd.func137, Tryd.ntmps137
  have h9 : decide ((4096 : Int) < (P.length : Int)) = false := decide_eq_false (by omega)
  have h5 : decide ((P.length : Int) ≤ 5000) = true := decide_eq_true (by omega)
  go_wp2
  go_loop [3] (fun i => ∃ k : Nat, k ≤ P.length ∧ i = .int .i64 k ∧ (∀ j, j < k → inB (P.getD j 0) 1 1000 = true)) (fun i => P.length - (intOf i).toNat)
  case atStart => exact ⟨0, by omega, rfl, fun j hj => by omega⟩
  case round =>
    obtain ⟨k, hk, rfl, hj⟩ := hrel
    by_cases hlt : k < P.length
    · obtain ⟨b, off, rfl, x1⟩ := h.out.at hlt
      cases hb : inB (P.getD k 0) 1 1000
      · have hE2 := hid (hno.out k hlt hb)
        clear hj hno hyes
        have hI := hid (fun W => in_spec (P.getD k 0) 1 1000 W)
        rw [hb] at hI
        generalize P.getD k 0 = X at *
        go_wp2_with (go_at_call 99; refine (hI.out _).mono ?_; rintro e w' ⟨rfl, hww⟩; obtain rfl := hww.symm)
        go_ret
        exact ⟨by rw [hE2.out]; try rfl, rfl⟩
      · have hj2 : Hid (∀ j, j < k + 1 → inB (P.getD j 0) 1 1000 = true) := fun j hj1 => by
          by_cases e : j = k
          · rw [e]; exact hb
          · exact hj j (by omega)
        clear hj hno hyes
        have hI := hid (fun W => in_spec (P.getD k 0) 1 1000 W)
        rw [hb] at hI
        clear hb
        generalize P.getD k 0 = X at *
        go_wp2_with (go_at_call 99; refine (hI.out _).mono ?_; rintro e w' ⟨rfl, hww⟩; obtain rfl := hww.symm)
        go_round
        case rel => exact ⟨k + 1, by omega, by go_num, hj2.out⟩
        case measure => simp [intOf] <;> omega
    · obtain rfl : k = P.length := by omega
      have hE2 := hid (hyes.out hj)
      clear hj hno hyes
      go_wp2
      go_ret
      exact ⟨by rw [hE2.out]; try rfl, rfl⟩
end Go.Proofs.YtifcdojaocndhaaDoor

/- A deck in a block: whether it is at its end, whether it is right: the program. -/
namespace Go.Proofs.YtifcdojaocndhaaDoor
open Go.ChangeShapes Go.WideShapes Go.ChangeAt Go.RowKit
set_option linter.unusedVariables false
set_option linter.unusedSimpArgs false

set_option maxRecDepth 100000 in
theorem atend_impl (b : Nat) (a : Option Addr) (cap : Nat) (P : List Int) (ix lf : Int) (lv pl : Bool) (W : World) (h : Blk W b #[.slice a P.length cap, .int .i64 ix, .int .i64 lf, .bool lv, .bool pl]) :
    Calls Tryd.prog 144 #[.pointer (some ⟨b, 0, none⟩)] W fun e w' => e = .returned (.bool (ix == (P.length : Int))) ∧ ∃ n, w' = W.drewN n := by
  have x0 := h.cell
  clear h
  go_enter Tryd.func144, Tryd.ntmps144
  go_wp2
  go_quiet (fail)
  go_wp2
  go_ret
  exact ⟨rfl, _, rfl⟩
set_option maxRecDepth 100000 in
set_option maxHeartbeats 1000000 in
theorem right_long (b : Nat) (a : Option Addr) (cap : Nat) (P : List Int) (ix lf : Int) (lv pl : Bool) (W : World) (h : Blk W b #[.slice a P.length cap, .int .i64 ix, .int .i64 lf, .bool lv, .bool pl]) (hl : 5000 < P.length) :
    Calls Tryd.prog 112 #[.pointer (some ⟨b, 0, none⟩)] W fun e w' => e = .returned (.bool false) ∧ ∃ n, w' = W.drewN n := by
  have x0 := h.cell
  have hd : (5000 : Int) < (P.length : Int) := by omega
  clear h
  go_enter Tryd.func112, Tryd.ntmps112
  go_wp2
  go_quiet (fail)
  go_wp2
  go_ret
  exact ⟨rfl, _, rfl⟩
set_option maxRecDepth 100000 in
set_option maxHeartbeats 1000000 in
theorem right_out (b : Nat) (a : Option Addr) (cap : Nat) (P : List Int) (ix lf : Int) (lv pl : Bool) (W : World) (h : Blk W b #[.slice a P.length cap, .int .i64 ix, .int .i64 lf, .bool lv, .bool pl]) (hl : P.length ≤ 5000) (hi : inB ix 0 (P.length : Int) = false) :
    Calls Tryd.prog 112 #[.pointer (some ⟨b, 0, none⟩)] W fun e w' => e = .returned (.bool false) ∧ ∃ n, w' = W.drewN n := by
  have x0 := h.cell
  have hd : ¬ (5000 : Int) < (P.length : Int) := by omega
  have hI := hid (fun W => withinV_impl ix 0 (P.length : Int) W)
  rw [hi] at hI
  clear h
  go_enter Tryd.func112, Tryd.ntmps112
  go_wp2
  go_quiet ((go_at_call 114; exact Calls.quiet_of_same (hI.out _)))
  go_wp2
  go_ret
  exact ⟨rfl, _, rfl⟩
set_option maxRecDepth 100000 in
set_option maxHeartbeats 2000000 in
theorem right_in (b : Nat) (a : Option Addr) (cap : Nat) (P : List Int) (ix lf : Int) (lv pl : Bool) (W : World) (h : Blk W b #[.slice a P.length cap, .int .i64 ix, .int .i64 lf, .bool lv, .bool pl]) (hr : RowR W (.slice a P.length cap) P) (hl : P.length ≤ 5000) (hi : inB ix 0 (P.length : Int) = true) :
    Calls Tryd.prog 112 #[.pointer (some ⟨b, 0, none⟩)] W fun e w' => e = .returned (.bool (Dk.mk P ix lf lv pl).ok) ∧ ∃ n, w' = W.drewN n := by
  have hno : Hid (∀ k, k < P.length → inB (P.getD k 0) 1 1000 = false → (Dk.mk P ix lf lv pl).ok = false) := fun k hk hb => by
    unfold Dk.ok okPl
    rw [show allP P = false from all_no hk hb]
    rfl
  have hyes : Hid ((∀ k, k < P.length → inB (P.getD k 0) 1 1000 = true) → (Dk.mk P ix lf lv pl).ok = if ix = (P.length : Int) then decide (lf = 0) && !pl else inB lf 1 (P.getD ix.toNat 0)) := fun hh => by
    show ((allP P && decide (P.length ≤ 5000)) && inB ix 0 (P.length : Int) && (if ix = (P.length : Int) then decide (lf = 0) && !pl else inB lf 1 (P.getD ix.toNat 0))) = _
    rw [show allP P = true from all_yes hh, decide_eq_true hl, hi]
    rfl
  obtain ⟨Q, hQ⟩ : ∃ Q, (Dk.mk P ix lf lv pl).ok = Q := ⟨_, rfl⟩
  rw [hQ] at hno hyes ⊢
  clear hQ
  have x0 := h.cell
  have hd : ¬ (5000 : Int) < (P.length : Int) := by omega
  have hI := hid (fun W => withinV_impl ix 0 (P.length : Int) W)
  rw [hi] at hI
  have hi2 : Hid (0 ≤ ix ∧ ix ≤ (P.length : Int)) := hid (of_decide_eq_true hi)
  replace h := hid h
  replace hr := hid hr
  clear hi
  go_enter Tryd.func112, Tryd.ntmps112
  go_wp2
  go_quiet ((go_at_call 114; exact Calls.quiet_of_same (hI.out _)))
  generalize nq = n1 at *
  clear hI
  go_wp2
  go_loop [29] (fun i => ∃ k : Nat, k ≤ P.length ∧ i = .int .i64 k ∧ (∀ j, j < k → inB (P.getD j 0) 1 1000 = true)) (fun i => P.length - (intOf i).toNat)
  case atStart => exact ⟨0, by omega, rfl, fun j hj => by omega⟩
  case round =>
    obtain ⟨k, hk, rfl, hj⟩ := hrel
    by_cases hlt : k < P.length
    · obtain ⟨g, off, rfl, x1⟩ := hr.out.at hlt
      cases hb : inB (P.getD k 0) 1 1000
      · have hE2 := hid (hno.out k hlt hb)
        clear hj hno hyes
        have hI := hid (fun W => isPulse_impl (P.getD k 0) W)
        rw [hb] at hI
        clear hb
        generalize P.getD k 0 = X at *
        go_wp2_with (go_at_call 143; refine (hI.out _).mono ?_; rintro e w' ⟨rfl, hww⟩; obtain rfl := hww.symm)
        go_ret
        exact ⟨ret_bool hE2.out.symm, _, rfl⟩
      · have hj2 : Hid (∀ j, j < k + 1 → inB (P.getD j 0) 1 1000 = true) := fun j hj1 => by
          by_cases e : j = k
          · rw [e]; exact hb
          · exact hj j (by omega)
        clear hj hno hyes
        have hI := hid (fun W => isPulse_impl (P.getD k 0) W)
        rw [hb] at hI
        clear hb
        generalize P.getD k 0 = X at *
        go_wp2_with (go_at_call 143; refine (hI.out _).mono ?_; rintro e w' ⟨rfl, hww⟩; obtain rfl := hww.symm)
        go_round
        case rel => exact ⟨k + 1, by omega, by go_num, hj2.out⟩
        case measure => simp [intOf] <;> omega
    · obtain rfl : k = P.length := by omega
      have hE := hyes.out hj
      clear hj hno hyes
      have hA := hid (atend_impl b a cap P ix lf lv pl (W.drewN n1) h.out)
      by_cases he : ix = (P.length : Int)
      · rw [if_pos he] at hE
        have heb : (ix == (P.length : Int)) = true := by rw [beq_iff_eq]; exact he
        rw [heb] at hA
        replace hE := hid hE
        clear he heb
        go_wp2_with fail
        refine hA.out.mono ?_
        rintro e w2 ⟨rfl, n2, rfl⟩
        have e2 : decide (lf = 0) = (lf == 0) := by rw [Bool.eq_iff_iff]; simp
        rw [e2] at hE
        clear e2
        cases hl0 : (lf == 0)
        all_goals
          go_wp2
          go_ret
          exact ⟨ret_bool (by rw [hE.out, hl0]; cases pl <;> rfl), n1 + n2, by first | rfl | exact World.drewN_drewN W n1 n2⟩
      · rw [if_neg he] at hE
        have heb : (ix == (P.length : Int)) = false := by rw [beq_eq_false_iff_ne]; exact he
        rw [heb] at hA
        obtain ⟨m, rfl⟩ : ∃ m : Nat, ix = (m : Int) := ⟨ix.toNat, by have := hi2.out.1; omega⟩
        have hml : m < P.length := by have := hi2.out.2; omega
        have hmI : (m : Int) < (P.length : Int) := by omega
        rw [Int.toNat_natCast] at hE
        obtain ⟨g, off, rfl, xm⟩ := hr.out.at hml
        have hI2 := hid (fun W => withinV_impl lf 1 (P.getD m 0) W)
        generalize P.getD m 0 = X at *
        replace hE := hid hE
        clear he heb hi2
        go_wp2_with fail
        refine hA.out.mono ?_
        rintro e w2 ⟨rfl, n2, rfl⟩
        have x2 : ∀ i, ((W.drewN n1).drewN n2).cell? ⟨b, i, none⟩ = _ := x0
        have y2 : ((W.drewN n1).drewN n2).cell? ⟨g, off + m, none⟩ = _ := xm
        obtain ⟨W2, hW2⟩ : ∃ W2, (W.drewN n1).drewN n2 = W2 := ⟨_, rfl⟩
        rw [hW2] at x2 y2 ⊢
        replace hW2 := hid hW2
        clear x0 xm
        go_wp2
        go_quiet ((go_at_call 114; exact Calls.quiet_of_same (hI2.out _)))
        generalize nq = n3 at *
        go_wp2
        go_ret
        exact ⟨ret_bool hE.out.symm, n1 + (n2 + n3), by rw [← hW2.out, World.drewN_drewN, World.drewN_drewN]⟩
theorem right_impl (b : Nat) (a : Option Addr) (cap : Nat) (d : Dk) (W : World) (h : Blk W b (dkA (.slice a d.pulses.length cap) d)) (hr : RowR W (.slice a d.pulses.length cap) d.pulses) :
    Calls Tryd.prog 112 #[.pointer (some ⟨b, 0, none⟩)] W fun e w' => e = .returned (.bool d.ok) ∧ ∃ n, w' = W.drewN n := by
  obtain ⟨P, ix, lf, lv, pl⟩ := d
  by_cases hl : P.length ≤ 5000
  · cases hi : inB ix 0 (P.length : Int)
    · have e : (Dk.mk P ix lf lv pl).ok = false := by
        show ((allP P && decide (P.length ≤ 5000)) && inB ix 0 (P.length : Int) && _) = false
        rw [hi, Bool.and_false, Bool.false_and]
      rw [e]
      exact right_out b a cap P ix lf lv pl W h hl hi
    · exact right_in b a cap P ix lf lv pl W h hr hl hi
  · have e : (Dk.mk P ix lf lv pl).ok = false := by
      show ((allP P && decide (P.length ≤ 5000)) && inB ix 0 (P.length : Int) && _) = false
      rw [decide_eq_false hl, Bool.and_false, Bool.false_and, Bool.false_and]
    rw [e]
    exact right_long b a cap P ix lf lv pl W h (by omega)
end Go.Proofs.YtifcdojaocndhaaDoor
