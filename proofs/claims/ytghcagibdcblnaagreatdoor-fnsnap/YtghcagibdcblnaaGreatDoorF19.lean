/- A key that is pressed or let go: what the specification and the program answer. -/
import Derived.Test.YtghcagibdcblnaaGreatDoorF05
import Derived.Laws.EntriesVeiled
import Derived.BigRegion
import Derived.Deep.RegionWith
import Derived.Test.YtghcagibdcblnaaGreatDoorSrcf
namespace Go.Proofs.YtghcagibdcblnaaGreatDoor
open Go.ChangeShapes Go.WideShapes Go.ChangeAt Go.RowKit
set_option linter.unusedVariables false
set_option linter.unusedSimpArgs false

def upN (x k : Nat) : Nat := Nat.lor x (Nat.pow 2 k)
def dnN (x k : Nat) : Nat := Nat.sub x (Nat.land x (Nat.pow 2 k))
def keyN (x k : Nat) (down : Bool) : Nat := cond down (dnN x k) (upN x k)
def press2 (p : Po) (row key : Int) (down : Bool) : Po × Int := if okPo p = true then (if (inB row 0 7 && inB key 0 4) = true then (p.put (keyN (p.key row.toNat).toNat key.toNat down : Nat) row.toNat, 0) else (zeP, 4)) else (zeP, 1)
abbrev ans2 (r : Po × Int) : Value := .tuple #[poV r.1, .int .i64 r.2]
def allE (p : Nat → Nat → Bool) : Bool := allB 32 fun x => p x 0 && p x 1 && p x 2 && p x 3 && p x 4
theorem upN_lt : ∀ x : Nat, x < 32 → ∀ k : Nat, k < 5 → upN x k < 32 := by decide +kernel
theorem dnN_lt : ∀ x : Nat, x < 32 → ∀ k : Nat, k < 5 → dnN x k < 32 := by decide +kernel
theorem dn_0 : ∀ x : Nat, x < 32 → bits .andNot .i64 (x : Int) 1 = (dnN x 0 : Nat) ∧ dnN (upN x 0) 0 = dnN x 0 := by decide +kernel
theorem dn_1 : ∀ x : Nat, x < 32 → bits .andNot .i64 (x : Int) 2 = (dnN x 1 : Nat) ∧ dnN (upN x 1) 1 = dnN x 1 := by decide +kernel
theorem dn_2 : ∀ x : Nat, x < 32 → bits .andNot .i64 (x : Int) 4 = (dnN x 2 : Nat) ∧ dnN (upN x 2) 2 = dnN x 2 := by decide +kernel
theorem dn_3 : ∀ x : Nat, x < 32 → bits .andNot .i64 (x : Int) 8 = (dnN x 3 : Nat) ∧ dnN (upN x 3) 3 = dnN x 3 := by decide +kernel
theorem dn_4 : ∀ x : Nat, x < 32 → bits .andNot .i64 (x : Int) 16 = (dnN x 4 : Nat) ∧ dnN (upN x 4) 4 = dnN x 4 := by decide +kernel
/-- ports in a block, and room for an answer behind it -/
structure PSp (w W : World) (A : Array Value) : Prop where
  q0 : Blk W w.heap.size A
  q1 : Blk W (w.heap.size + 1) (poA zeP)
  bel : Below w.heap.size w W
theorem PSp.start (w : World) (c : Po) (t t1 : TypeId) : PSp w ((w.alloc (.cells (poA c) t)).alloc (.cells (poA zeP) t1)) (poA c) := by
  obtain ⟨q0, q1, hB⟩ := two_in (w := w) (poA c) (poA zeP) t t1
  exact ⟨q0, q1, hB⟩
theorem PSp.below {w W W' : World} {A : Array Value} (h : PSp w W A) (hb : Below W.heap.size W W') : PSp w W' A :=
  ⟨h.q0.below hb h.q0.lt, h.q1.below hb h.q1.lt, h.bel.trans (hb.mono h.bel.size)⟩
theorem PSp.drew {w W : World} {A : Array Value} (h : PSp w W A) : PSp w W.drew A := h.below ⟨rfl, rfl, rfl, Nat.le_refl _, fun _ _ => rfl⟩
theorem PSp.set {w W : World} {A : Array Value} (h : PSp w W A) (i : Nat) (u : Value) : PSp w (W.setCell ⟨w.heap.size, i, none⟩ u) (A.setIfInBounds i u) :=
  ⟨h.q0.set i u, h.q1.other (by simp) u, h.bel.setCell (p := ⟨w.heap.size, i, none⟩) (Nat.le_refl _) u⟩
theorem poA_put_at (c : Po) (k : Nat) (v : Int) (hk : k < 8) : (poA (c.put v k))[k]? = some (.int .i64 v) := by
  rcases eight hk with rfl | rfl | rfl | rfl | rfl | rfl | rfl | rfl <;> rfl
theorem put_put (c : Po) (k : Nat) (u v : Int) (hk : k < 8) : (c.put u k).put v k = c.put v k := by
  rcases eight hk with rfl | rfl | rfl | rfl | rfl | rfl | rfl | rfl <;> rfl
def pfN (c : Po) (b : Bool) : Int := if okPo c = true then (if b = true then 0 else 4) else 1
set_option maxRecDepth 100000 in
theorem pfault_impl (c : Po) (b : Bool) (w : World) : Calls Tryz.prog 100 #[poV c, .bool b] w fun e w' => e = .returned (.int .i64 (pfN c b)) ∧ Below w.heap.size w w' := by
  have hB := hid ((Below.refl w.heap.size w).alloc (Nat.le_refl _) (.cells (poA c) 31))
  have x0 := (Blk.new w (poA c) 31).cell
  have hok := hid (fun w1 => pok_impl c w1)
  have e : pfN c b = if okPo c = true then (if b = true then 0 else 4) else 1 := rfl
  rw [e]
  clear e
  generalize okPo c = Q at *
  go_enter Tryz.func100, Tryz.ntmps100
  go_upto_region 1 with fail
  obtain ⟨V, hV⟩ : ∃ V, w.alloc (Obj.cells (poA c) 31) = V := ⟨_, rfl⟩
  rw [hV] at hB x0 ⊢
  clear hV
  go_wp2_with fail
  refine (hok.out _).mono ?_
  rintro e w1 ⟨rfl, hb⟩
  have hb1 := hid (new_trans hB.out hb)
  clear hb hB x0
  cases Q
  · go_wp2
    go_ret
    exact ⟨rfl, hb1.out⟩
  · cases b
    · go_wp2
      go_ret
      exact ⟨rfl, hb1.out⟩
    · go_wp2
      go_ret
      exact ⟨rfl, hb1.out⟩
end Go.Proofs.YtghcagibdcblnaaGreatDoor

/- The kind of a port: what the specification and the program answer. -/
namespace Go.Proofs.YtghcagibdcblnaaGreatDoor
open Go.ChangeShapes Go.WideShapes Go.ChangeAt Go.RowKit
set_option linter.unusedVariables false
set_option linter.unusedSimpArgs false

/-- the program's tests, by kind -/
def lowB (n b : Nat) : Bool := Nat.ble n 127 && Nat.beq (Nat.land n 7) b
def ptN (n : Nat) : Nat → Bool
  | 0 => Nat.beq (n % 2) 0
  | 1 => lowB n 1
  | 2 => lowB n 5
  | 3 => lowB n 7
  | 4 => lowB n 3
  | _ => true
def kindN (n : Nat) : Nat := cond (ptN n 0) 0 (cond (ptN n 1) 1 (cond (ptN n 2) 2 (cond (ptN n 3) 3 (cond (ptN n 4) 4 5))))
theorem kind_of {n k : Nat} (hk : k < 6) (h : ∀ j, j < k → ptN n j = false) (ht : ptN n k = true) : kindN n = k := by
  have h0 := h 0
  have h1 := h 1
  have h2 := h 2
  have h3 := h 3
  have h4 := h 4
  unfold kindN
  rcases (by omega : k = 0 ∨ k = 1 ∨ k = 2 ∨ k = 3 ∨ k = 4 ∨ k = 5) with rfl | rfl | rfl | rfl | rfl | rfl
  · rw [ht]; rfl
  · rw [h0 (by omega), ht]; rfl
  · rw [h0 (by omega), h1 (by omega), ht]; rfl
  · rw [h0 (by omega), h1 (by omega), h2 (by omega), ht]; rfl
  · rw [h0 (by omega), h1 (by omega), h2 (by omega), h3 (by omega), ht]; rfl
  · rw [h0 (by omega), h1 (by omega), h2 (by omega), h3 (by omega), h4 (by omega)]; rfl
def kind2 (n : Int) : Value := if inB n 0 255 = true then .tuple #[.int .i64 (kindN n.toNat : Nat), .int .i64 0] else .tuple #[.int .i64 0, .int .i64 4]
theorem inByte {k : Int} (h : inB k 0 255 = true) : ∃ n : Nat, k = n ∧ n < 256 := by
  simp [inB] at h
  exact ⟨k.toNat, by omega, by omega⟩
end Go.Proofs.YtghcagibdcblnaaGreatDoor

/- What is told to the screen's port: specification and program. -/
namespace Go.Proofs.YtghcagibdcblnaaGreatDoor
open Go.ChangeShapes Go.WideShapes Go.ChangeAt Go.RowKit
set_option linter.unusedVariables false
set_option linter.unusedSimpArgs false

def micN (v : Nat) : Bool := !(Nat.beq (Nat.land v 8) 0)
def beepN (v : Nat) : Bool := !(Nat.beq (Nat.land v 16) 0)
def Po.ula (p : Po) (v : Nat) : Po := { p with border := (Nat.land v 7 : Nat), mic := micN v, beep := beepN v }
def ula2 (p : Po) (v : Int) : Po × Int := if okPo p = true then (if inB v 0 255 = true then (p.ula v.toNat, 0) else (zeP, 4)) else (zeP, 1)
theorem beq_int (a : Nat) : ((a : Int) == 0) = Nat.beq a 0 := by
  rw [Bool.eq_iff_iff]
  simp
theorem mic_of (v : Nat) (h : v < 65536) : (bits .and .i64 (v : Int) 8 != 0) = micN v := by
  rw [show bits .and .i64 (v : Int) 8 = (Nat.land v 8 : Nat) from bAnd v 8 h (by omega), bne, beq_int]
  rfl
theorem beep_of (v : Nat) (h : v < 65536) : (bits .and .i64 (v : Int) 16 != 0) = beepN v := by
  rw [show bits .and .i64 (v : Int) 16 = (Nat.land v 16 : Nat) from bAnd v 16 h (by omega), bne, beq_int]
  rfl
/-- the three fields that are told -/
theorem ula_cells (c : Po) (B : Int) (m b : Bool) : (((poA c).setIfInBounds 9 (.int .i64 B)).setIfInBounds 10 (.bool m)).setIfInBounds 11 (.bool b) = poA { c with border := B, mic := m, beep := b } := rfl
set_option maxRecDepth 100000 in
set_option maxHeartbeats 1000000 in
theorem ulaw_spec (c : Po) (v : Nat) (w : World) (hv : v < 65536) : Calls Tryz.prog 49 #[poV c, .int .i64 (v : Int)] w fun e w' => e = .returned (poV (c.ula v)) ∧ Below w.heap.size w w' := by
  have hs := hid (PSp.start w c 31 31)
  have r7 : bits .and .i64 (v : Int) 7 = (Nat.land v 7 : Nat) := bAnd v 7 (by omega) (by omega)
  have r8 := mic_of v (by omega)
  have r16 := beep_of v (by omega)
  have e : c.ula v = { c with border := (Nat.land v 7 : Nat), mic := micN v, beep := beepN v } := rfl
  rw [e]
  clear e
  generalize Nat.land v 7 = B at *
  generalize micN v = m at *
  generalize beepN v = b at *
  go_enter Tryz.func49, Tryz.ntmps49
  go_upto_region 1 with fail
  obtain ⟨V, hV⟩ : ∃ V, (w.alloc (.cells (poA c) 31)).alloc (.cells (poA zeP) 31) = V := ⟨_, rfl⟩
  rw [hV] at hs ⊢
  clear hV
  have z0 := hs.out.q0.cell
  have z1 := hs.out.q0.frozen
  have l0 := hs.out.q0.lt
  have hn := hid (((hs.out.set 9 (.int .i64 (B : Int))).set 10 (.bool m)).set 11 (.bool b))
  rw [ula_cells] at hn
  go_upto_region 4 with fail
  obtain ⟨W1, hW1⟩ : ∃ W1, ((V.setCell ⟨w.heap.size, 9, none⟩ (.int .i64 (B : Int))).setCell ⟨w.heap.size, 10, none⟩ (.bool m)).setCell ⟨w.heap.size, 11, none⟩ (.bool b) = W1 := ⟨_, rfl⟩
  rw [hW1] at hn ⊢
  clear hW1 z0 z1 hs
  have z2 := hn.out.q0.cell
  have y1 := hn.out.q1.cell
  have g1 := hn.out.q1.frozen
  have l1 := hn.out.q1.lt
  go_wp2
  refine bodyPost_ret (v := poV { c with border := B, mic := m, beep := b }) (by simp [results, Tryz.results49, go_sem, y1]) rfl ⟨rfl, ?_⟩
  repeat refine Below.setCell ?_ (by first | omega | (simp; done) | (simp; omega)) _
  exact hn.out.bel
set_option maxRecDepth 100000 in
set_option maxHeartbeats 4000000 in
theorem ula_impl (c : Po) (v : Int) (w : World) : Calls Tryz.prog 89 #[poV c, .int .i64 v] w fun e w' => e = .returned (ans2 (ula2 c v)) ∧ Below w.heap.size w w' := by
  have hs := hid (PSp.start w c 31 31)
  have x0 := hs.out.q0.cell
  have hpf := hid (fun w1 => pfault_impl c (inB v 0 255) w1)
  cases hc : okPo c
  · have e : ula2 c v = (zeP, 1) := by unfold ula2; rw [hc]; rfl
    rw [e]
    have e2 : ∀ b, pfN c b = 1 := fun b => by unfold pfN; rw [hc]; rfl
    rw [e2] at hpf
    clear e e2
    cases hr : inB v 0 255
    all_goals
      rw [hr] at hpf
      go_enter Tryz.func89, Tryz.ntmps89
      go_upto_region 1 with fail
      obtain ⟨V, hV⟩ : ∃ V, (w.alloc (.cells (poA c) 31)).alloc (.cells (poA zeP) 31) = V := ⟨_, rfl⟩
      rw [hV] at hs x0 ⊢
      clear hV
      go_region_with (first | (go_at_call 52; refine (isbP_impl _ _).mono ?_; rintro e w' ⟨rfl, hww⟩; obtain rfl := hww.symm; rw [hr]) | (go_at_call 100; refine (hpf.out _).mono ?_; rintro e w1 ⟨rfl, hb⟩; first | (have h1 := hid (hs.out.below hb)) | (have h1 := hid (hs.out.drew.below hb)); clear hb))
      all_goals
        have y1 := h1.out.q1.cell
        have g1 := h1.out.q1.frozen
        have l1 := h1.out.q1.lt
        go_wp2
        refine bodyPost_ret (v := ans2 (zeP, 1)) (by simp [results, Tryz.results89, go_sem, y1]) rfl ⟨rfl, ?_⟩
        repeat refine Below.setCell ?_ (by first | omega | (simp; done) | (simp; omega)) _
        exact h1.out.bel
  · have e1 : ∀ b, pfN c b = if b = true then 0 else 4 := fun b => by unfold pfN; rw [hc]; rfl
    cases hr : inB v 0 255
    · have e : ula2 c v = (zeP, 4) := by unfold ula2; rw [hc, hr]; rfl
      rw [e]
      rw [hr, e1, if_neg (by simp)] at hpf
      clear e e1
      go_enter Tryz.func89, Tryz.ntmps89
      go_upto_region 1 with fail
      obtain ⟨V, hV⟩ : ∃ V, (w.alloc (.cells (poA c) 31)).alloc (.cells (poA zeP) 31) = V := ⟨_, rfl⟩
      rw [hV] at hs x0 ⊢
      clear hV
      go_region_with (first | (go_at_call 52; refine (isbP_impl _ _).mono ?_; rintro e w' ⟨rfl, hww⟩; obtain rfl := hww.symm; rw [hr]) | (go_at_call 100; refine (hpf.out _).mono ?_; rintro e w1 ⟨rfl, hb⟩; first | (have h1 := hid (hs.out.below hb)) | (have h1 := hid (hs.out.drew.below hb)); clear hb))
      all_goals
        have y1 := h1.out.q1.cell
        have g1 := h1.out.q1.frozen
        have l1 := h1.out.q1.lt
        go_wp2
        refine bodyPost_ret (v := ans2 (zeP, 4)) (by simp [results, Tryz.results89, go_sem, y1]) rfl ⟨rfl, ?_⟩
        repeat refine Below.setCell ?_ (by first | omega | (simp; done) | (simp; omega)) _
        exact h1.out.bel
    · obtain ⟨v, rfl, hn⟩ := inByte hr
      have e : ula2 c (v : Int) = (c.ula v, 0) := by unfold ula2; rw [hc, hr]; simp only [if_true, Int.toNat_natCast]
      rw [e]
      rw [hr, e1, if_pos rfl] at hpf
      clear e e1
      have r7 : bits .and .i64 (v : Int) 7 = (Nat.land v 7 : Nat) := bAnd v 7 (by omega) (by omega)
      have r8 := mic_of v (by omega)
      have r16 := beep_of v (by omega)
      have e : c.ula v = { c with border := (Nat.land v 7 : Nat), mic := micN v, beep := beepN v } := rfl
      rw [e]
      clear e
      generalize Nat.land v 7 = B at *
      generalize micN v = m at *
      generalize beepN v = b at *
      go_enter Tryz.func89, Tryz.ntmps89
      go_upto_region 1 with fail
      obtain ⟨V, hV⟩ : ∃ V, (w.alloc (.cells (poA c) 31)).alloc (.cells (poA zeP) 31) = V := ⟨_, rfl⟩
      rw [hV] at hs x0 ⊢
      clear hV
      go_region_with (first | (go_at_call 52; refine (isbP_impl _ _).mono ?_; rintro e w' ⟨rfl, hww⟩; obtain rfl := hww.symm; rw [hr]) | (go_at_call 100; refine (hpf.out _).mono ?_; rintro e w1 ⟨rfl, hb⟩; first | (have h1 := hid (hs.out.below hb)) | (have h1 := hid (hs.out.drew.below hb)); clear hb))
      all_goals
        clear hs x0
        have z0 := h1.out.q0.cell
        have z1 := h1.out.q0.frozen
        have l0 := h1.out.q0.lt
        have hn := hid (((h1.out.set 9 (.int .i64 (B : Int))).set 10 (.bool m)).set 11 (.bool b))
        rw [ula_cells] at hn
        go_upto_region 7 with fail
        obtain ⟨W1, hW1⟩ : ∃ W1, ((w1.setCell ⟨w.heap.size, 9, none⟩ (.int .i64 (B : Int))).setCell ⟨w.heap.size, 10, none⟩ (.bool m)).setCell ⟨w.heap.size, 11, none⟩ (.bool b) = W1 := ⟨_, rfl⟩
        rw [hW1] at hn ⊢
        clear hW1 z0 z1 h1
        have z2 := hn.out.q0.cell
        have y1 := hn.out.q1.cell
        have g1 := hn.out.q1.frozen
        have l1 := hn.out.q1.lt
        go_wp2
        refine bodyPost_ret (v := ans2 ({ c with border := B, mic := m, beep := b }, 0)) (by simp [results, Tryz.results89, go_sem, y1]) rfl ⟨rfl, ?_⟩
        repeat refine Below.setCell ?_ (by first | omega | (simp; done) | (simp; omega)) _
        exact hn.out.bel
end Go.Proofs.YtghcagibdcblnaaGreatDoor

/- Ports that the laws draw: they are right. -/
namespace Go.Proofs.YtghcagibdcblnaaGreatDoor
open Go.ChangeShapes Go.WideShapes Go.ChangeAt Go.RowKit
set_option linter.unusedVariables false
set_option linter.unusedSimpArgs false

theorem okPo_iff (c : Po) : okPo c = true ↔ (∀ i, i < 8 → 0 ≤ c.key i ∧ c.key i ≤ 31) ∧ (0 ≤ c.joy ∧ c.joy ≤ 31) ∧ (0 ≤ c.border ∧ c.border ≤ 7) := by
  unfold okPo keysB
  simp only [Bool.and_eq_true, List.all_eq_true, List.mem_range, inB, decide_eq_true_eq]
  constructor
  · rintro ⟨⟨h1, h2⟩, h3⟩
    exact ⟨h1, h2, h3⟩
  · rintro ⟨h1, h2, h3⟩
    exact ⟨⟨h1, h2⟩, h3⟩
theorem okPo_put {c : Po} (h : okPo c = true) (k : Nat) (v : Int) (h0 : 0 ≤ v) (h1 : v ≤ 31) : okPo (c.put v k) = true := by
  rw [okPo_iff] at h ⊢
  obtain ⟨hr, hj, hb⟩ := h
  refine ⟨fun i hi => ?_, ?_⟩
  · have := hr i hi
    rcases eight hi with rfl | rfl | rfl | rfl | rfl | rfl | rfl | rfl <;> (unfold Po.put; split <;> simp only [Po.key] at this ⊢ <;> omega)
  · unfold Po.put
    split <;> exact ⟨hj, hb⟩
theorem okPo_joy {c : Po} (h : okPo c = true) (v : Int) (h0 : 0 ≤ v) (h1 : v ≤ 31) : okPo { c with joy := v } = true := by
  rw [okPo_iff] at h ⊢
  obtain ⟨hr, hj, hb⟩ := h
  refine ⟨fun i hi => ?_, ⟨h0, h1⟩, hb⟩
  have := hr i hi
  rcases eight hi with rfl | rfl | rfl | rfl | rfl | rfl | rfl | rfl <;> exact this
theorem okPo_ula {c : Po} (h : okPo c = true) (v : Nat) : okPo (c.ula v) = true := by
  rw [okPo_iff] at h ⊢
  obtain ⟨hr, hj, hb⟩ := h
  refine ⟨fun i hi => ?_, hj, ?_⟩
  · have := hr i hi
    rcases eight hi with rfl | rfl | rfl | rfl | rfl | rfl | rfl | rfl <;> exact this
  · have : Nat.land v 7 ≤ 7 := Nat.and_le_right
    show (0 : Int) ≤ ((Nat.land v 7 : Nat) : Int) ∧ ((Nat.land v 7 : Nat) : Int) ≤ 7
    omega
theorem okPo_new : okPo neP = true := by decide
theorem grow2 {a b c : World} {p : Nat} (h : a.grownBy b (some p)) (k : b.grownBy c (some p)) : a.grownBy c (some p) :=
  ⟨k.os.trans h.os, k.tape.trans h.tape, k.output.trans h.output, Nat.le_trans h.size k.size, fun i hi hne => (k.block i (Nat.lt_of_lt_of_le hi h.size) hne).trans (h.block i hi hne)⟩
theorem growO {w W : World} {p b i : Nat} {u : Value} (h : w.grownBy W (some p)) (hb : w.heap.size ≤ b) : w.grownBy (W.setCell ⟨b, i, none⟩ u) (some p) :=
  ⟨h.os, h.tape, h.output, by have := h.size; simpa [World.setCell] using this, fun k hk hne => by
    rw [Below.heap_setCell _ _ _ _ (by simp; omega)]
    exact h.block k hk hne⟩
theorem growB {w W : World} {p : Nat} (h : Below w.heap.size w W) : w.grownBy W (some p) :=
  ⟨h.os, h.tape, h.output, h.size, fun k hk _ => h.block k hk⟩
theorem Src.setP {W : World} {p : Nat} {a : Option Addr} {len cap nn b i : Nat} {u : Value} (h : Src W p a len cap nn) (hb : p < b) : Src (W.setCell ⟨b, i, none⟩ u) p a len cap nn :=
  h.kept (r := some b) ⟨rfl, rfl, rfl, by simp [World.setCell], fun k hk hne => Below.heap_setCell _ _ _ _ (by intro e; exact hne (by rw [e]))⟩ (by intro g e; cases e; exact hb)
/-- while ports are being drawn -/
structure QSt (w W : World) (p : Nat) (a : Option Addr) (len cap nn bm : Nat) (A : Array Value) : Prop where
  src : Src W p a len cap nn
  ord : p < w.heap.size ∧ w.heap.size < bm ∧ bm < W.heap.size
  q0 : Blk W w.heap.size (poA zeP)
  qm : Blk W bm A
  gro : w.grownBy W (some p)
theorem QSt.next {w W W' : World} {p : Nat} {a : Option Addr} {len cap nn nn' bm : Nat} {A : Array Value} (h : QSt w W p a len cap nn bm A) (hg : W.grownBy W' (some p)) (hs : Src W' p a len cap nn') : QSt w W' p a len cap nn' bm A := by
  obtain ⟨_, ⟨o1, o2, o3⟩, q0, qm, gro⟩ := h
  have hz := hg.size
  exact ⟨hs, ⟨o1, o2, by omega⟩, q0.grown hg (by simp; omega), qm.grown hg (by simp; omega), grow2 gro hg⟩
theorem QSt.set {w W : World} {p : Nat} {a : Option Addr} {len cap nn bm : Nat} {A : Array Value} (h : QSt w W p a len cap nn bm A) (i : Nat) (u : Value) : QSt w (W.setCell ⟨bm, i, none⟩ u) p a len cap nn bm (A.setIfInBounds i u) := by
  obtain ⟨src, ⟨o1, o2, o3⟩, q0, qm, gro⟩ := h
  exact ⟨src.setP (by omega), ⟨o1, o2, by rw [sizeSet]; exact o3⟩, q0.other (by simp; omega) _, qm.set i u, growO gro (by omega)⟩
theorem QSt.below {w W W' : World} {p : Nat} {a : Option Addr} {len cap nn bm : Nat} {A : Array Value} (h : QSt w W p a len cap nn bm A) (hb : Below W.heap.size W W') : QSt w W' p a len cap nn bm A :=
  h.next (growB hb) (h.src.kept (r := none) ⟨hb.os, hb.tape, hb.output, hb.size, fun k hk _ => hb.block k hk⟩ (by intro g e; cases e))
theorem QSt.drew {w W : World} {p : Nat} {a : Option Addr} {len cap nn bm : Nat} {A : Array Value} (h : QSt w W p a len cap nn bm A) : QSt w W.drew p a len cap nn bm A := h.below ⟨rfl, rfl, rfl, Nat.le_refl _, fun _ _ => rfl⟩
set_option maxRecDepth 100000 in
set_option maxHeartbeats 4000000 in
theorem ports_any (p : Nat) (a : Option Addr) (len cap nn : Nat) (w : World) (hs : Src w p a len cap nn) (hn : nn ≤ 100000) :
    Calls Tryz.prog 22 #[.pointer (some ⟨p, 0, none⟩)] w fun e w' => ∃ c : Po, e = .returned (poV c) ∧ okPo c = true ∧ (∃ n', n' ≤ nn + 2000 ∧ Src w' p a len cap n') ∧ w.grownBy w' (some p) := by
  have hp := hs.lt
  replace hs := hid hs
  go_enter Tryz.func22, Tryz.ntmps22
  go_wp2_with fail
  refine (newpo_spec _).mono ?_
  rintro e w1 ⟨rfl, hb1⟩
  have hB1 : Below w.heap.size w w1 := ((Below.refl _ _).alloc (Nat.le_refl _) _).trans (hb1.mono (by simp))
  have hq := (Blk.new w (poA zeP) 31).below hb1 (by simp)
  have hz := hq.lt
  have S0 : QSt w (w1.alloc (.cells (poA neP) 31)) p a len cap nn w1.heap.size (poA neP) := by
    have hB2 : Below w.heap.size w (w1.alloc (.cells (poA neP) 31)) := hB1.alloc hB1.size _
    exact ⟨hs.out.kept (r := none) ⟨hB2.os, hB2.tape, hB2.output, hB2.size, fun k hk _ => hB2.block k hk⟩ (by intro g e; cases e), ⟨hp, hz, by simp⟩, hq.alloc _, Blk.new w1 _ _, growB hB2⟩
  replace S0 := hid S0
  clear hb1 hB1 hq hs
  go_upto_region 2 with fail
  obtain ⟨W1, hW1⟩ : ∃ W1, w1.alloc (.cells (poA neP) 31) = W1 := ⟨_, rfl⟩
  obtain ⟨bm, hbm⟩ : ∃ bm, w1.heap.size = bm := ⟨_, rfl⟩
  rw [hW1, hbm] at S0
  rw [hW1, hbm]
  clear hW1 hbm hz
  go_wp2_with fail
  refine (next_any p a len cap nn 4 _ S0.out.src (by omega)).mono ?_
  rintro e w2 ⟨⟨v2, rfl, g20, _, g21⟩, ⟨n2, hn2, hs2⟩, hg2⟩
  have S2 := hid (S0.out.next hg2 hs2)
  obtain ⟨v2, rfl⟩ : ∃ m : Nat, v2 = m := ⟨v2.toNat, by omega⟩
  have b2 := g21 (by omega)
  clear hg2 g21 hs2 S0
  go_wp2
  go_loopw [4] (fun i wr => ∃ (k nk : Nat) (c : Po), k ≤ 3 ∧ i = .int .i64 k ∧ nk + 6 * k ≤ nn + 100 ∧ okPo c = true ∧ QSt w wr p a len cap nk bm (poA c)) (fun i _ => (intOf i).toNat)
  case atStart => exact ⟨v2, n2, neP, by omega, rfl, by omega, okPo_new, S2.out⟩
  case round =>
    obtain ⟨k, nk, c, hk, rfl, hnk, hok, hS⟩ := hrel
    clear S2 b2 g20 hn2
    by_cases hlt : 0 < k
    · replace hS := hid hS
      replace hok := hid hok
      go_wp2_with fail
      refine (next_any p a len cap nk 8 _ hS.out.src (by omega)).mono ?_
      rintro e w5 ⟨⟨v5, rfl, g50, _, g51⟩, ⟨n5, hn5, hs5⟩, hg5⟩
      have S5 := hid (hS.out.next hg5 hs5)
      obtain ⟨r, rfl⟩ : ∃ m : Nat, v5 = m := ⟨v5.toNat, by omega⟩
      have b5 := g51 (by omega)
      clear hg5 g51 hs5 hS
      go_wp2_with fail
      refine (next_any p a len cap n5 32 _ S5.out.src (by omega)).mono ?_
      rintro e w6 ⟨⟨v6, rfl, g60, _, g61⟩, ⟨n6, hn6, hs6⟩, hg6⟩
      have S6 := S5.out.next hg6 hs6
      have b6 := g61 (by omega)
      have hr8 : r < 8 := by omega
      have xm := S6.qm.cell r
      rw [poA_at c r hr8] at xm
      have fm := S6.qm.frozen r
      have hE := hid (S6.set r (.int .i64 v6))
      rw [poA_put c r v6 hr8] at hE
      have hB := hid (okPo_put hok.out r v6 (by omega) (by omega))
      clear hg6 g61 hs6 S5 S6
      generalize c.key r = y at *
      go_wp2
      go_roundw
      case rel => exact ⟨k - 1, n6, _, by omega, by go_num, by omega, hB.out, hE.out⟩
      case measure => simp [intOf]; omega
    · obtain rfl : k = 0 := by omega
      replace hS := hid hS
      replace hok := hid hok
      go_wp2_with fail
      refine (next_any p a len cap nk 32 _ hS.out.src (by omega)).mono ?_
      rintro e w5 ⟨⟨v5, rfl, g50, _, g51⟩, ⟨n5, hn5, hs5⟩, hg5⟩
      have S5 := hS.out.next hg5 hs5
      have b5 := g51 (by omega)
      have x5 := S5.qm.cell
      have f5 := S5.qm.frozen
      have S6 := hid (S5.set 8 (.int .i64 v5))
      have eA : (poA c).setIfInBounds 8 (.int .i64 v5) = poA { c with joy := v5 } := rfl
      rw [eA] at S6
      have hok2 := hid (okPo_joy hok.out v5 (by omega) (by omega))
      clear hg5 g51 hs5 hS S5 eA hok
      generalize { c with joy := v5 } = d at *
      go_upto_region 7 with fail
      obtain ⟨W6, hW6⟩ : ∃ W6, w5.setCell ⟨bm, 8, none⟩ (.int .i64 v5) = W6 := ⟨_, rfl⟩
      rw [hW6] at S6 ⊢
      clear hW6 x5 f5
      have x6 := S6.out.qm.cell
      have hord := S6.out.ord
      have hR : Hid (∀ W, QSt w W p a len cap n5 bm (poA d) → Calls Tryz.prog 25 #[.pointer (some ⟨p, 0, none⟩), .int .i64 32] W fun e w' => ∃ v : Nat, e = .returned (.int .i64 (v : Int)) ∧ v < 32 ∧ ∃ n', n' ≤ n5 + 3 ∧ QSt w w' p a len cap n' bm (poA d)) := fun W hQ => by
        refine (next_any p a len cap n5 32 _ hQ.src (by omega)).mono ?_
        rintro e w7 ⟨⟨v7, rfl, g70, _, g71⟩, ⟨n7, hn7, hs7⟩, hg7⟩
        have := g71 (by omega)
        exact ⟨v7.toNat, by rw [Int.toNat_of_nonneg g70], by omega, n7, hn7, hQ.next hg7 hs7⟩
      go_region_with (first | (go_at_call 25; refine (hR.out _ (by first | exact S6.out | exact S6.out.drew)).mono ?_; rintro e w7 ⟨v7, rfl, hv7, n7, hn7, hS7⟩; have x7 := hS7.qm.cell; replace hS7 := hid hS7) | (go_at_call 49; refine (ulaw_spec d v7 _ (by omega)).mono ?_; rintro e w8 ⟨rfl, hb8⟩; have hS8 := hid (hS7.out.below hb8); have y8 := hS8.out.q0.cell; have f8 := hS8.out.q0.frozen; have l8 := hS8.out.q0.lt; clear hb8 x7))
      all_goals
        have hok3 := hid (okPo_ula hok2.out v7)
        obtain ⟨C, hC⟩ : ∃ C, d.ula v7 = C := ⟨_, rfl⟩
        rw [hC] at hok3
        go_wp2
        refine bodyPost_ret (v := poV C) (by simp [results, Tryz.results22, go_sem, y8, hC]) rfl ⟨_, rfl, hok3.out, ⟨n7, by omega, ?_⟩, ?_⟩
        · iterate 12 refine Src.setP ?_ (by omega)
          exact hS8.out.src
        · iterate 12 refine growO ?_ (Nat.le_refl _)
          exact hS8.out.gro
end Go.Proofs.YtghcagibdcblnaaGreatDoor
