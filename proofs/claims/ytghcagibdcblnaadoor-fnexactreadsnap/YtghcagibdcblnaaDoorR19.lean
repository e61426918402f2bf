/- A key that is pressed or let go: what the specification and the program answer. -/
import Derived.Test.YtghcagibdcblnaaDoorR08
import Derived.Laws.EntriesVeiled
import Derived.BigRegion
import Derived.Deep.RegionWith
namespace Go.Proofs.YtghcagibdcblnaaDoor
open Go.ChangeShapes Go.WideShapes Go.ChangeAt Go.RowKit
set_option linter.unusedVariables false
set_option linter.unusedSimpArgs false

def upN (x k : Nat) : Nat := Nat.lor x (Nat.pow 2 k)
def dnN (x k : Nat) : Nat := Nat.sub x (Nat.land x (Nat.pow 2 k))
def keyN (x k : Nat) (down : Bool) : Nat := cond down (dnN x k) (upN x k)
def press2 (p : Po) (row key : Int) (down : Bool) : Po × Int := if okPo p = true then (if (inB row 0 7 && inB key 0 4) = true then (p.put (keyN (p.key row.toNat).toNat key.toNat down : Nat) row.toNat, 0) else (zeP, 4)) else (zeP, 1)
abbrev ans2 (r : Po × Int) : Value := .tuple #[poV r.1, .int .i64 r.2]
def allE (p : Nat → Nat → Bool) : Bool := allB 32 fun x => p x 0 && p x 1 && p x 2 && p x 3 && p x 4
theorem upN_lt : ∀ x : Nat, x < 32 → ∀ k : Nat, k < 5 → upN x k < 32 := by decide +kernel
theorem dnN_lt : ∀ x : Nat, x < 32 → ∀ k : Nat, k < 5 → dnN x k < 32 := by decide +kernel
theorem dn_0 : ∀ x : Nat, x < 32 → bits .andNot .i64 (x : Int) 1 = (dnN x 0 : Nat) ∧ dnN (upN x 0) 0 = dnN x 0 := by decide +kernel
theorem dn_1 : ∀ x : Nat, x < 32 → bits .andNot .i64 (x : Int) 2 = (dnN x 1 : Nat) ∧ dnN (upN x 1) 1 = dnN x 1 := by decide +kernel
theorem dn_2 : ∀ x : Nat, x < 32 → bits .andNot .i64 (x : Int) 4 = (dnN x 2 : Nat) ∧ dnN (upN x 2) 2 = dnN x 2 := by decide +kernel
theorem dn_3 : ∀ x : Nat, x < 32 → bits .andNot .i64 (x : Int) 8 = (dnN x 3 : Nat) ∧ dnN (upN x 3) 3 = dnN x 3 := by decide +kernel
theorem dn_4 : ∀ x : Nat, x < 32 → bits .andNot .i64 (x : Int) 16 = (dnN x 4 : Nat) ∧ dnN (upN x 4) 4 = dnN x 4 := by decide +kernel
/-- ports in a block, and room for an answer behind it -/
structure PSp (w W : World) (A : Array Value) : Prop where
  q0 : Blk W w.heap.size A
  q1 : Blk W (w.heap.size + 1) (poA zeP)
  bel : Below w.heap.size w W
theorem PSp.start (w : World) (c : Po) (t t1 : TypeId) : PSp w ((w.alloc (.cells (poA c) t)).alloc (.cells (poA zeP) t1)) (poA c) := by
  obtain ⟨q0, q1, hB⟩ := two_in (w := w) (poA c) (poA zeP) t t1
  exact ⟨q0, q1, hB⟩
theorem PSp.below {w W W' : World} {A : Array Value} (h : PSp w W A) (hb : Below W.heap.size W W') : PSp w W' A :=
  ⟨h.q0.below hb h.q0.lt, h.q1.below hb h.q1.lt, h.bel.trans (hb.mono h.bel.size)⟩
theorem PSp.drew {w W : World} {A : Array Value} (h : PSp w W A) : PSp w W.drew A := h.below ⟨rfl, rfl, rfl, Nat.le_refl _, fun _ _ => rfl⟩
theorem PSp.set {w W : World} {A : Array Value} (h : PSp w W A) (i : Nat) (u : Value) : PSp w (W.setCell ⟨w.heap.size, i, none⟩ u) (A.setIfInBounds i u) :=
  ⟨h.q0.set i u, h.q1.other (by simp) u, h.bel.setCell (p := ⟨w.heap.size, i, none⟩) (Nat.le_refl _) u⟩
theorem poA_put_at (c : Po) (k : Nat) (v : Int) (hk : k < 8) : (poA (c.put v k))[k]? = some (.int .i64 v) := by
  rcases eight hk with rfl | rfl | rfl | rfl | rfl | rfl | rfl | rfl <;> rfl
theorem put_put (c : Po) (k : Nat) (u v : Int) (hk : k < 8) : (c.put u k).put v k = c.put v k := by
  rcases eight hk with rfl | rfl | rfl | rfl | rfl | rfl | rfl | rfl <;> rfl
def pfN (c : Po) (b : Bool) : Int := if okPo c = true then (if b = true then 0 else 4) else 1
set_option maxRecDepth 100000 in
theorem pfault_impl (c : Po) (b : Bool) (w : World) : Calls Tryd.prog 65 #[poV c, .bool b] w fun e w' => e = .returned (.int .i64 (pfN c b)) ∧ Below w.heap.size w w' := by
  have hB := hid ((Below.refl w.heap.size w).alloc (Nat.le_refl _) (.cells (poA c) 30))
  have x0 := (Blk.new w (poA c) 30).cell
  have hok := hid (fun w1 => pok_impl c w1)
  have e : pfN c b = if okPo c = true then (if b = true then 0 else 4) else 1 := rfl
  rw [e]
  clear e
  generalize okPo c = Q at *
  go_enter Tryd.func65, Tryd.ntmps65
  go_upto_region 1 with fail
  obtain ⟨V, hV⟩ : ∃ V, w.alloc (Obj.cells (poA c) 30) = V := ⟨_, rfl⟩
  rw [hV] at hB x0 ⊢
  clear hV
  go_wp2_with fail
  refine (hok.out _).mono ?_
  rintro e w1 ⟨rfl, hb⟩
  have hb1 := hid (new_trans hB.out hb)
  clear hb hB x0
  cases Q
  · go_wp2
    go_ret
    exact ⟨rfl, hb1.out⟩
  · cases b
    · go_wp2
      go_ret
      exact ⟨rfl, hb1.out⟩
    · go_wp2
      go_ret
      exact ⟨rfl, hb1.out⟩
end Go.Proofs.YtghcagibdcblnaaDoor

/- The kind of a port: what the specification and the program answer. -/
namespace Go.Proofs.YtghcagibdcblnaaDoor
open Go.ChangeShapes Go.WideShapes Go.ChangeAt Go.RowKit
set_option linter.unusedVariables false
set_option linter.unusedSimpArgs false

/-- the program's tests, by kind -/
def lowB (n b : Nat) : Bool := Nat.ble n 127 && Nat.beq (Nat.land n 7) b
def ptN (n : Nat) : Nat → Bool
  | 0 => Nat.beq (n % 2) 0
  | 1 => lowB n 1
  | 2 => lowB n 5
  | 3 => lowB n 7
  | 4 => lowB n 3
  | _ => true
def kindN (n : Nat) : Nat := cond (ptN n 0) 0 (cond (ptN n 1) 1 (cond (ptN n 2) 2 (cond (ptN n 3) 3 (cond (ptN n 4) 4 5))))
theorem kind_of {n k : Nat} (hk : k < 6) (h : ∀ j, j < k → ptN n j = false) (ht : ptN n k = true) : kindN n = k := by
  have h0 := h 0
  have h1 := h 1
  have h2 := h 2
  have h3 := h 3
  have h4 := h 4
  unfold kindN
  rcases (by omega : k = 0 ∨ k = 1 ∨ k = 2 ∨ k = 3 ∨ k = 4 ∨ k = 5) with rfl | rfl | rfl | rfl | rfl | rfl
  · rw [ht]; rfl
  · rw [h0 (by omega), ht]; rfl
  · rw [h0 (by omega), h1 (by omega), ht]; rfl
  · rw [h0 (by omega), h1 (by omega), h2 (by omega), ht]; rfl
  · rw [h0 (by omega), h1 (by omega), h2 (by omega), h3 (by omega), ht]; rfl
  · rw [h0 (by omega), h1 (by omega), h2 (by omega), h3 (by omega), h4 (by omega)]; rfl
def kind2 (n : Int) : Value := if inB n 0 255 = true then .tuple #[.int .i64 (kindN n.toNat : Nat), .int .i64 0] else .tuple #[.int .i64 0, .int .i64 4]
theorem inByte {k : Int} (h : inB k 0 255 = true) : ∃ n : Nat, k = n ∧ n < 256 := by
  simp [inB] at h
  exact ⟨k.toNat, by omega, by omega⟩
end Go.Proofs.YtghcagibdcblnaaDoor

/- What is told to the screen's port: specification and program. -/
namespace Go.Proofs.YtghcagibdcblnaaDoor
open Go.ChangeShapes Go.WideShapes Go.ChangeAt Go.RowKit
set_option linter.unusedVariables false
set_option linter.unusedSimpArgs false

def micN (v : Nat) : Bool := !(Nat.beq (Nat.land v 8) 0)
def beepN (v : Nat) : Bool := !(Nat.beq (Nat.land v 16) 0)
def Po.ula (p : Po) (v : Nat) : Po := { p with border := (Nat.land v 7 : Nat), mic := micN v, beep := beepN v }
def ula2 (p : Po) (v : Int) : Po × Int := if okPo p = true then (if inB v 0 255 = true then (p.ula v.toNat, 0) else (zeP, 4)) else (zeP, 1)
theorem beq_int (a : Nat) : ((a : Int) == 0) = Nat.beq a 0 := by
  rw [Bool.eq_iff_iff]
  simp
theorem mic_of (v : Nat) (h : v < 65536) : (bits .and .i64 (v : Int) 8 != 0) = micN v := by
  rw [show bits .and .i64 (v : Int) 8 = (Nat.land v 8 : Nat) from bAnd v 8 h (by omega), bne, beq_int]
  rfl
theorem beep_of (v : Nat) (h : v < 65536) : (bits .and .i64 (v : Int) 16 != 0) = beepN v := by
  rw [show bits .and .i64 (v : Int) 16 = (Nat.land v 16 : Nat) from bAnd v 16 h (by omega), bne, beq_int]
  rfl
/-- the three fields that are told -/
theorem ula_cells (c : Po) (B : Int) (m b : Bool) : (((poA c).setIfInBounds 9 (.int .i64 B)).setIfInBounds 10 (.bool m)).setIfInBounds 11 (.bool b) = poA { c with border := B, mic := m, beep := b } := rfl
set_option maxRecDepth 100000 in
set_option maxHeartbeats 1000000 in
theorem ulaw_spec (c : Po) (v : Nat) (w : World) (hv : v < 65536) : Calls Tryd.prog 18 #[poV c, .int .i64 (v : Int)] w fun e w' => e = .returned (poV (c.ula v)) ∧ Below w.heap.size w w' := by
  have hs := hid (PSp.start w c 30 30)
  have r7 : bits .and .i64 (v : Int) 7 = (Nat.land v 7 : Nat) := bAnd v 7 (by omega) (by omega)
  have r8 := mic_of v (by omega)
  have r16 := beep_of v (by omega)
  have e : c.ula v = { c with border := (Nat.land v 7 : Nat), mic := micN v, beep := beepN v } := rfl
  rw [e]
  clear e
  generalize Nat.land v 7 = B at *
  generalize micN v = m at *
  generalize beepN v = b at *
  go_enter Tryd.func18, Tryd.ntmps18
  go_upto_region 1 with fail
  obtain ⟨V, hV⟩ : ∃ V, (w.alloc (.cells (poA c) 30)).alloc (.cells (poA zeP) 30) = V := ⟨_, rfl⟩
  rw [hV] at hs ⊢
  clear hV
  have z0 := hs.out.q0.cell
  have z1 := hs.out.q0.frozen
  have l0 := hs.out.q0.lt
  have hn := hid (((hs.out.set 9 (.int .i64 (B : Int))).set 10 (.bool m)).set 11 (.bool b))
  rw [ula_cells] at hn
  go_upto_region 4 with fail
  obtain ⟨W1, hW1⟩ : ∃ W1, ((V.setCell ⟨w.heap.size, 9, none⟩ (.int .i64 (B : Int))).setCell ⟨w.heap.size, 10, none⟩ (.bool m)).setCell ⟨w.heap.size, 11, none⟩ (.bool b) = W1 := ⟨_, rfl⟩
  rw [hW1] at hn ⊢
  clear hW1 z0 z1 hs
  have z2 := hn.out.q0.cell
  have y1 := hn.out.q1.cell
  have g1 := hn.out.q1.frozen
  have l1 := hn.out.q1.lt
  go_wp2
  refine bodyPost_ret (v := poV { c with border := B, mic := m, beep := b }) (by simp [results, Tryd.results18, go_sem, y1]) rfl ⟨rfl, ?_⟩
  repeat refine Below.setCell ?_ (by first | omega | (simp; done) | (simp; omega)) _
  exact hn.out.bel
set_option maxRecDepth 100000 in
set_option maxHeartbeats 4000000 in
theorem ula_impl (c : Po) (v : Int) (w : World) : Calls Tryd.prog 56 #[poV c, .int .i64 v] w fun e w' => e = .returned (ans2 (ula2 c v)) ∧ Below w.heap.size w w' := by
  have hs := hid (PSp.start w c 30 30)
  have x0 := hs.out.q0.cell
  have hpf := hid (fun w1 => pfault_impl c (inB v 0 255) w1)
  cases hc : okPo c
  · have e : ula2 c v = (zeP, 1) := by unfold ula2; rw [hc]; rfl
    rw [e]
    have e2 : ∀ b, pfN c b = 1 := fun b => by unfold pfN; rw [hc]; rfl
    rw [e2] at hpf
    clear e e2
    cases hr : inB v 0 255
    all_goals
      rw [hr] at hpf
      go_enter Tryd.func56, Tryd.ntmps56
      go_upto_region 1 with fail
      obtain ⟨V, hV⟩ : ∃ V, (w.alloc (.cells (poA c) 30)).alloc (.cells (poA zeP) 30) = V := ⟨_, rfl⟩
      rw [hV] at hs x0 ⊢
      clear hV
      go_region_with (first | (go_at_call 58; refine (isbP_impl _ _).mono ?_; rintro e w' ⟨rfl, hww⟩; obtain rfl := hww.symm; rw [hr]) | (go_at_call 65; refine (hpf.out _).mono ?_; rintro e w1 ⟨rfl, hb⟩; first | (have h1 := hid (hs.out.below hb)) | (have h1 := hid (hs.out.drew.below hb)); clear hb))
      all_goals
        have y1 := h1.out.q1.cell
        have g1 := h1.out.q1.frozen
        have l1 := h1.out.q1.lt
        go_wp2
        refine bodyPost_ret (v := ans2 (zeP, 1)) (by simp [results, Tryd.results56, go_sem, y1]) rfl ⟨rfl, ?_⟩
        repeat refine Below.setCell ?_ (by first | omega | (simp; done) | (simp; omega)) _
        exact h1.out.bel
  · have e1 : ∀ b, pfN c b = if b = true then 0 else 4 := fun b => by unfold pfN; rw [hc]; rfl
    cases hr : inB v 0 255
    · have e : ula2 c v = (zeP, 4) := by unfold ula2; rw [hc, hr]; rfl
      rw [e]
      rw [hr, e1, if_neg (by simp)] at hpf
      clear e e1
      go_enter Tryd.func56, Tryd.ntmps56
      go_upto_region 1 with fail
      obtain ⟨V, hV⟩ : ∃ V, (w.alloc (.cells (poA c) 30)).alloc (.cells (poA zeP) 30) = V := ⟨_, rfl⟩
      rw [hV] at hs x0 ⊢
      clear hV
      go_region_with (first | (go_at_call 58; refine (isbP_impl _ _).mono ?_; rintro e w' ⟨rfl, hww⟩; obtain rfl := hww.symm; rw [hr]) | (go_at_call 65; refine (hpf.out _).mono ?_; rintro e w1 ⟨rfl, hb⟩; first | (have h1 := hid (hs.out.below hb)) | (have h1 := hid (hs.out.drew.below hb)); clear hb))
      all_goals
        have y1 := h1.out.q1.cell
        have g1 := h1.out.q1.frozen
        have l1 := h1.out.q1.lt
        go_wp2
        refine bodyPost_ret (v := ans2 (zeP, 4)) (by simp [results, Tryd.results56, go_sem, y1]) rfl ⟨rfl, ?_⟩
        repeat refine Below.setCell ?_ (by first | omega | (simp; done) | (simp; omega)) _
        exact h1.out.bel
    · obtain ⟨v, rfl, hn⟩ := inByte hr
      have e : ula2 c (v : Int) = (c.ula v, 0) := by unfold ula2; rw [hc, hr]; simp only [if_true, Int.toNat_natCast]
      rw [e]
      rw [hr, e1, if_pos rfl] at hpf
      clear e e1
      have r7 : bits .and .i64 (v : Int) 7 = (Nat.land v 7 : Nat) := bAnd v 7 (by omega) (by omega)
      have r8 := mic_of v (by omega)
      have r16 := beep_of v (by omega)
      have e : c.ula v = { c with border := (Nat.land v 7 : Nat), mic := micN v, beep := beepN v } := rfl
      rw [e]
      clear e
      generalize Nat.land v 7 = B at *
      generalize micN v = m at *
      generalize beepN v = b at *
      go_enter Tryd.func56, Tryd.ntmps56
      go_upto_region 1 with fail
      obtain ⟨V, hV⟩ : ∃ V, (w.alloc (.cells (poA c) 30)).alloc (.cells (poA zeP) 30) = V := ⟨_, rfl⟩
      rw [hV] at hs x0 ⊢
      clear hV
      go_region_with (first | (go_at_call 58; refine (isbP_impl _ _).mono ?_; rintro e w' ⟨rfl, hww⟩; obtain rfl := hww.symm; rw [hr]) | (go_at_call 65; refine (hpf.out _).mono ?_; rintro e w1 ⟨rfl, hb⟩; first | (have h1 := hid (hs.out.below hb)) | (have h1 := hid (hs.out.drew.below hb)); clear hb))
      all_goals
        clear hs x0
        have z0 := h1.out.q0.cell
        have z1 := h1.out.q0.frozen
        have l0 := h1.out.q0.lt
        have hn := hid (((h1.out.set 9 (.int .i64 (B : Int))).set 10 (.bool m)).set 11 (.bool b))
        rw [ula_cells] at hn
        go_upto_region 7 with fail
        obtain ⟨W1, hW1⟩ : ∃ W1, ((w1.setCell ⟨w.heap.size, 9, none⟩ (.int .i64 (B : Int))).setCell ⟨w.heap.size, 10, none⟩ (.bool m)).setCell ⟨w.heap.size, 11, none⟩ (.bool b) = W1 := ⟨_, rfl⟩
        rw [hW1] at hn ⊢
        clear hW1 z0 z1 h1
        have z2 := hn.out.q0.cell
        have y1 := hn.out.q1.cell
        have g1 := hn.out.q1.frozen
        have l1 := hn.out.q1.lt
        go_wp2
        refine bodyPost_ret (v := ans2 ({ c with border := B, mic := m, beep := b }, 0)) (by simp [results, Tryd.results56, go_sem, y1]) rfl ⟨rfl, ?_⟩
        repeat refine Below.setCell ?_ (by first | omega | (simp; done) | (simp; omega)) _
        exact hn.out.bel
end Go.Proofs.YtghcagibdcblnaaDoor
