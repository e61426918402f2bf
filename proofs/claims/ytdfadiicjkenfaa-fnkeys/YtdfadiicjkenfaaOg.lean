/- What is told to the screen's port: specification and program. -/
import Derived.Test.YtdfadiicjkenfaaOd
import Derived.Test.YtdfadiicjkenfaaOc
import Derived.BigRegion
import Derived.Deep.RegionWith
namespace Go.Proofs.Ytdfadiicjkenfaa
open Go.ChangeShapes Go.WideShapes Go.ChangeAt Go.RowKit
set_option linter.unusedVariables false
set_option linter.unusedSimpArgs false

def micN (v : Nat) : Bool := !(Nat.beq (Nat.land v 8) 0)
def beepN (v : Nat) : Bool := !(Nat.beq (Nat.land v 16) 0)
def Po.ula (p : Po) (v : Nat) : Po := { p with border := (Nat.land v 7 : Nat), mic := micN v, beep := beepN v }
def ula2 (p : Po) (v : Int) : Po × Int := if okP p = true then (if inB v 0 255 = true then (p.ula v.toNat, 0) else (zeP, 4)) else (zeP, 1)
theorem beq_int (a : Nat) : ((a : Int) == 0) = Nat.beq a 0 := by
  rw [Bool.eq_iff_iff]
  simp
theorem mic_of (v : Nat) (h : v < 65536) : (bits .and .i64 (v : Int) 8 != 0) = micN v := by
  rw [show bits .and .i64 (v : Int) 8 = (Nat.land v 8 : Nat) from bAnd v 8 h (by omega), bne, beq_int]
  rfl
theorem beep_of (v : Nat) (h : v < 65536) : (bits .and .i64 (v : Int) 16 != 0) = beepN v := by
  rw [show bits .and .i64 (v : Int) 16 = (Nat.land v 16 : Nat) from bAnd v 16 h (by omega), bne, beq_int]
  rfl
/-- the three fields that are told -/
theorem ula_cells (c : Po) (B : Int) (m b : Bool) : (((poA c).setIfInBounds 9 (.int .i64 B)).setIfInBounds 10 (.bool m)).setIfInBounds 11 (.bool b) = poA { c with border := B, mic := m, beep := b } := rfl
set_option maxRecDepth 100000 in
set_option maxHeartbeats 1000000 in
theorem write_spec (c : Po) (v : Nat) (w : World) (hv : v < 65536) : Calls Try.prog 35 #[poV c, .int .i64 (v : Int)] w fun e w' => e = .returned (poV (c.ula v)) ∧ Below w.heap.size w w' := by
  have hs := hid (PSp.start w c 26 26)
  have r7 : bits .and .i64 (v : Int) 7 = (Nat.land v 7 : Nat) := bAnd v 7 (by omega) (by omega)
  have r8 := mic_of v (by omega)
  have r16 := beep_of v (by omega)
  have e : c.ula v = { c with border := (Nat.land v 7 : Nat), mic := micN v, beep := beepN v } := rfl
  rw [e]
  clear e
  generalize Nat.land v 7 = B at *
  generalize micN v = m at *
  generalize beepN v = b at *
  go_enter Try.func35, Try.ntmps35
  go_upto_region 1 with fail
  obtain ⟨V, hV⟩ : ∃ V, (w.alloc (.cells (poA c) 26)).alloc (.cells (poA zeP) 26) = V := ⟨_, rfl⟩
  rw [hV] at hs ⊢
  clear hV
  have z0 := hs.out.q0.cell
  have z1 := hs.out.q0.frozen
  have l0 := hs.out.q0.lt
  have hn := hid (((hs.out.set 9 (.int .i64 (B : Int))).set 10 (.bool m)).set 11 (.bool b))
  rw [ula_cells] at hn
  go_upto_region 4 with fail
  obtain ⟨W1, hW1⟩ : ∃ W1, ((V.setCell ⟨w.heap.size, 9, none⟩ (.int .i64 (B : Int))).setCell ⟨w.heap.size, 10, none⟩ (.bool m)).setCell ⟨w.heap.size, 11, none⟩ (.bool b) = W1 := ⟨_, rfl⟩
  rw [hW1] at hn ⊢
  clear hW1 z0 z1 hs
  have z2 := hn.out.q0.cell
  have y1 := hn.out.q1.cell
  have g1 := hn.out.q1.frozen
  have l1 := hn.out.q1.lt
  go_wp2
  refine bodyPost_ret (v := poV { c with border := B, mic := m, beep := b }) (by simp [results, Try.results35, go_sem, y1]) rfl ⟨rfl, ?_⟩
  repeat refine Below.setCell ?_ (by first | omega | (simp; done) | (simp; omega)) _
  exact hn.out.bel
set_option maxRecDepth 100000 in
set_option maxHeartbeats 1000000 in
theorem ula_spec (c : Po) (v : Int) (w : World) : Calls Try.prog 19 #[poV c, .int .i64 v] w fun e w' => e = .returned (ans2 (ula2 c v)) ∧ Below w.heap.size w w' := by
  have hs := hid (PSp.start w c 26 26)
  have x0 := hs.out.q0.cell
  have hok := hid (fun w1 => pok_spec c w1)
  cases hc : okP c
  · have e : ula2 c v = (zeP, 1) := by unfold ula2; rw [hc]; rfl
    rw [e]
    rw [hc] at hok
    clear e
    go_enter Try.func19, Try.ntmps19
    go_upto_region 1 with fail
    obtain ⟨V, hV⟩ : ∃ V, (w.alloc (.cells (poA c) 26)).alloc (.cells (poA zeP) 26) = V := ⟨_, rfl⟩
    rw [hV] at hs x0 ⊢
    clear hV
    go_wp2_with fail
    refine (hok.out _).mono ?_
    rintro e w1 ⟨rfl, hb⟩
    have h1 := hid (hs.out.below hb)
    have y1 := h1.out.q1.cell
    have g1 := h1.out.q1.frozen
    have l1 := h1.out.q1.lt
    clear hb hs x0
    go_wp2
    refine bodyPost_ret (v := ans2 (zeP, 1)) (by simp [results, Try.results19, go_sem, y1]) rfl ⟨rfl, ?_⟩
    repeat refine Below.setCell ?_ (by first | omega | (simp; done) | (simp; omega)) _
    exact h1.out.bel
  · rw [hc] at hok
    cases hr : inB v 0 255
    · have e : ula2 c v = (zeP, 4) := by unfold ula2; rw [hc, hr]; rfl
      rw [e]
      clear e
      go_enter Try.func19, Try.ntmps19
      go_upto_region 1 with fail
      obtain ⟨V, hV⟩ : ∃ V, (w.alloc (.cells (poA c) 26)).alloc (.cells (poA zeP) 26) = V := ⟨_, rfl⟩
      rw [hV] at hs x0 ⊢
      clear hV
      go_wp2_with fail
      refine (hok.out _).mono ?_
      rintro e w1 ⟨rfl, hb⟩
      have h1 := hid (hs.out.below hb)
      have y1 := h1.out.q1.cell
      have g1 := h1.out.q1.frozen
      have l1 := h1.out.q1.lt
      clear hb hs x0
      go_wp2_with (go_at_call 31; refine (byteM_spec _ _).mono ?_; rintro e w' ⟨rfl, hww⟩; obtain rfl := hww.symm; rw [hr])
      refine bodyPost_ret (v := ans2 (zeP, 4)) (by simp [results, Try.results19, go_sem, y1]) rfl ⟨rfl, ?_⟩
      repeat refine Below.setCell ?_ (by first | omega | (simp; done) | (simp; omega)) _
      exact h1.out.bel
    · obtain ⟨n, rfl, hn⟩ := inByte hr
      have e : ula2 c (n : Int) = (c.ula n, 0) := by unfold ula2; rw [hc, hr]; simp only [if_true, Int.toNat_natCast]
      rw [e]
      clear e
      have hW := hid (fun w1 => write_spec c n w1 (by omega))
      generalize c.ula n = C at *
      go_enter Try.func19, Try.ntmps19
      go_upto_region 1 with fail
      obtain ⟨V, hV⟩ : ∃ V, (w.alloc (.cells (poA c) 26)).alloc (.cells (poA zeP) 26) = V := ⟨_, rfl⟩
      rw [hV] at hs x0 ⊢
      clear hV
      go_wp2_with fail
      refine (hok.out _).mono ?_
      rintro e w1 ⟨rfl, hb⟩
      have h1 := hid (hs.out.below hb)
      have x1 := h1.out.q0.cell
      clear hb hs x0
      go_wp2_with (first | (go_at_call 31; refine (byteM_spec _ _).mono ?_; rintro e w' ⟨rfl, hww⟩; obtain rfl := hww.symm; rw [hr]) | fail)
      refine (hW.out _).mono ?_
      rintro e w2 ⟨rfl, hb⟩
      have h2 := hid (h1.out.below hb)
      have y1 := h2.out.q1.cell
      have g1 := h2.out.q1.frozen
      have l1 := h2.out.q1.lt
      clear hb h1 x1
      go_wp2
      refine bodyPost_ret (v := ans2 (C, 0)) (by simp [results, Try.results19, go_sem, y1]) rfl ⟨rfl, ?_⟩
      repeat refine Below.setCell ?_ (by first | omega | (simp; done) | (simp; omega)) _
      exact h2.out.bel
set_option maxRecDepth 100000 in
set_option maxHeartbeats 4000000 in
theorem ula_impl (c : Po) (v : Int) (w : World) : Calls Try.prog 18 #[poV c, .int .i64 v] w fun e w' => e = .returned (ans2 (ula2 c v)) ∧ Below w.heap.size w w' := by
  have hs := hid (PSp.start w c 26 26)
  have x0 := hs.out.q0.cell
  have hpf := hid (fun w1 => pfault_impl c (inB v 0 255) w1)
  cases hc : okP c
  · have e : ula2 c v = (zeP, 1) := by unfold ula2; rw [hc]; rfl
    rw [e]
    have e2 : ∀ b, pfN c b = 1 := fun b => by unfold pfN; rw [hc]; rfl
    rw [e2] at hpf
    clear e e2
    cases hr : inB v 0 255
    all_goals
      rw [hr] at hpf
      go_enter Try.func18, Try.ntmps18
      go_upto_region 1 with fail
      obtain ⟨V, hV⟩ : ∃ V, (w.alloc (.cells (poA c) 26)).alloc (.cells (poA zeP) 26) = V := ⟨_, rfl⟩
      rw [hV] at hs x0 ⊢
      clear hV
      go_region_with (first | (go_at_call 27; refine (isbP_impl _ _).mono ?_; rintro e w' ⟨rfl, hww⟩; obtain rfl := hww.symm; rw [hr]) | (go_at_call 26; refine (hpf.out _).mono ?_; rintro e w1 ⟨rfl, hb⟩; first | (have h1 := hid (hs.out.below hb)) | (have h1 := hid (hs.out.drew.below hb)); clear hb))
      all_goals
        have y1 := h1.out.q1.cell
        have g1 := h1.out.q1.frozen
        have l1 := h1.out.q1.lt
        go_wp2
        refine bodyPost_ret (v := ans2 (zeP, 1)) (by simp [results, Try.results18, go_sem, y1]) rfl ⟨rfl, ?_⟩
        repeat refine Below.setCell ?_ (by first | omega | (simp; done) | (simp; omega)) _
        exact h1.out.bel
  · have e1 : ∀ b, pfN c b = if b = true then 0 else 4 := fun b => by unfold pfN; rw [hc]; rfl
    cases hr : inB v 0 255
    · have e : ula2 c v = (zeP, 4) := by unfold ula2; rw [hc, hr]; rfl
      rw [e]
      rw [hr, e1, if_neg (by simp)] at hpf
      clear e e1
      go_enter Try.func18, Try.ntmps18
      go_upto_region 1 with fail
      obtain ⟨V, hV⟩ : ∃ V, (w.alloc (.cells (poA c) 26)).alloc (.cells (poA zeP) 26) = V := ⟨_, rfl⟩
      rw [hV] at hs x0 ⊢
      clear hV
      go_region_with (first | (go_at_call 27; refine (isbP_impl _ _).mono ?_; rintro e w' ⟨rfl, hww⟩; obtain rfl := hww.symm; rw [hr]) | (go_at_call 26; refine (hpf.out _).mono ?_; rintro e w1 ⟨rfl, hb⟩; first | (have h1 := hid (hs.out.below hb)) | (have h1 := hid (hs.out.drew.below hb)); clear hb))
      all_goals
        have y1 := h1.out.q1.cell
        have g1 := h1.out.q1.frozen
        have l1 := h1.out.q1.lt
        go_wp2
        refine bodyPost_ret (v := ans2 (zeP, 4)) (by simp [results, Try.results18, go_sem, y1]) rfl ⟨rfl, ?_⟩
        repeat refine Below.setCell ?_ (by first | omega | (simp; done) | (simp; omega)) _
        exact h1.out.bel
    · obtain ⟨v, rfl, hn⟩ := inByte hr
      have e : ula2 c (v : Int) = (c.ula v, 0) := by unfold ula2; rw [hc, hr]; simp only [if_true, Int.toNat_natCast]
      rw [e]
      rw [hr, e1, if_pos rfl] at hpf
      clear e e1
      have r7 : bits .and .i64 (v : Int) 7 = (Nat.land v 7 : Nat) := bAnd v 7 (by omega) (by omega)
      have r8 := mic_of v (by omega)
      have r16 := beep_of v (by omega)
      have e : c.ula v = { c with border := (Nat.land v 7 : Nat), mic := micN v, beep := beepN v } := rfl
      rw [e]
      clear e
      generalize Nat.land v 7 = B at *
      generalize micN v = m at *
      generalize beepN v = b at *
      go_enter Try.func18, Try.ntmps18
      go_upto_region 1 with fail
      obtain ⟨V, hV⟩ : ∃ V, (w.alloc (.cells (poA c) 26)).alloc (.cells (poA zeP) 26) = V := ⟨_, rfl⟩
      rw [hV] at hs x0 ⊢
      clear hV
      go_region_with (first | (go_at_call 27; refine (isbP_impl _ _).mono ?_; rintro e w' ⟨rfl, hww⟩; obtain rfl := hww.symm; rw [hr]) | (go_at_call 26; refine (hpf.out _).mono ?_; rintro e w1 ⟨rfl, hb⟩; first | (have h1 := hid (hs.out.below hb)) | (have h1 := hid (hs.out.drew.below hb)); clear hb))
      all_goals
        clear hs x0
        have z0 := h1.out.q0.cell
        have z1 := h1.out.q0.frozen
        have l0 := h1.out.q0.lt
        have hn := hid (((h1.out.set 9 (.int .i64 (B : Int))).set 10 (.bool m)).set 11 (.bool b))
        rw [ula_cells] at hn
        go_upto_region 7 with fail
        obtain ⟨W1, hW1⟩ : ∃ W1, ((w1.setCell ⟨w.heap.size, 9, none⟩ (.int .i64 (B : Int))).setCell ⟨w.heap.size, 10, none⟩ (.bool m)).setCell ⟨w.heap.size, 11, none⟩ (.bool b) = W1 := ⟨_, rfl⟩
        rw [hW1] at hn ⊢
        clear hW1 z0 z1 h1
        have z2 := hn.out.q0.cell
        have y1 := hn.out.q1.cell
        have g1 := hn.out.q1.frozen
        have l1 := hn.out.q1.lt
        go_wp2
        refine bodyPost_ret (v := ans2 ({ c with border := B, mic := m, beep := b }, 0)) (by simp [results, Try.results18, go_sem, y1]) rfl ⟨rfl, ?_⟩
        repeat refine Below.setCell ?_ (by first | omega | (simp; done) | (simp; omega)) _
        exact hn.out.bel
end Go.Proofs.Ytdfadiicjkenfaa
