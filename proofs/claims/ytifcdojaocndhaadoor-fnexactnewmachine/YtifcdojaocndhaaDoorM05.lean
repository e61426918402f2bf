/- The kind of a port: what the specification and the program answer. -/
import Derived.Test.YtifcdojaocndhaaDoorM04
import Derived.Laws.EntriesVeiled
import Derived.BigRegion
import Derived.Deep.RegionWith
namespace Go.Proofs.YtifcdojaocndhaaDoor
open Go.ChangeShapes Go.WideShapes Go.ChangeAt Go.RowKit
set_option linter.unusedVariables false
set_option linter.unusedSimpArgs false

/-- the program's tests, by kind -/
def lowB (n b : Nat) : Bool := Nat.ble n 127 && Nat.beq (Nat.land n 7) b
def ptN (n : Nat) : Nat → Bool
  | 0 => Nat.beq (n % 2) 0
  | 1 => lowB n 1
  | 2 => lowB n 5
  | 3 => lowB n 7
  | 4 => lowB n 3
  | _ => true
def kindN (n : Nat) : Nat := cond (ptN n 0) 0 (cond (ptN n 1) 1 (cond (ptN n 2) 2 (cond (ptN n 3) 3 (cond (ptN n 4) 4 5))))
theorem kind_of {n k : Nat} (hk : k < 6) (h : ∀ j, j < k → ptN n j = false) (ht : ptN n k = true) : kindN n = k := by
  have h0 := h 0
  have h1 := h 1
  have h2 := h 2
  have h3 := h 3
  have h4 := h 4
  unfold kindN
  rcases (by omega : k = 0 ∨ k = 1 ∨ k = 2 ∨ k = 3 ∨ k = 4 ∨ k = 5) with rfl | rfl | rfl | rfl | rfl | rfl
  · rw [ht]; rfl
  · rw [h0 (by omega), ht]; rfl
  · rw [h0 (by omega), h1 (by omega), ht]; rfl
  · rw [h0 (by omega), h1 (by omega), h2 (by omega), ht]; rfl
  · rw [h0 (by omega), h1 (by omega), h2 (by omega), h3 (by omega), ht]; rfl
  · rw [h0 (by omega), h1 (by omega), h2 (by omega), h3 (by omega), h4 (by omega)]; rfl
def kind2 (n : Int) : Value := if inB n 0 255 = true then .tuple #[.int .i64 (kindN n.toNat : Nat), .int .i64 0] else .tuple #[.int .i64 0, .int .i64 4]
theorem inByte {k : Int} (h : inB k 0 255 = true) : ∃ n : Nat, k = n ∧ n < 256 := by
  simp [inB] at h
  exact ⟨k.toNat, by omega, by omega⟩
theorem even_impl (n : Nat) (w : World) : Calls Tryd.prog 172 #[.int .i64 (n : Int)] w fun e w' => e = .returned (.bool (ptN n 0)) ∧ w' = w := by
  have h2 : Hid (Bool.not (Nat.beq (n % 2) 0) = Bool.not (((n : Int) % 2) == 0)) := by
    congr 1
    rw [Bool.eq_iff_iff]
    simp
    omega
  go_enter Tryd.func172, Tryd.ntmps172
  go_wp2
  go_ret
  exact ⟨ret_bool (by have := h2.out; unfold ptN; rw [Bool.eq_iff_iff]; simp; omega), rfl⟩
theorem low_impl (n b I : Nat) (w : World) (hn : n < 256) (hI : w.cell? ⟨I, 0, none⟩ = some (.int .i64 (b : Int))) : Calls Tryd.prog 171 #[.int .i64 (n : Int), .pointer (some ⟨I, 0, none⟩)] w fun e w' => e = .returned (.bool (lowB n b)) ∧ w' = w := by
  have rA : bits .and .i64 (n : Int) 7 = (Nat.land n 7 : Nat) := bAnd n 7 (by omega) (by omega)
  have e1 : lowB n b = (Nat.ble n 127 && Nat.beq (Nat.land n 7) b) := rfl
  rw [e1]
  clear e1
  generalize Nat.land n 7 = L at *
  by_cases h : n ≤ 127
  · have h1 : Nat.ble n 127 = true := Nat.ble_eq_true_of_le h
    have h2 : ((n : Int) ≤ 127) := by omega
    rw [h1]
    have E : Hid (Nat.beq L b = ((L : Int) == (b : Int))) := by
      show Nat.beq L b = ((L : Int) == (b : Int))
      rw [Bool.eq_iff_iff]
      simp
      omega
    go_enter Tryd.func171, Tryd.ntmps171
    go_wp2
    go_ret
    exact ⟨ret_bool (by rw [Bool.true_and, E.out]), rfl⟩
  · have h1 : Nat.ble n 127 = false := by
      cases e : Nat.ble n 127
      · rfl
      · exact absurd (Nat.le_of_ble_eq_true e) h
    have h2 : ¬ ((n : Int) ≤ 127) := by omega
    rw [h1]
    go_enter Tryd.func171, Tryd.ntmps171
    go_wp2
    go_ret
    exact ⟨ret_bool (by simp), rfl⟩
abbrev ptF (b : Nat) : Value := .func (.func 171) #[] #[.pointer (some ⟨b, 0, none⟩)]
abbrev ptA (b : Nat) : Array Value := #[.func (.func 172) #[] #[], ptF (b + 1), ptF (b + 1 + 1), ptF (b + 1 + 1 + 1), ptF (b + 1 + 1 + 1 + 1)]
abbrev ptV (b : Nat) : Value := .agg #[.func (.func 172) #[] #[], ptF (b + 1), ptF (b + 1 + 1), ptF (b + 1 + 1 + 1), ptF (b + 1 + 1 + 1 + 1)]
set_option maxRecDepth 100000 in
set_option maxHeartbeats 1000000 in
theorem tests_impl (w : World) : Calls Tryd.prog 154 #[] w fun e w' => e = .returned (ptV w.heap.size) ∧ w'.cell? ⟨w.heap.size + 1, 0, none⟩ = some (.int .i64 1) ∧ w'.cell? ⟨w.heap.size + 1 + 1, 0, none⟩ = some (.int .i64 5) ∧ w'.cell? ⟨w.heap.size + 1 + 1 + 1, 0, none⟩ = some (.int .i64 7) ∧ w'.cell? ⟨w.heap.size + 1 + 1 + 1 + 1, 0, none⟩ = some (.int .i64 3) ∧ Below w.heap.size w w' := by
  go_enter Tryd.func154, Tryd.ntmps154
  go_wp2_with go_in
  obtain ⟨o, ho⟩ : ∃ o, (Obj.cells (ptA w.heap.size) 178) = o := ⟨_, rfl⟩
  refine bodyPost_ret (v := ptV w.heap.size) (by simp [results, Tryd.results154, go_sem]) rfl ?_
  rw [ho]
  have b1 := ((((Blk.new (w.alloc o) #[.int .i64 1] 3).alloc (.cells #[.int .i64 5] 3)).alloc (.cells #[.int .i64 7] 3)).alloc (.cells #[.int .i64 3] 3)).cell 0
  have b2 := (((Blk.new ((w.alloc o).alloc (.cells #[.int .i64 1] 3)) #[.int .i64 5] 3).alloc (.cells #[.int .i64 7] 3)).alloc (.cells #[.int .i64 3] 3)).cell 0
  have b3 := ((Blk.new (((w.alloc o).alloc (.cells #[.int .i64 1] 3)).alloc (.cells #[.int .i64 5] 3)) #[.int .i64 7] 3).alloc (.cells #[.int .i64 3] 3)).cell 0
  have b4 := (Blk.new ((((w.alloc o).alloc (.cells #[.int .i64 1] 3)).alloc (.cells #[.int .i64 5] 3)).alloc (.cells #[.int .i64 7] 3)) #[.int .i64 3] 3).cell 0
  simp only [World.size_alloc] at b1 b2 b3 b4
  exact ⟨rfl, b1, b2, b3, b4, (((((Below.refl w.heap.size w).alloc (Nat.le_refl _) _).alloc (by simp) _).alloc (by simp only [World.size_alloc]; omega) _).alloc (by simp only [World.size_alloc]; omega) _).alloc (by simp only [World.size_alloc]; omega) _⟩
set_option maxRecDepth 100000 in
set_option maxHeartbeats 1000000 in
theorem kind_impl (n : Int) (w : World) : Calls Tryd.prog 122 #[.int .i64 n] w fun e w' => e = .returned (kind2 n) ∧ Below w.heap.size w w' := by
  cases h : inB n 0 255
  · have e : kind2 n = .tuple #[.int .i64 0, .int .i64 4] := by unfold kind2; rw [h]; rfl
    rw [e]
    clear e
    go_enter Tryd.func122, Tryd.ntmps122
    go_wp2_with (go_at_call 68; refine (isbP_impl _ _).mono ?_; rintro e w' ⟨rfl, rfl⟩; rw [h])
    go_ret2
    exact ⟨rfl, Below.refl _ _⟩
  · obtain ⟨m, rfl, hm⟩ := inByte h
    have e : kind2 (m : Int) = .tuple #[.int .i64 (kindN m : Nat), .int .i64 0] := by unfold kind2; rw [if_pos h, Int.toNat_natCast]
    rw [e]
    clear e
    have hk : Hid (∀ k, k < 6 → (∀ j, j < k → ptN m j = false) → ptN m k = true → kindN m = k) := fun k hk hj ht => kind_of hk hj ht
    generalize kindN m = K at *
    go_enter Tryd.func122, Tryd.ntmps122
    go_wp2_with (go_at_call 68; refine (isbP_impl _ _).mono ?_; rintro e w' ⟨rfl, hww⟩; obtain rfl := hww.symm; rw [h])
    refine (tests_impl _).mono ?_
    rintro e w1 ⟨rfl, c1, c2, c3, c4, hb⟩
    replace hb := hid hb
    go_wp2
    go_loop [10] (fun i => ∃ k : Nat, k ≤ 5 ∧ i = .int .i64 k ∧ ∀ j, j < k → ptN m j = false) (fun i => 5 - (intOf i).toNat)
    case atStart => exact ⟨0, by omega, rfl, fun j hj => by omega⟩
    case round =>
      obtain ⟨k, hk5, rfl, hj⟩ := hrel
      replace hj := hid hj
      rcases (by omega : k = 0 ∨ k = 1 ∨ k = 2 ∨ k = 3 ∨ k = 4 ∨ k = 5) with rfl | rfl | rfl | rfl | rfl | rfl
      · have ix : ∀ w2, (Instr.index 178 (ptV w.heap.size) (.int .i64 0)).run Tryd.prog w2 = .ok (.func (.func 172) #[] #[]) w2 := fun _ => by kernel_rfl
        have hT := hid (even_impl m w1)
        cases ht : ptN m 0
        · rw [ht] at hT
          have hj2 : Hid (∀ j, j < 1 → ptN m j = false) := fun j hj1 => by
            obtain rfl : j = 0 := (by omega)
            exact ht
          clear hj hk ht
          go_wp2_with (refine hT.out.mono ?_; rintro e w' ⟨rfl, hww⟩; obtain rfl := hww.symm)
          go_round
          case rel => exact ⟨1, by omega, rfl, hj2.out⟩
          case measure => simp [intOf]
        · rw [ht] at hT
          obtain rfl := hk.out 0 (by omega) hj.out ht
          clear hj hk ht
          go_wp2_with (refine hT.out.mono ?_; rintro e w' ⟨rfl, hww⟩; obtain rfl := hww.symm)
          go_ret2
          exact ⟨rfl, hb.out⟩
      · have ix : ∀ w2, (Instr.index 178 (ptV w.heap.size) (.int .i64 1)).run Tryd.prog w2 = .ok (ptF (w.heap.size + 1)) w2 := fun _ => by kernel_rfl
        have hT := hid (low_impl m 1 (w.heap.size + 1) w1 hm c1)
        have e0 : lowB m 1 = ptN m 1 := rfl
        rw [e0] at hT
        clear e0
        cases ht : ptN m 1
        · rw [ht] at hT
          have hj2 : Hid (∀ j, j < 2 → ptN m j = false) := fun j hj1 => by
            by_cases e : j = 1
            · rw [e]; exact ht
            · exact hj.out j (by omega)
          clear hj hk ht
          go_wp2_with (refine hT.out.mono ?_; rintro e w' ⟨rfl, hww⟩; obtain rfl := hww.symm)
          go_round
          case rel => exact ⟨2, by omega, rfl, hj2.out⟩
          case measure => simp [intOf]
        · rw [ht] at hT
          obtain rfl := hk.out 1 (by omega) hj.out ht
          clear hj hk ht
          go_wp2_with (refine hT.out.mono ?_; rintro e w' ⟨rfl, hww⟩; obtain rfl := hww.symm)
          go_ret2
          exact ⟨rfl, hb.out⟩
      · have ix : ∀ w2, (Instr.index 178 (ptV w.heap.size) (.int .i64 2)).run Tryd.prog w2 = .ok (ptF (w.heap.size + 1 + 1)) w2 := fun _ => by kernel_rfl
        have hT := hid (low_impl m 5 (w.heap.size + 1 + 1) w1 hm c2)
        have e0 : lowB m 5 = ptN m 2 := rfl
        rw [e0] at hT
        clear e0
        cases ht : ptN m 2
        · rw [ht] at hT
          have hj2 : Hid (∀ j, j < 3 → ptN m j = false) := fun j hj1 => by
            by_cases e : j = 2
            · rw [e]; exact ht
            · exact hj.out j (by omega)
          clear hj hk ht
          go_wp2_with (refine hT.out.mono ?_; rintro e w' ⟨rfl, hww⟩; obtain rfl := hww.symm)
          go_round
          case rel => exact ⟨3, by omega, rfl, hj2.out⟩
          case measure => simp [intOf]
        · rw [ht] at hT
          obtain rfl := hk.out 2 (by omega) hj.out ht
          clear hj hk ht
          go_wp2_with (refine hT.out.mono ?_; rintro e w' ⟨rfl, hww⟩; obtain rfl := hww.symm)
          go_ret2
          exact ⟨rfl, hb.out⟩
      · have ix : ∀ w2, (Instr.index 178 (ptV w.heap.size) (.int .i64 3)).run Tryd.prog w2 = .ok (ptF (w.heap.size + 1 + 1 + 1)) w2 := fun _ => by kernel_rfl
        have hT := hid (low_impl m 7 (w.heap.size + 1 + 1 + 1) w1 hm c3)
        have e0 : lowB m 7 = ptN m 3 := rfl
        rw [e0] at hT
        clear e0
        cases ht : ptN m 3
        · rw [ht] at hT
          have hj2 : Hid (∀ j, j < 4 → ptN m j = false) := fun j hj1 => by
            by_cases e : j = 3
            · rw [e]; exact ht
            · exact hj.out j (by omega)
          clear hj hk ht
          go_wp2_with (refine hT.out.mono ?_; rintro e w' ⟨rfl, hww⟩; obtain rfl := hww.symm)
          go_round
          case rel => exact ⟨4, by omega, rfl, hj2.out⟩
          case measure => simp [intOf]
        · rw [ht] at hT
          obtain rfl := hk.out 3 (by omega) hj.out ht
          clear hj hk ht
          go_wp2_with (refine hT.out.mono ?_; rintro e w' ⟨rfl, hww⟩; obtain rfl := hww.symm)
          go_ret2
          exact ⟨rfl, hb.out⟩
      · have ix : ∀ w2, (Instr.index 178 (ptV w.heap.size) (.int .i64 4)).run Tryd.prog w2 = .ok (ptF (w.heap.size + 1 + 1 + 1 + 1)) w2 := fun _ => by kernel_rfl
        have hT := hid (low_impl m 3 (w.heap.size + 1 + 1 + 1 + 1) w1 hm c4)
        have e0 : lowB m 3 = ptN m 4 := rfl
        rw [e0] at hT
        clear e0
        cases ht : ptN m 4
        · rw [ht] at hT
          have hj2 : Hid (∀ j, j < 5 → ptN m j = false) := fun j hj1 => by
            by_cases e : j = 4
            · rw [e]; exact ht
            · exact hj.out j (by omega)
          clear hj hk ht
          go_wp2_with (refine hT.out.mono ?_; rintro e w' ⟨rfl, hww⟩; obtain rfl := hww.symm)
          go_round
          case rel => exact ⟨5, by omega, rfl, hj2.out⟩
          case measure => simp [intOf]
        · rw [ht] at hT
          obtain rfl := hk.out 4 (by omega) hj.out ht
          clear hj hk ht
          go_wp2_with (refine hT.out.mono ?_; rintro e w' ⟨rfl, hww⟩; obtain rfl := hww.symm)
          go_ret2
          exact ⟨rfl, hb.out⟩
      · obtain rfl := hk.out 5 (by omega) hj.out rfl
        clear hj hk
        go_wp2
        go_ret2
        exact ⟨rfl, hb.out⟩
theorem kind_raw : ∀ n : Nat, n < 256 → kindN n = cond (Nat.beq (n % 2) 0) 0 (cond (Nat.ble 128 n) 5 (cond (Nat.beq (n % 8 / 2) 0) 1 (cond (Nat.beq (n % 8 / 2) 1) 4 (cond (Nat.beq (n % 8 / 2) 2) 2 3)))) := by decide +kernel
set_option maxRecDepth 100000 in
set_option maxHeartbeats 1000000 in
theorem kind_spec (n : Int) (w : World) : Calls Tryd.prog 119 #[.int .i64 n] w fun e w' => e = .returned (kind2 n) ∧ Below w.heap.size w w' := by
  cases h : inB n 0 255
  · have e : kind2 n = .tuple #[.int .i64 0, .int .i64 4] := by unfold kind2; rw [h]; rfl
    rw [e]
    clear e
    go_enter Tryd.func119, Tryd.ntmps119
    go_wp2_with (go_at_call 66; refine (byteM_spec _ _).mono ?_; rintro e w' ⟨rfl, rfl⟩; rw [h])
    go_ret2
    exact ⟨rfl, Below.refl _ _⟩
  · obtain ⟨m, rfl, hm⟩ := inByte h
    have e : kind2 (m : Int) = .tuple #[.int .i64 (kindN m : Nat), .int .i64 0] := by unfold kind2; rw [if_pos h, Int.toNat_natCast]
    rw [e]
    clear e
    have hk := hid (kind_raw m hm)
    generalize kindN m = K at *
    by_cases h2 : m % 2 = 0
    · have g2 : ((m : Int) % 2 == 1) = false := by simp; omega
      have g3 : ((m : Int) % 2 == 0) = true := by simp; omega
      obtain rfl : K = 0 := by rw [hk.out, show Nat.beq (m % 2) 0 = true by rw [h2]; rfl]; rfl
      clear hk h2
      go_enter Tryd.func119, Tryd.ntmps119
      go_wp2_with (first | (go_at_call 66; refine (byteM_spec _ _).mono ?_; rintro e w' ⟨rfl, rfl⟩; rw [h]) | go_in)
      all_goals go_ret2
      all_goals exact ⟨rfl, Below.refl _ _⟩
    · have g2 : ((m : Int) % 2 == 1) = true := by simp; omega
      have g3 : ((m : Int) % 2 == 0) = false := by simp; omega
      have f2 : Nat.beq (m % 2) 0 = false := by
        cases e : Nat.beq (m % 2) 0
        · rfl
        · exact absurd (Nat.eq_of_beq_eq_true e) h2
      by_cases h3 : 127 < m
      · have g4 : decide ((127 : Int) < (m : Int)) = true := by simp; omega
        obtain rfl : K = 5 := by rw [hk.out, f2, show Nat.ble 128 m = true from Nat.ble_eq_true_of_le h3]; rfl
        clear hk h2 h3 f2
        go_enter Tryd.func119, Tryd.ntmps119
        go_wp2_with (first | (go_at_call 66; refine (byteM_spec _ _).mono ?_; rintro e w' ⟨rfl, rfl⟩; rw [h]) | go_in)
        all_goals go_ret2
        all_goals exact ⟨rfl, Below.refl _ _⟩
      · have g4 : decide ((127 : Int) < (m : Int)) = false := by simp; omega
        have f3 : Nat.ble 128 m = false := by
          cases e : Nat.ble 128 m
          · rfl
          · exact absurd (Nat.le_of_ble_eq_true e) (by omega)
        rw [f2, f3] at hk
        obtain ⟨q, hq⟩ : ∃ q : Nat, ((m : Int) % 8) / 2 = (q : Int) := ⟨m % 8 / 2, by omega⟩
        have hq2 : m % 8 / 2 = q := by omega
        rw [hq2] at hk
        have hq4 : q = 0 ∨ q = 1 ∨ q = 2 ∨ q = 3 := by omega
        clear hq2 h2 h3 f2 f3
        rcases hq4 with rfl | rfl | rfl | rfl
        all_goals
          obtain rfl := hk.out
          go_enter Tryd.func119, Tryd.ntmps119
          go_wp2_with (first | (go_at_call 66; refine (byteM_spec _ _).mono ?_; rintro e w' ⟨rfl, rfl⟩; rw [h]) | go_in)
          go_ret2
          exact ⟨rfl, (Below.refl _ _).alloc (Nat.le_refl _) _⟩
end Go.Proofs.YtifcdojaocndhaaDoor

/- What is told to the screen's port: specification and program. -/
namespace Go.Proofs.YtifcdojaocndhaaDoor
open Go.ChangeShapes Go.WideShapes Go.ChangeAt Go.RowKit
set_option linter.unusedVariables false
set_option linter.unusedSimpArgs false

def micN (v : Nat) : Bool := !(Nat.beq (Nat.land v 8) 0)
def beepN (v : Nat) : Bool := !(Nat.beq (Nat.land v 16) 0)
def Po.ula (p : Po) (v : Nat) : Po := { p with border := (Nat.land v 7 : Nat), mic := micN v, beep := beepN v }
def ula2 (p : Po) (v : Int) : Po × Int := if okPo p = true then (if inB v 0 255 = true then (p.ula v.toNat, 0) else (zeP, 4)) else (zeP, 1)
theorem beq_int (a : Nat) : ((a : Int) == 0) = Nat.beq a 0 := by
  rw [Bool.eq_iff_iff]
  simp
theorem mic_of (v : Nat) (h : v < 65536) : (bits .and .i64 (v : Int) 8 != 0) = micN v := by
  rw [show bits .and .i64 (v : Int) 8 = (Nat.land v 8 : Nat) from bAnd v 8 h (by omega), bne, beq_int]
  rfl
theorem beep_of (v : Nat) (h : v < 65536) : (bits .and .i64 (v : Int) 16 != 0) = beepN v := by
  rw [show bits .and .i64 (v : Int) 16 = (Nat.land v 16 : Nat) from bAnd v 16 h (by omega), bne, beq_int]
  rfl
/-- the three fields that are told -/
theorem ula_cells (c : Po) (B : Int) (m b : Bool) : (((poA c).setIfInBounds 9 (.int .i64 B)).setIfInBounds 10 (.bool m)).setIfInBounds 11 (.bool b) = poA { c with border := B, mic := m, beep := b } := rfl
end Go.Proofs.YtifcdojaocndhaaDoor
