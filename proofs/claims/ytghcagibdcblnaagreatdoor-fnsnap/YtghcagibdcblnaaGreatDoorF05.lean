/- Snapshots as plain lists of bytes: written, read back, cut off, with more behind them, of another version. -/
import Derived.Test.YtghcagibdcblnaaGreatDoorF03
import Derived.Test.YtghcagibdcblnaaGreatDoorF04
import Derived.Test.YtghcagibdcblnaaGreatDoorF00
namespace Go.Proofs.YtghcagibdcblnaaGreatDoor
set_option linter.unusedVariables false
set_option linter.unusedSimpArgs false

def b1 (b : Bool) : Int := if b then 1 else 0
theorem b1_bd (b : Bool) : 0 ≤ b1 b ∧ b1 b ≤ 1 := by cases b <;> decide
def bitsS (c : Cu) (M : Mem) : Int := b1 c.iff + 2 * b1 c.ei + 4 * b1 c.halt + 8 * b1 M.locked + 16 * b1 (decide (M.screen = 3))
def ulaS (p : Po) : Int := p.border + 8 * b1 p.mic + 16 * b1 p.beep
def headS (c : Cu) (M : Mem) (p : Po) : List Int := [3, c.r0, c.r1, c.r2, c.r3, c.r4, c.r5, c.r6, c.r7, c.f, c.sp, c.pc, bitsS c M, M.page, ulaS p]
def snapL (c : Cu) (M : Mem) (p : Po) : List Int := headS c M p ++ bnksL M.ram
structure Sn where
  c : Cu
  m : Mem
  p : Po
def bitAt (n : Int) (k : Int) : Bool := decide (n / k % 2 = 1)
/-- the processor that a text tells -/
def cuS (t : List Int) : Cu := ⟨t.getD 1 0, t.getD 2 0, t.getD 3 0, t.getD 4 0, t.getD 5 0, t.getD 6 0, t.getD 7 0, t.getD 8 0, t.getD 9 0, t.getD 10 0, t.getD 11 0, bitAt (t.getD 12 0) 1, bitAt (t.getD 12 0) 2, bitAt (t.getD 12 0) 4⟩
def poS (u : Int) : Po := ⟨31, 31, 31, 31, 31, 31, 31, 31, 0, u % 8, bitAt u 8, bitAt u 16⟩
def meS (rom : List Int) (t : List Int) (B : List (List Int)) : Mem := ⟨rom, B, t.getD 13 0, 1 + 2 * (t.getD 12 0 / 16 % 2), bitAt (t.getD 12 0) 8⟩
def sn0 : Sn := ⟨⟨0, 0, 0, 0, 0, 0, 0, 0, 0, 0, 0, false, false, false⟩, mem0, ⟨0, 0, 0, 0, 0, 0, 0, 0, 0, 0, false, false⟩⟩
def rdS (rom t : List Int) : Sn × Int :=
  if t.length < 15 then (sn0, 9) else if t.getD 0 0 ≠ 3 then (sn0, 18)
  else if 31 < t.getD 12 0 ∨ 31 < t.getD 14 0 ∨ 3 < t.getD 13 0 ∨ okC (cuS t) = false then (sn0, 3)
  else if (rdB 4 (t.drop 15)).2.2 ≠ 0 then (sn0, (rdB 4 (t.drop 15)).2.2) else if (rdB 4 (t.drop 15)).2.1 ≠ [] then (sn0, 8)
  else (⟨cuS t, meS rom t (rdB 4 (t.drop 15)).1, poS (t.getD 14 0)⟩, 0)
structure Right (c : Cu) (M : Mem) (p : Po) : Prop where
  c : okC c = true
  ram : M.ram.length = 4
  bank : ∀ b ∈ M.ram, b.length = 64
  page : 0 ≤ M.page ∧ M.page ≤ 3
  screen : M.screen = 1 ∨ M.screen = 3
  border : 0 ≤ p.border ∧ p.border ≤ 7
theorem headS_len (c : Cu) (M : Mem) (p : Po) : (headS c M p).length = 15 := rfl
theorem bits_back (a b c d e : Bool) : bitAt (b1 a + 2 * b1 b + 4 * b1 c + 8 * b1 d + 16 * b1 e) 1 = a ∧ bitAt (b1 a + 2 * b1 b + 4 * b1 c + 8 * b1 d + 16 * b1 e) 2 = b ∧ bitAt (b1 a + 2 * b1 b + 4 * b1 c + 8 * b1 d + 16 * b1 e) 4 = c ∧ bitAt (b1 a + 2 * b1 b + 4 * b1 c + 8 * b1 d + 16 * b1 e) 8 = d ∧ (b1 a + 2 * b1 b + 4 * b1 c + 8 * b1 d + 16 * b1 e) / 16 % 2 = b1 e := by
  cases a <;> cases b <;> cases c <;> cases d <;> cases e <;> decide
theorem ula_back {n : Int} (h0 : 0 ≤ n) (h1 : n ≤ 7) (a b : Bool) : (n + 8 * b1 a + 16 * b1 b) % 8 = n ∧ bitAt (n + 8 * b1 a + 16 * b1 b) 8 = a ∧ bitAt (n + 8 * b1 a + 16 * b1 b) 16 = b := by
  rcases (by omega : n = 0 ∨ n = 1 ∨ n = 2 ∨ n = 3 ∨ n = 4 ∨ n = 5 ∨ n = 6 ∨ n = 7) with rfl | rfl | rfl | rfl | rfl | rfl | rfl | rfl
  all_goals (cases a <;> cases b <;> decide)
/-- the head of a text that goes on anyhow -/
theorem rdS_head {c : Cu} {M : Mem} {p : Po} (h : Right c M p) (rom R : List Int) : rdS rom (headS c M p ++ R) =
    if (rdB 4 R).2.2 ≠ 0 then (sn0, (rdB 4 R).2.2) else if (rdB 4 R).2.1 ≠ [] then (sn0, 8) else (⟨c, ⟨rom, (rdB 4 R).1, M.page, M.screen, M.locked⟩, ⟨31, 31, 31, 31, 31, 31, 31, 31, 0, p.border, p.mic, p.beep⟩⟩, 0) := by
  obtain ⟨k1, k2, k3, k4, k5⟩ := bits_back c.iff c.ei c.halt M.locked (decide (M.screen = 3))
  obtain ⟨u1, u2, u3⟩ := ula_back h.border.1 h.border.2 p.mic p.beep
  have ec : cuS (headS c M p ++ R) = c := by
    show (⟨c.r0, c.r1, c.r2, c.r3, c.r4, c.r5, c.r6, c.r7, c.f, c.sp, c.pc, bitAt (bitsS c M) 1, bitAt (bitsS c M) 2, bitAt (bitsS c M) 4⟩ : Cu) = c
    unfold bitsS
    rw [k1, k2, k3]
  have em : ∀ B, meS rom (headS c M p ++ R) B = ⟨rom, B, M.page, M.screen, M.locked⟩ := fun B => by
    show (⟨rom, B, M.page, 1 + 2 * (bitsS c M / 16 % 2), bitAt (bitsS c M) 8⟩ : Mem) = _
    unfold bitsS
    rw [k4, k5]
    rcases h.screen with e | e
    · rw [e]; rfl
    · rw [e]; rfl
  have ep : poS ((headS c M p ++ R).getD 14 0) = ⟨31, 31, 31, 31, 31, 31, 31, 31, 0, p.border, p.mic, p.beep⟩ := by
    show poS (ulaS p) = _
    unfold poS ulaS
    rw [u1, u2, u3]
  have hd : (headS c M p ++ R).drop 15 = R := List.drop_left' rfl
  have b2 := b1_bd c.iff
  have b3 := b1_bd c.ei
  have b4 := b1_bd c.halt
  have b5 := b1_bd M.locked
  have b6 := b1_bd (decide (M.screen = 3))
  have b7 := b1_bd p.mic
  have b8 := b1_bd p.beep
  have t12 : (headS c M p ++ R).getD 12 0 = bitsS c M := rfl
  have t13 : (headS c M p ++ R).getD 13 0 = M.page := rfl
  have t14 : (headS c M p ++ R).getD 14 0 = ulaS p := rfl
  unfold rdS
  rw [if_neg (by rw [List.length_append, headS_len]; omega), if_neg (fun hh => hh rfl), if_neg, hd, ec, em, ep]
  rw [ec, t12, t13, t14, h.c]
  have hp := h.page
  have hb := h.border
  unfold bitsS ulaS
  intro hh
  rcases hh with hh | hh | hh | hh
  · omega
  · omega
  · omega
  · cases hh
/-- a snapshot is read back -/
theorem snap_back {c : Cu} {M : Mem} {p : Po} (h : Right c M p) (rom : List Int) : rdS rom (snapL c M p) = (⟨c, ⟨rom, M.ram, M.page, M.screen, M.locked⟩, ⟨31, 31, 31, 31, 31, 31, 31, 31, 0, p.border, p.mic, p.beep⟩⟩, 0) := by
  unfold snapL
  rw [rdS_head h]
  have := rd_back M.ram [] h.bank
  rw [List.append_nil, h.ram] at this
  rw [this]
  rfl
/-- with more behind it, it is none -/
theorem snap_more {c : Cu} {M : Mem} {p : Po} (h : Right c M p) (rom : List Int) (x : Int) (X : List Int) : (rdS rom (snapL c M p ++ x :: X)).2 = 8 := by
  unfold snapL
  rw [List.append_assoc, rdS_head h]
  have := rd_back M.ram (x :: X) h.bank
  rw [h.ram] at this
  rw [this]
  rfl
/-- cut off it is at its end -/
theorem snap_cut {c : Cu} {M : Mem} {p : Po} (h : Right c M p) (rom : List Int) {j : Nat} (hj : j < (snapL c M p).length) : (rdS rom ((snapL c M p).take j)).2 = 9 := by
  by_cases h15 : j < 15
  · unfold rdS
    rw [if_pos (by rw [List.length_take]; omega)]
  · obtain ⟨i, rfl⟩ : ∃ i, j = 15 + i := ⟨j - 15, by omega⟩
    unfold snapL at hj ⊢
    rw [List.length_append, headS_len] at hj
    have e : (headS c M p ++ bnksL M.ram).take (15 + i) = headS c M p ++ (bnksL M.ram).take i := by
      rw [List.take_append, List.take_of_length_le (by rw [headS_len]; omega), headS_len, show 15 + i - 15 = i by omega]
    rw [e, rdS_head h]
    have := rd_cut M.ram i h.bank (by omega)
    rw [h.ram] at this
    rw [this]
    rfl
/-- of another version it is none -/
theorem snap_bent {t : List Int} (rom : List Int) (h : 15 ≤ t.length) (h0 : t.getD 0 0 ≠ 3) : (rdS rom t).2 = 18 := by
  unfold rdS
  rw [if_neg (by omega), if_pos h0]
end Go.Proofs.YtghcagibdcblnaaGreatDoor

/- What the specification and the program say of ports that are right, and of new ones. -/
namespace Go.Proofs.YtghcagibdcblnaaGreatDoor
open Go.ChangeShapes Go.WideShapes Go.ChangeAt Go.RowKit
set_option linter.unusedVariables false
set_option linter.unusedSimpArgs false

theorem iswP_impl (n a b : Int) (w : World) : Calls Tryz.prog 56 #[.int .i64 n, .int .i64 a, .int .i64 b] w fun e w' => e = .returned (.bool (inB n a b)) ∧ w' = w := by
  go_enter Tryz.func56, Tryz.ntmps56
  go_wp2
  all_goals go_ret
  all_goals exact ⟨ret_bool (by rw [Bool.eq_iff_iff]; simp [inB]; try omega), rfl⟩
theorem isbP_impl (n : Int) (w : World) : Calls Tryz.prog 52 #[.int .i64 n] w fun e w' => e = .returned (.bool (inB n 0 255)) ∧ w' = w := by
  go_enter Tryz.func52, Tryz.ntmps52
  go_wp2
  all_goals go_ret
  all_goals exact ⟨ret_bool (by rw [Bool.eq_iff_iff]; simp [inB]; try omega), rfl⟩
set_option maxRecDepth 100000 in
set_option maxHeartbeats 1000000 in
theorem pok_spec (c : Po) (w : World) : Calls Tryz.prog 36 #[poV c] w fun e w' => e = .returned (.bool (okPo c)) ∧ Below w.heap.size w w' := by
  have hno : Hid (∀ k, k < 8 → inB (c.key k) 0 31 = false → okPo c = false) := fun k hk => keys_no hk
  have hall : Hid ((∀ i, i < 8 → inB (c.key i) 0 31 = true) → okPo c = (inB c.joy 0 31 && inB c.border 0 7)) := fun h => by unfold okPo; rw [keys_all h, Bool.true_and]
  have hB := hid ((Below.refl w.heap.size w).alloc (Nat.le_refl _) (.cells (poA c) 31))
  have q1 := (Blk.new w (poA c) 31).cell
  have hix := hid (poA_at c)
  obtain ⟨Q, hQ⟩ : ∃ Q, okPo c = Q := ⟨_, rfl⟩
  rw [hQ] at hno hall ⊢
  clear hQ
  go_enter Tryz.func36, Tryz.ntmps36
  go_upto_region 1 with fail
  obtain ⟨V, hV⟩ : ∃ V, w.alloc (Obj.cells (poA c) 31) = V := ⟨_, rfl⟩
  rw [hV] at hB q1 ⊢
  clear hV
  go_wp2
  go_loop [3] (fun i => ∃ k : Nat, k ≤ 8 ∧ i = .int .i64 k ∧ ∀ j, j < k → inB (c.key j) 0 31 = true) (fun i => 8 - (intOf i).toNat)
  case atStart => exact ⟨0, by omega, rfl, fun j hj => by omega⟩
  case round =>
    obtain ⟨k, hk, rfl, hj⟩ := hrel
    by_cases hlt : k < 8
    · have x1 := q1 k
      rw [hix.out k hlt] at x1
      cases hb : inB (c.key k) 0 31
      · have hE := hid (hno.out k hlt hb)
        clear hj hno hall hk q1
        generalize c.key k = y at *
        go_wp2_with (go_at_call 66; refine (in_spec _ _ _ _).mono ?_; rintro e w' ⟨rfl, rfl⟩; rw [hb])
        go_ret
        exact ⟨ret_bool hE.out.symm, hB.out⟩
      · have hj2 : Hid (∀ j, j < k + 1 → inB (c.key j) 0 31 = true) := fun j hj1 => by
          by_cases e : j = k
          · rw [e]; exact hb
          · exact hj j (by omega)
        clear hj hno hall hk q1
        generalize c.key k = y at *
        go_wp2_with (go_at_call 66; refine (in_spec _ _ _ _).mono ?_; rintro e w' ⟨rfl, rfl⟩; rw [hb])
        go_round
        case rel => exact ⟨k + 1, by omega, by go_num, hj2.out⟩
        case measure => simp [intOf]; omega
    · obtain rfl : k = 8 := by omega
      have hE := hall.out hj
      clear hj hno hall hk hlt hix
      cases h1 : inB c.joy 0 31
      · rw [h1] at hE
        replace hE := hid hE
        go_wp2_with (go_at_call 66; refine (in_spec _ _ _ _).mono ?_; rintro e w' ⟨rfl, rfl⟩; rw [h1])
        go_ret
        exact ⟨ret_bool (by rw [hE.out]; rfl), hB.out⟩
      · rw [h1] at hE
        replace hE := hid hE
        go_wp2_with (go_at_call 66; refine (in_spec _ _ _ _).mono ?_; rintro e w' ⟨rfl, rfl⟩; try rw [h1])
        go_ret
        exact ⟨ret_bool (by rw [hE.out]; simp), hB.out⟩
theorem kyP_at (c : Po) (k : Nat) (hk : k < 8) (w : World) : (Instr.index 23 (.agg #[.int .i64 c.k0, .int .i64 c.k1, .int .i64 c.k2, .int .i64 c.k3, .int .i64 c.k4, .int .i64 c.k5, .int .i64 c.k6, .int .i64 c.k7]) (.int .i64 (k : Int))).run Tryz.prog w = .ok (.int .i64 (c.key k)) w := by
  rcases (by omega : k = 0 ∨ k = 1 ∨ k = 2 ∨ k = 3 ∨ k = 4 ∨ k = 5 ∨ k = 6 ∨ k = 7) with rfl | rfl | rfl | rfl | rfl | rfl | rfl | rfl <;> kernel_rfl
set_option maxRecDepth 100000 in
set_option maxHeartbeats 1000000 in
theorem pok_impl (c : Po) (w : World) : Calls Tryz.prog 29 #[poV c] w fun e w' => e = .returned (.bool (okPo c)) ∧ Below w.heap.size w w' := by
  have hno : Hid (∀ k, k < 8 → inB (c.key k) 0 31 = false → okPo c = false) := fun k hk => keys_no hk
  have hall : Hid ((∀ i, i < 8 → inB (c.key i) 0 31 = true) → okPo c = (inB c.joy 0 31 && inB c.border 0 7)) := fun h => by unfold okPo; rw [keys_all h, Bool.true_and]
  have hB := hid ((Below.refl w.heap.size w).alloc (Nat.le_refl _) (.cells (poA c) 31))
  have q1 := (Blk.new w (poA c) 31).cell
  have hix := hid (kyP_at c)
  obtain ⟨Q, hQ⟩ : ∃ Q, okPo c = Q := ⟨_, rfl⟩
  rw [hQ] at hno hall ⊢
  clear hQ
  go_enter Tryz.func29, Tryz.ntmps29
  go_upto_region 1 with fail
  obtain ⟨V, hV⟩ : ∃ V, w.alloc (Obj.cells (poA c) 31) = V := ⟨_, rfl⟩
  rw [hV] at hB q1 ⊢
  clear hV
  go_wp2
  go_loop [7] (fun i => ∃ k : Nat, k ≤ 8 ∧ i = .int .i64 k ∧ ∀ j, j < k → inB (c.key j) 0 31 = true) (fun i => 8 - (intOf i).toNat)
  case atStart => exact ⟨0, by omega, rfl, fun j hj => by omega⟩
  case round =>
    obtain ⟨k, hk, rfl, hj⟩ := hrel
    by_cases hlt : k < 8
    · have i1 := hix.out k hlt
      cases hb : inB (c.key k) 0 31
      · have hE := hid (hno.out k hlt hb)
        clear hj hno hall hk
        generalize c.key k = y at *
        go_wp2_with (go_at_call 56; refine (iswP_impl _ _ _ _).mono ?_; rintro e w' ⟨rfl, rfl⟩; rw [hb])
        go_ret
        exact ⟨ret_bool hE.out.symm, hB.out⟩
      · have hj2 : Hid (∀ j, j < k + 1 → inB (c.key j) 0 31 = true) := fun j hj1 => by
          by_cases e : j = k
          · rw [e]; exact hb
          · exact hj j (by omega)
        clear hj hno hall hk
        generalize c.key k = y at *
        go_wp2_with (go_at_call 56; refine (iswP_impl _ _ _ _).mono ?_; rintro e w' ⟨rfl, rfl⟩; rw [hb])
        go_round
        case rel => exact ⟨k + 1, by omega, by go_num, hj2.out⟩
        case measure => simp [intOf]; omega
    · obtain rfl : k = 8 := by omega
      have hE := hall.out hj
      clear hj hno hall hk hlt hix
      cases h1 : inB c.joy 0 31
      · rw [h1] at hE
        replace hE := hid hE
        go_wp2_with (go_at_call 56; refine (iswP_impl _ _ _ _).mono ?_; rintro e w' ⟨rfl, rfl⟩; rw [h1])
        go_ret
        exact ⟨ret_bool (by rw [hE.out]; rfl), hB.out⟩
      · rw [h1] at hE
        replace hE := hid hE
        go_wp2_with (go_at_call 56; refine (iswP_impl _ _ _ _).mono ?_; rintro e w' ⟨rfl, rfl⟩; try rw [h1])
        go_ret
        exact ⟨ret_bool (by rw [hE.out]; simp), hB.out⟩
/-- new ports -/
abbrev neP : Po := ⟨31, 31, 31, 31, 31, 31, 31, 31, 0, 7, false, false⟩
/-- new ports while the first k rows are laid -/
def nkZ (k i : Nat) : Value := .int .i64 (if i < k then 31 else 0)
def nkA (k : Nat) : Array Value := #[nkZ k 0, nkZ k 1, nkZ k 2, nkZ k 3, nkZ k 4, nkZ k 5, nkZ k 6, nkZ k 7, .int .i64 0, .int .i64 7, .bool false, .bool false]
theorem nkA_all : nkA 8 = poA neP := rfl
theorem nkA_succ (k : Nat) (hk : k < 8) : (nkA k).setIfInBounds k (.int .i64 31) = nkA (k + 1) := by
  rcases eight hk with rfl | rfl | rfl | rfl | rfl | rfl | rfl | rfl <;> rfl
theorem nkA_at (k : Nat) (hk : k < 8) : (nkA k)[k]? = some (.int .i64 0) := by
  rcases eight hk with rfl | rfl | rfl | rfl | rfl | rfl | rfl | rfl <;> rfl
set_option maxRecDepth 100000 in
set_option maxHeartbeats 1000000 in
theorem newpo_spec (w : World) : Calls Tryz.prog 48 #[] w fun e w' => e = .returned (poV neP) ∧ Below w.heap.size w w' := by
  have hs := hid (two_in (w := w) (poA zeP) (nkA 0) 31 31)
  go_enter Tryz.func48, Tryz.ntmps48
  go_wp2
  go_loopw [2] (fun i wr => ∃ k : Nat, k ≤ 8 ∧ i = .int .i64 k ∧ Blk wr w.heap.size (poA zeP) ∧ Blk wr (w.heap.size + 1) (nkA k) ∧ Below w.heap.size w wr) (fun i _ => 8 - (intOf i).toNat)
  case atStart => exact ⟨0, by omega, rfl, hs.out⟩
  case round =>
    obtain ⟨k, hk, rfl, q0, q1, hB⟩ := hrel
    clear hs
    by_cases hlt : k < 8
    · have x1 := q1.cell k
      rw [nkA_at k hlt] at x1
      have f1 := q1.frozen k
      have q2 := q1.set k (.int .i64 31)
      rw [nkA_succ k hlt] at q2
      have hn : Hid (Blk (wr.setCell ⟨w.heap.size + 1, k, none⟩ (.int .i64 31)) w.heap.size (poA zeP) ∧ Blk (wr.setCell ⟨w.heap.size + 1, k, none⟩ (.int .i64 31)) (w.heap.size + 1) (nkA (k + 1)) ∧ Below w.heap.size w (wr.setCell ⟨w.heap.size + 1, k, none⟩ (.int .i64 31))) := ⟨q0.other (by simp) _, q2, hB.setCell (p := ⟨w.heap.size + 1, k, none⟩) (by simp only []; omega) _⟩
      clear q0 q1 hB q2
      go_wp2
      go_roundw
      case rel => exact ⟨k + 1, by omega, by go_num, hn.out⟩
      case measure => simp [intOf]; omega
    · obtain rfl : k = 8 := by omega
      rw [nkA_all] at q1
      have x0 := q0.cell
      have f0 := q0.frozen
      have l0 := q0.lt
      have x1 := q1.cell
      replace hB := hid hB
      clear q0 q1
      go_wp2
      refine bodyPost_ret (v := poV neP) (by simp [results, Tryz.results48, go_sem, x0]) rfl ⟨rfl, ?_⟩
      repeat refine Below.setCell ?_ (by first | omega | (simp; done) | (simp; omega)) _
      exact hB.out
set_option maxRecDepth 100000 in
set_option maxHeartbeats 1000000 in
theorem newpo_impl (w : World) : Calls Tryz.prog 90 #[] w fun e w' => e = .returned (poV neP) ∧ Below w.heap.size w w' := by
  have hs := hid (two_in (w := w) (poA zeP) (nkA 0) 31 31)
  go_enter Tryz.func90, Tryz.ntmps90
  go_wp2
  go_loopw [4] (fun i wr => ∃ k : Nat, k ≤ 8 ∧ i = .int .i64 k ∧ Blk wr w.heap.size (poA zeP) ∧ Blk wr (w.heap.size + 1) (nkA k) ∧ Below w.heap.size w wr) (fun i _ => 8 - (intOf i).toNat)
  case atStart => exact ⟨0, by omega, rfl, hs.out⟩
  case round =>
    obtain ⟨k, hk, rfl, q0, q1, hB⟩ := hrel
    clear hs
    by_cases hlt : k < 8
    · have x1 := q1.cell k
      rw [nkA_at k hlt] at x1
      have f1 := q1.frozen k
      have q2 := q1.set k (.int .i64 31)
      rw [nkA_succ k hlt] at q2
      have hn : Hid (Blk (wr.setCell ⟨w.heap.size + 1, k, none⟩ (.int .i64 31)) w.heap.size (poA zeP) ∧ Blk (wr.setCell ⟨w.heap.size + 1, k, none⟩ (.int .i64 31)) (w.heap.size + 1) (nkA (k + 1)) ∧ Below w.heap.size w (wr.setCell ⟨w.heap.size + 1, k, none⟩ (.int .i64 31))) := ⟨q0.other (by simp) _, q2, hB.setCell (p := ⟨w.heap.size + 1, k, none⟩) (by simp only []; omega) _⟩
      clear q0 q1 hB q2
      go_wp2
      go_roundw
      case rel => exact ⟨k + 1, by omega, by go_num, hn.out⟩
      case measure => simp [intOf]; omega
    · obtain rfl : k = 8 := by omega
      rw [nkA_all] at q1
      have x0 := q0.cell
      have f0 := q0.frozen
      have l0 := q0.lt
      have x1 := q1.cell
      replace hB := hid hB
      clear q0 q1
      go_wp2
      refine bodyPost_ret (v := poV neP) (by simp [results, Tryz.results90, go_sem, x0]) rfl ⟨rfl, ?_⟩
      repeat refine Below.setCell ?_ (by first | omega | (simp; done) | (simp; omega)) _
      exact hB.out
end Go.Proofs.YtghcagibdcblnaaGreatDoor
