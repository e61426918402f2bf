/- Snapshots as plain lists of bytes: written, read back, cut off, with more behind them, of another version. -/
import Derived.Test.YtghcagibdcblnaaDoorR02
import Derived.Test.YtghcagibdcblnaaDoorR05
import Derived.Test.YtghcagibdcblnaaDoorR06
namespace Go.Proofs.YtghcagibdcblnaaDoor
set_option linter.unusedVariables false
set_option linter.unusedSimpArgs false

def b1 (b : Bool) : Int := if b then 1 else 0
theorem b1_bd (b : Bool) : 0 ≤ b1 b ∧ b1 b ≤ 1 := by cases b <;> decide
def bitsS (c : Cu) (M : Mem) : Int := b1 c.iff + 2 * b1 c.ei + 4 * b1 c.halt + 8 * b1 M.locked + 16 * b1 (decide (M.screen = 3))
def ulaS (p : Po) : Int := p.border + 8 * b1 p.mic + 16 * b1 p.beep
def headS (c : Cu) (M : Mem) (p : Po) : List Int := [3, c.r0, c.r1, c.r2, c.r3, c.r4, c.r5, c.r6, c.r7, c.f, c.sp, c.pc, bitsS c M, M.page, ulaS p]
def snapL (c : Cu) (M : Mem) (p : Po) : List Int := headS c M p ++ bnksL M.ram
structure Sn where
  c : Cu
  m : Mem
  p : Po
def bitAt (n : Int) (k : Int) : Bool := decide (n / k % 2 = 1)
/-- the processor that a text tells -/
def cuS (t : List Int) : Cu := ⟨t.getD 1 0, t.getD 2 0, t.getD 3 0, t.getD 4 0, t.getD 5 0, t.getD 6 0, t.getD 7 0, t.getD 8 0, t.getD 9 0, t.getD 10 0, t.getD 11 0, bitAt (t.getD 12 0) 1, bitAt (t.getD 12 0) 2, bitAt (t.getD 12 0) 4⟩
def poS (u : Int) : Po := ⟨31, 31, 31, 31, 31, 31, 31, 31, 0, u % 8, bitAt u 8, bitAt u 16⟩
def meS (rom : List Int) (t : List Int) (B : List (List Int)) : Mem := ⟨rom, B, t.getD 13 0, 1 + 2 * (t.getD 12 0 / 16 % 2), bitAt (t.getD 12 0) 8⟩
def sn0 : Sn := ⟨⟨0, 0, 0, 0, 0, 0, 0, 0, 0, 0, 0, false, false, false⟩, mem0, ⟨0, 0, 0, 0, 0, 0, 0, 0, 0, 0, false, false⟩⟩
def rdS (rom t : List Int) : Sn × Int :=
  if t.length < 15 then (sn0, 9) else if t.getD 0 0 ≠ 3 then (sn0, 18)
  else if 31 < t.getD 12 0 ∨ 31 < t.getD 14 0 ∨ 3 < t.getD 13 0 ∨ okC (cuS t) = false then (sn0, 3)
  else if (rdB 4 (t.drop 15)).2.2 ≠ 0 then (sn0, (rdB 4 (t.drop 15)).2.2) else if (rdB 4 (t.drop 15)).2.1 ≠ [] then (sn0, 8)
  else (⟨cuS t, meS rom t (rdB 4 (t.drop 15)).1, poS (t.getD 14 0)⟩, 0)
structure Right (c : Cu) (M : Mem) (p : Po) : Prop where
  c : okC c = true
  ram : M.ram.length = 4
  bank : ∀ b ∈ M.ram, b.length = 64
  page : 0 ≤ M.page ∧ M.page ≤ 3
  screen : M.screen = 1 ∨ M.screen = 3
  border : 0 ≤ p.border ∧ p.border ≤ 7
theorem headS_len (c : Cu) (M : Mem) (p : Po) : (headS c M p).length = 15 := rfl
theorem bits_back (a b c d e : Bool) : bitAt (b1 a + 2 * b1 b + 4 * b1 c + 8 * b1 d + 16 * b1 e) 1 = a ∧ bitAt (b1 a + 2 * b1 b + 4 * b1 c + 8 * b1 d + 16 * b1 e) 2 = b ∧ bitAt (b1 a + 2 * b1 b + 4 * b1 c + 8 * b1 d + 16 * b1 e) 4 = c ∧ bitAt (b1 a + 2 * b1 b + 4 * b1 c + 8 * b1 d + 16 * b1 e) 8 = d ∧ (b1 a + 2 * b1 b + 4 * b1 c + 8 * b1 d + 16 * b1 e) / 16 % 2 = b1 e := by
  cases a <;> cases b <;> cases c <;> cases d <;> cases e <;> decide
theorem ula_back {n : Int} (h0 : 0 ≤ n) (h1 : n ≤ 7) (a b : Bool) : (n + 8 * b1 a + 16 * b1 b) % 8 = n ∧ bitAt (n + 8 * b1 a + 16 * b1 b) 8 = a ∧ bitAt (n + 8 * b1 a + 16 * b1 b) 16 = b := by
  rcases (by omega : n = 0 ∨ n = 1 ∨ n = 2 ∨ n = 3 ∨ n = 4 ∨ n = 5 ∨ n = 6 ∨ n = 7) with rfl | rfl | rfl | rfl | rfl | rfl | rfl | rfl
  all_goals (cases a <;> cases b <;> decide)
/-- the head of a text that goes on anyhow -/
theorem rdS_head {c : Cu} {M : Mem} {p : Po} (h : Right c M p) (rom R : List Int) : rdS rom (headS c M p ++ R) =
    if (rdB 4 R).2.2 ≠ 0 then (sn0, (rdB 4 R).2.2) else if (rdB 4 R).2.1 ≠ [] then (sn0, 8) else (⟨c, ⟨rom, (rdB 4 R).1, M.page, M.screen, M.locked⟩, ⟨31, 31, 31, 31, 31, 31, 31, 31, 0, p.border, p.mic, p.beep⟩⟩, 0) := by
  obtain ⟨k1, k2, k3, k4, k5⟩ := bits_back c.iff c.ei c.halt M.locked (decide (M.screen = 3))
  obtain ⟨u1, u2, u3⟩ := ula_back h.border.1 h.border.2 p.mic p.beep
  have ec : cuS (headS c M p ++ R) = c := by
    show (⟨c.r0, c.r1, c.r2, c.r3, c.r4, c.r5, c.r6, c.r7, c.f, c.sp, c.pc, bitAt (bitsS c M) 1, bitAt (bitsS c M) 2, bitAt (bitsS c M) 4⟩ : Cu) = c
    unfold bitsS
    rw [k1, k2, k3]
  have em : ∀ B, meS rom (headS c M p ++ R) B = ⟨rom, B, M.page, M.screen, M.locked⟩ := fun B => by
    show (⟨rom, B, M.page, 1 + 2 * (bitsS c M / 16 % 2), bitAt (bitsS c M) 8⟩ : Mem) = _
    unfold bitsS
    rw [k4, k5]
    rcases h.screen with e | e
    · rw [e]; rfl
    · rw [e]; rfl
  have ep : poS ((headS c M p ++ R).getD 14 0) = ⟨31, 31, 31, 31, 31, 31, 31, 31, 0, p.border, p.mic, p.beep⟩ := by
    show poS (ulaS p) = _
    unfold poS ulaS
    rw [u1, u2, u3]
  have hd : (headS c M p ++ R).drop 15 = R := List.drop_left' rfl
  have b2 := b1_bd c.iff
  have b3 := b1_bd c.ei
  have b4 := b1_bd c.halt
  have b5 := b1_bd M.locked
  have b6 := b1_bd (decide (M.screen = 3))
  have b7 := b1_bd p.mic
  have b8 := b1_bd p.beep
  have t12 : (headS c M p ++ R).getD 12 0 = bitsS c M := rfl
  have t13 : (headS c M p ++ R).getD 13 0 = M.page := rfl
  have t14 : (headS c M p ++ R).getD 14 0 = ulaS p := rfl
  unfold rdS
  rw [if_neg (by rw [List.length_append, headS_len]; omega), if_neg (fun hh => hh rfl), if_neg, hd, ec, em, ep]
  rw [ec, t12, t13, t14, h.c]
  have hp := h.page
  have hb := h.border
  unfold bitsS ulaS
  intro hh
  rcases hh with hh | hh | hh | hh
  · omega
  · omega
  · omega
  · cases hh
/-- a snapshot is read back -/
theorem snap_back {c : Cu} {M : Mem} {p : Po} (h : Right c M p) (rom : List Int) : rdS rom (snapL c M p) = (⟨c, ⟨rom, M.ram, M.page, M.screen, M.locked⟩, ⟨31, 31, 31, 31, 31, 31, 31, 31, 0, p.border, p.mic, p.beep⟩⟩, 0) := by
  unfold snapL
  rw [rdS_head h]
  have := rd_back M.ram [] h.bank
  rw [List.append_nil, h.ram] at this
  rw [this]
  rfl
/-- with more behind it, it is none -/
theorem snap_more {c : Cu} {M : Mem} {p : Po} (h : Right c M p) (rom : List Int) (x : Int) (X : List Int) : (rdS rom (snapL c M p ++ x :: X)).2 = 8 := by
  unfold snapL
  rw [List.append_assoc, rdS_head h]
  have := rd_back M.ram (x :: X) h.bank
  rw [h.ram] at this
  rw [this]
  rfl
/-- cut off it is at its end -/
theorem snap_cut {c : Cu} {M : Mem} {p : Po} (h : Right c M p) (rom : List Int) {j : Nat} (hj : j < (snapL c M p).length) : (rdS rom ((snapL c M p).take j)).2 = 9 := by
  by_cases h15 : j < 15
  · unfold rdS
    rw [if_pos (by rw [List.length_take]; omega)]
  · obtain ⟨i, rfl⟩ : ∃ i, j = 15 + i := ⟨j - 15, by omega⟩
    unfold snapL at hj ⊢
    rw [List.length_append, headS_len] at hj
    have e : (headS c M p ++ bnksL M.ram).take (15 + i) = headS c M p ++ (bnksL M.ram).take i := by
      rw [List.take_append, List.take_of_length_le (by rw [headS_len]; omega), headS_len, show 15 + i - 15 = i by omega]
    rw [e, rdS_head h]
    have := rd_cut M.ram i h.bank (by omega)
    rw [h.ram] at this
    rw [this]
    rfl
/-- of another version it is none -/
theorem snap_bent {t : List Int} (rom : List Int) (h : 15 ≤ t.length) (h0 : t.getD 0 0 ≠ 3) : (rdS rom t).2 = 18 := by
  unfold rdS
  rw [if_neg (by omega), if_pos h0]
end Go.Proofs.YtghcagibdcblnaaDoor
