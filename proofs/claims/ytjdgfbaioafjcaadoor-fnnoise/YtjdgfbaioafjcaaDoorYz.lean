/- Plain facts of the sound chip's laws. -/
import Derived.Test.YtjdgfbaioafjcaaDoorYs
import Derived.Test.YtjdgfbaioafjcaaDoorYl
import Derived.Test.YtjdgfbaioafjcaaDoorYu
namespace Go.Proofs.YtjdgfbaioafjcaaDoor
open Go.ChangeShapes Go.WideShapes Go.ChangeAt Go.RowKit
set_option linter.unusedVariables false

theorem step2_ok {c : Sg} (h : okS c = true) {n : Nat} (hn : n ≤ 1000) : step2 c (n : Int) = (c.steps n, 0) := by
  unfold step2
  rw [if_pos h, if_pos (by simp [inB]; omega), Int.toNat_natCast]
theorem write2_ok {c : Sg} (h : okS c = true) {n : Nat} (hn : n < 256) : write2 c (n : Int) = (c.write n, 0) := by
  unfold write2
  rw [if_pos h, if_pos (by simp [inB]; omega), Int.toNat_natCast]
theorem land7S : ∀ r : Nat, r < 8 → Nat.land r 7 = r := by decide +kernel
theorem sel2_ok {c : Sg} (h : okS c = true) {n : Nat} (hn : n < 8) : sel2 c (n : Int) = ({ c with sel := (n : Int) }, 0) := by
  unfold sel2
  rw [if_pos h, if_pos (by simp [inB]; omega), Int.toNat_natCast, land7S n hn]
theorem write_sel (c : Sg) (v : Nat) : (c.write v).sel = c.sel := by
  unfold Sg.write
  split <;> exact put_sel _ _ _
theorem put_reg (c : Sg) (v : Int) (k : Nat) (hk : k < 8) : (c.put v k).reg k = v := by
  rcases eight hk with rfl | rfl | rfl | rfl | rfl | rfl | rfl | rfl <;> rfl
theorem put_put (c : Sg) (v u : Int) (k : Nat) (hk : k < 8) : (c.put v k).put u k = c.put u k := by
  rcases eight hk with rfl | rfl | rfl | rfl | rfl | rfl | rfl | rfl <;> rfl
theorem write_reg (c : Sg) (s v : Nat) (hs : c.sel = s) (h8 : s < 8) : (c.write v).reg s = ((Nat.land v (maskN s) : Nat) : Int) := by
  rw [write_eq c s v hs]
  split
  · rcases eight h8 with rfl | rfl | rfl | rfl | rfl | rfl | rfl | rfl <;> rfl
  · exact put_reg _ _ _ h8
theorem land_again (v m : Nat) : Nat.land (Nat.land v m) m = Nat.land v m := by
  show (v &&& m) &&& m = v &&& m
  rw [Nat.and_assoc, Nat.and_self]
theorem land_back (v m : Nat) : Nat.land (Nat.land v m) v = Nat.land v m := by
  show (v &&& m) &&& v = v &&& m
  rw [Nat.and_comm (v &&& m) v, ← Nat.and_assoc, Nat.and_self]
theorem write_again (c : Sg) (s v : Nat) (hs : c.sel = s) (h8 : s < 8) : (c.write v).write (Nat.land v (maskN s)) = c.write v := by
  rw [write_eq (c.write v) s _ (by rw [write_sel]; exact hs), land_again, write_eq c s v hs]
  split
  · rename_i h
    subst h
    rfl
  · rw [put_put _ _ _ _ h8]
theorem land255 : ∀ v : Nat, v < 256 → Nat.land v 255 = v := by decide +kernel
theorem readS2_ok {c : Sg} (h : okS c = true) {s : Nat} (hs : c.sel = s) : readS2 c = (c.reg s, 0) := by
  unfold readS2
  rw [if_pos h, hs, Int.toNat_natCast]
/-- a tone counts up to its period, and turns about -/
theorem tone_run (p : Sg) (n : Nat) (hr : p.r0 = n) (hc : p.c0 = 0) : ∀ k, k < n → (p.steps k).c0 = k ∧ (p.steps k).o0 = p.o0 ∧ (p.steps k).r0 = n := by
  intro k
  induction k with
  | zero => intro _; exact ⟨hc, rfl, hr⟩
  | succ k ih =>
    intro hk
    obtain ⟨h1, h2, h3⟩ := ih (by omega)
    obtain ⟨t1, t2⟩ := tick_no (c := k) (p := n) (by omega)
    have e1 : (p.steps (k + 1)).c0 = ((tickV (p.steps k).c0.toNat (p.steps k).r0.toNat : Nat) : Int) := rfl
    have e2 : (p.steps (k + 1)).o0 = Bool.xor (p.steps k).o0 (tickB (p.steps k).c0.toNat (p.steps k).r0.toNat) := rfl
    have e3 : (p.steps (k + 1)).r0 = (p.steps k).r0 := rfl
    rw [e1, e2, e3, h1, h2, h3, Int.toNat_natCast, Int.toNat_natCast, t1, t2]
    exact ⟨rfl, by cases p.o0 <;> rfl, rfl⟩
theorem tone_turn (p : Sg) (n : Nat) (hn : 1 ≤ n) (hr : p.r0 = n) (hc : p.c0 = 0) : (p.steps n).c0 = 0 ∧ (p.steps n).o0 = !p.o0 ∧ (p.steps n).r0 = n := by
  obtain ⟨k, rfl⟩ : ∃ k, n = k + 1 := ⟨n - 1, by omega⟩
  obtain ⟨h1, h2, h3⟩ := tone_run p (k + 1) hr hc k (by omega)
  obtain ⟨t1, t2⟩ := tick_yes (c := k) (p := k + 1) (by omega)
  have e1 : (p.steps (k + 1)).c0 = ((tickV (p.steps k).c0.toNat (p.steps k).r0.toNat : Nat) : Int) := rfl
  have e2 : (p.steps (k + 1)).o0 = Bool.xor (p.steps k).o0 (tickB (p.steps k).c0.toNat (p.steps k).r0.toNat) := rfl
  have e3 : (p.steps (k + 1)).r0 = (p.steps k).r0 := rfl
  rw [e1, e2, e3, h1, h2, h3, Int.toNat_natCast, Int.toNat_natCast, t1, t2]
  exact ⟨rfl, by cases p.o0 <;> rfl, rfl⟩
theorem lev2_ok {c : Sg} (h : okS c = true) : lev2 c = (((levN c : Nat) : Int), 0) := by
  unfold lev2
  rw [if_pos h]
theorem levN_le {c : Sg} (h : okS c = true) : levN c ≤ 30 := by
  obtain ⟨hr, hs, h0, h1, hn, hsh, he, hec⟩ := (okS_iff c).1 h
  have b4 := hr 4 (by omega)
  have b5 := hr 5 (by omega)
  simp only [Sg.reg, maskN] at b4 b5
  have a0 := chN_le c.o0 c.shift.toNat c.r3.toNat 0 c.r7.toNat c.env.toNat c.r4.toNat (by omega) (by omega)
  have a1 := chN_le c.o1 c.shift.toNat c.r3.toNat 1 c.r7.toNat c.env.toNat c.r5.toNat (by omega) (by omega)
  have e : levN c = chN c.o0 c.shift.toNat c.r3.toNat 0 c.r7.toNat c.env.toNat c.r4.toNat + chN c.o1 c.shift.toNat c.r3.toNat 1 c.r7.toNat c.env.toNat c.r5.toNat := rfl
  rw [e]
  omega
end Go.Proofs.YtjdgfbaioafjcaaDoor
