/- One tick of the sound chip, as plain numbers. -/
import Derived.Test.YtjdgfbaioafjcaaDoorYe
namespace Go.Proofs.YtjdgfbaioafjcaaDoor
open Go.ChangeShapes Go.WideShapes Go.ChangeAt Go.RowKit
set_option linter.unusedVariables false
set_option linter.unusedSimpArgs false

/-- the noise's next number -/
def shN (s : Nat) : Nat := Nat.lor (s / 2) (Nat.xor (Nat.land s 1) (Nat.land (s / 8) 1) * 65536)
/-- the envelope's next place, by its shape -/
def env1 (e : Nat) : Nat := if 31 < e + 1 then 0 else e + 1
def env2 (sh e : Nat) : Nat := if sh < 2 ∧ 15 < e then 15 else e
def env3 (sh e : Nat) : Nat := if sh = 2 ∧ 15 < e then 0 else e
def envN (sh e : Nat) : Nat := env3 sh (env2 sh (env1 e))
/-- both channels; the noise; the envelope -/
def Sg.ch0 (p : Sg) : Sg := { p with c0 := (tickV p.c0.toNat p.r0.toNat : Nat), o0 := Bool.xor p.o0 (tickB p.c0.toNat p.r0.toNat) }
def Sg.ch1 (p : Sg) : Sg := { p with c1 := (tickV p.c1.toNat p.r1.toNat : Nat), o1 := Bool.xor p.o1 (tickB p.c1.toNat p.r1.toNat) }
def Sg.noi (p : Sg) : Sg := { p with noise := (tickV p.noise.toNat p.r2.toNat : Nat), shift := if tickB p.noise.toNat p.r2.toNat = true then ((shN p.shift.toNat : Nat) : Int) else p.shift }
def Sg.envl (p : Sg) : Sg := { p with ec := (tickV p.ec.toNat p.r6.toNat : Nat), env := if tickB p.ec.toNat p.r6.toNat = true then ((envN p.r7.toNat p.env.toNat : Nat) : Int) else p.env }
def Sg.step (p : Sg) : Sg := p.ch0.ch1.noi.envl
theorem shN_bd (s : Nat) (h1 : 1 ≤ s) (h2 : s < 131072) : 1 ≤ shN s ∧ shN s < 131072 := by
  unfold shN
  have a1 : Nat.land s 1 = s % 2 := Nat.and_one_is_mod s
  have a2 : Nat.land (s / 8) 1 = s / 8 % 2 := Nat.and_one_is_mod (s / 8)
  rw [a1, a2]
  have hx : Nat.xor (s % 2) (s / 8 % 2) < 2 := Nat.xor_lt_two_pow (n := 1) (by omega) (by omega)
  have hup : Nat.lor (s / 2) (Nat.xor (s % 2) (s / 8 % 2) * 65536) < 2 ^ 17 := Nat.or_lt_two_pow (by omega) (by omega)
  refine ⟨?_, by omega⟩
  by_cases h : s = 1
  · subst h; decide
  · have : s / 2 ≤ Nat.lor (s / 2) (Nat.xor (s % 2) (s / 8 % 2) * 65536) := Nat.left_le_or
    omega
theorem envN_le (sh e : Nat) (h : e ≤ 31) : envN sh e ≤ 31 := by
  unfold envN env3 env2 env1
  repeat' split
  all_goals omega
theorem okS_step {p : Sg} (h : okS p = true) : okS p.step = true := by
  rw [okS_iff] at h ⊢
  obtain ⟨hr, hs, h0, h1, hn, hsh, he, hec⟩ := h
  have r0 := hr 0 (by omega)
  have r1 := hr 1 (by omega)
  have r2 := hr 2 (by omega)
  have r6 := hr 6 (by omega)
  simp only [Sg.reg, maskN] at r0 r1 r2 r6
  have t0 := tickV_le p.c0.toNat p.r0.toNat 255 (by omega) (by omega)
  have t1 := tickV_le p.c1.toNat p.r1.toNat 255 (by omega) (by omega)
  have t2 := tickV_le p.noise.toNat p.r2.toNat 31 (by omega) (by omega)
  have t3 := tickV_le p.ec.toNat p.r6.toNat 255 (by omega) (by omega)
  have t4 := shN_bd p.shift.toNat (by omega) (by omega)
  have t5 := envN_le p.r7.toNat p.env.toNat (by omega)
  refine ⟨fun i hi => ?_, hs, ?_, ?_, ?_, ?_, ?_, ?_⟩
  · have := hr i hi
    rcases eight hi with rfl | rfl | rfl | rfl | rfl | rfl | rfl | rfl <;> exact this
  · show 0 ≤ ((tickV p.c0.toNat p.r0.toNat : Nat) : Int) ∧ ((tickV p.c0.toNat p.r0.toNat : Nat) : Int) ≤ 255
    omega
  · show 0 ≤ ((tickV p.c1.toNat p.r1.toNat : Nat) : Int) ∧ ((tickV p.c1.toNat p.r1.toNat : Nat) : Int) ≤ 255
    omega
  · show 0 ≤ ((tickV p.noise.toNat p.r2.toNat : Nat) : Int) ∧ ((tickV p.noise.toNat p.r2.toNat : Nat) : Int) ≤ 31
    omega
  · show 1 ≤ (if tickB p.noise.toNat p.r2.toNat = true then ((shN p.shift.toNat : Nat) : Int) else p.shift) ∧ (if tickB p.noise.toNat p.r2.toNat = true then ((shN p.shift.toNat : Nat) : Int) else p.shift) ≤ 131071
    split <;> omega
  · show 0 ≤ (if tickB p.ec.toNat p.r6.toNat = true then ((envN p.r7.toNat p.env.toNat : Nat) : Int) else p.env) ∧ (if tickB p.ec.toNat p.r6.toNat = true then ((envN p.r7.toNat p.env.toNat : Nat) : Int) else p.env) ≤ 31
    split <;> omega
  · show 0 ≤ ((tickV p.ec.toNat p.r6.toNat : Nat) : Int) ∧ ((tickV p.ec.toNat p.r6.toNat : Nat) : Int) ≤ 255
    omega
/-- so many ticks -/
def Sg.steps (p : Sg) : Nat → Sg
  | 0 => p
  | n + 1 => (p.steps n).step
theorem steps_add (p : Sg) (n k : Nat) : p.steps (n + k) = (p.steps n).steps k := by
  induction k with
  | zero => rfl
  | succ k ih =>
    show (p.steps (n + k)).step = ((p.steps n).steps k).step
    rw [ih]
theorem okS_steps {p : Sg} (h : okS p = true) (n : Nat) : okS (p.steps n) = true := by
  induction n with
  | zero => exact h
  | succ n ih => exact okS_step ih
end Go.Proofs.YtjdgfbaioafjcaaDoor
