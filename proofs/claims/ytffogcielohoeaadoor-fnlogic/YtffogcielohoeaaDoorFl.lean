/- Plain facts of logic and of tested bits: and and exclusive or together are or; what the flags tell. -/
import Derived.Test.YtffogcielohoeaaDoorFa
import Derived.Test.YtffogcielohoeaaDoorPt
namespace Go.Proofs.YtffogcielohoeaaDoor
set_option linter.unusedVariables false

theorem axo_all0 : allB 128 (fun a => allB 256 fun b => Nat.beq (Nat.add (Nat.land a b) (Nat.xor a b)) (Nat.lor a b)) = true := by decide +kernel
theorem axo_all1 : allB 128 (fun a => allB 256 fun b => Nat.beq (Nat.add (Nat.land (Nat.add 128 a) b) (Nat.xor (Nat.add 128 a) b)) (Nat.lor (Nat.add 128 a) b)) = true := by decide +kernel
theorem axo (a b : Nat) (ha : a < 256) (hb : b < 256) : Nat.land a b + Nat.xor a b = Nat.lor a b := by
  by_cases h : a < 128
  · exact Nat.eq_of_beq_eq_true (allB_at (allB_at axo_all0 a h) b hb)
  · have := Nat.eq_of_beq_eq_true (allB_at (allB_at axo_all1 (a - 128) (by omega)) b hb)
    have e : Nat.add 128 (a - 128) = a := by show 128 + (a - 128) = a; omega
    rw [e] at this
    exact this
theorem par_all : allB 256 (fun v => and (Nat.beq (Nat.beq (Nat.land (szpN v) 4) 0).toNat (prf 8 v).toNat) (and (Nat.beq (Nat.beq (Nat.land (Nat.lor (szpN v) 16) 4) 0).toNat (prf 8 v).toNat) (and (Nat.beq (Nat.land (Nat.lor (szpN v) 16) 16) 16) (Nat.beq (Nat.beq (Nat.land (szpN v) 64) 0).toNat (not (Nat.beq v 0)).toNat)))) = true := by decide +kernel
theorem par_at (v : Nat) (hv : v < 256) : (Nat.beq (Nat.land (szpN v) 4) 0) = prf 8 v ∧ (Nat.beq (Nat.land (Nat.lor (szpN v) 16) 4) 0) = prf 8 v ∧ Nat.land (Nat.lor (szpN v) 16) 16 = 16 ∧ (Nat.beq (Nat.land (szpN v) 64) 0) = (not (Nat.beq v 0)) := by
  have h := allB_at par_all v hv
  simp only [Bool.and_eq_true] at h
  exact ⟨toNat_inj (Nat.eq_of_beq_eq_true h.1), toNat_inj (Nat.eq_of_beq_eq_true h.2.1), Nat.eq_of_beq_eq_true h.2.2.1, toNat_inj (Nat.eq_of_beq_eq_true h.2.2.2)⟩
theorem tst_all : allB 8 (fun k => allB 256 fun a => allB 2 fun c => Nat.beq (Nat.beq (Nat.land (tstF k a c) 64) 0).toNat (Nat.beq (Nat.land (Nat.div a (Nat.pow 2 k)) 1) 1).toNat) = true := by decide +kernel
theorem tst_c (k a f : Nat) : tstF k a f = tstF k a (Nat.land f 1) := by
  have h : Nat.land (Nat.land f 1) 1 = Nat.land f 1 := by show (f &&& 1) &&& 1 = f &&& 1; rw [Nat.and_assoc, Nat.and_self]
  unfold tstF
  rw [h]
theorem tst_at (k a f : Nat) (hk : k < 8) (ha : a < 256) : (Nat.beq (Nat.land (tstF k a f) 64) 0) = (Nat.beq (Nat.land (a / 2 ^ k) 1) 1) := by
  rw [tst_c]
  exact toNat_inj (Nat.eq_of_beq_eq_true (allB_at (allB_at (allB_at tst_all k hk) a ha) (Nat.land f 1) (bit_lt f)))
theorem tstF_lt (k a f : Nat) (hk : k < 8) : tstF k a f < 256 := by
  have h1 : Nat.pow 2 k ≤ 128 := Nat.pow_le_pow_right (n := 2) (by decide) (show k ≤ 7 by omega)
  unfold tstF
  refine Nat.or_lt_two_pow (n := 8) (Nat.or_lt_two_pow (Nat.or_lt_two_pow (Nat.or_lt_two_pow (bit_lt8 f) (by decide)) (Nat.and_lt_two_pow _ (by decide))) (Nat.and_lt_two_pow _ (by decide))) ?_
  cases Nat.beq (Nat.land a (Nat.pow 2 k)) 0 <;> decide
theorem eq1_nat (v : Nat) : ((v : Int) == 1) = Nat.beq v 1 := by
  rw [Bool.eq_iff_iff, Nat.beq_eq]
  simp
  omega
end Go.Proofs.YtffogcielohoeaaDoor
