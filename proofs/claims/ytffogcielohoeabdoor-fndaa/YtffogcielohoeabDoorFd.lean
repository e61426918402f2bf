/- Plain facts of decimal adjustment: a sum and a difference of two decimal digits each, adjusted, are decimal digits again. -/
import Derived.Test.YtffogcielohoeabDoorFa
namespace Go.Proofs.YtffogcielohoeabDoor
set_option linter.unusedVariables false

def bcd (x : Nat) : Nat := Nat.add (Nat.mul (Nat.div x 10) 16) (Nat.mod x 10)
def daP (p q : Nat) : Bool :=
  and (Nat.beq (daaV (addV (bcd p) (bcd q) 0) (addF (bcd p) (bcd q) 0)) (bcd (Nat.mod (Nat.add p q) 100)))
    (Nat.beq (Nat.beq (Nat.land (daaF (addV (bcd p) (bcd q) 0) (addF (bcd p) (bcd q) 0)) 1) 0).toNat (not (Nat.ble 100 (Nat.add p q))).toNat)
def daM (p q : Nat) : Bool :=
  and (Nat.beq (daaV (subV (bcd p) (bcd q) 0) (subF (bcd p) (bcd q) 0)) (bcd (Nat.mod (Nat.sub (Nat.add p 100) q) 100)))
    (Nat.beq (Nat.beq (Nat.land (daaF (subV (bcd p) (bcd q) 0) (subF (bcd p) (bcd q) 0)) 1) 0).toNat (not (Nat.ble (Nat.add p 1) q)).toNat)
theorem daP_all : allB 100 (fun p => allB 100 (daP p)) = true := by decide +kernel
theorem daM_all : allB 100 (fun p => allB 100 (daM p)) = true := by decide +kernel
theorem daP_at (p q : Nat) (hp : p < 100) (hq : q < 100) : daaV (addV (bcd p) (bcd q) 0) (addF (bcd p) (bcd q) 0) = bcd ((p + q) % 100) ∧ (Nat.beq (Nat.land (daaF (addV (bcd p) (bcd q) 0) (addF (bcd p) (bcd q) 0)) 1) 0) = (not (Nat.ble 100 (p + q))) := by
  have h := allB_at (allB_at daP_all p hp) q hq
  unfold daP at h
  rw [Bool.and_eq_true] at h
  exact ⟨Nat.eq_of_beq_eq_true h.1, toNat_inj (Nat.eq_of_beq_eq_true h.2)⟩
theorem daM_at (p q : Nat) (hp : p < 100) (hq : q < 100) : daaV (subV (bcd p) (bcd q) 0) (subF (bcd p) (bcd q) 0) = bcd ((p + 100 - q) % 100) ∧ (Nat.beq (Nat.land (daaF (subV (bcd p) (bcd q) 0) (subF (bcd p) (bcd q) 0)) 1) 0) = (not (Nat.ble (p + 1) q)) := by
  have h := allB_at (allB_at daM_all p hp) q hq
  unfold daM at h
  rw [Bool.and_eq_true] at h
  exact ⟨Nat.eq_of_beq_eq_true h.1, toNat_inj (Nat.eq_of_beq_eq_true h.2)⟩
theorem bcd_eq (x : Nat) : bcd x = x / 10 * 16 + x % 10 := rfl
theorem bcd_lt (x : Nat) (h : x < 100) : bcd x < 256 := by rw [bcd_eq]; omega
theorem daaC_lt (a f : Nat) : daaC a f < 2 ^ 8 := by unfold daaC; cases (Nat.beq (Nat.land f 1) 1 || Nat.ble 154 a) <;> decide
theorem daaV_lt (a f : Nat) : daaV a f < 256 := by
  unfold daaV
  cases Nat.beq (Nat.land f 2) 0
  · exact Nat.and_lt_two_pow (n := 8) _ (by decide)
  · exact Nat.and_lt_two_pow (n := 8) _ (by decide)
theorem daaH_lt (a f : Nat) : Nat.mul 16 (daaH a f) < 2 ^ 8 := by
  unfold daaH
  cases Nat.beq (Nat.land f 2) 0
  · exact bt_mul16 _
  · exact bt_mul16 _
theorem daaF_lt (a f : Nat) : daaF a f < 256 := by
  unfold daaF
  refine Nat.or_lt_two_pow (n := 8) (Nat.or_lt_two_pow (Nat.or_lt_two_pow (szpN_lt _ (daaV_lt a f)) ?_) (daaC_lt a f)) (daaH_lt a f)
  exact Nat.lt_trans (Nat.and_lt_two_pow (n := 2) _ (by decide)) (by decide)
theorem daa_facts (p q : Nat) (hp : p < 100) (hq : q < 100) : ∃ X F Y H G I C1 C2 : Nat, add8V (bcd p : Nat) (bcd q : Nat) 0 = .tuple #[.int .i64 X, .int .i64 F, .int .i64 0] ∧ sub8V (bcd p : Nat) (bcd q : Nat) 0 = .tuple #[.int .i64 Y, .int .i64 H, .int .i64 0] ∧
      daa8V X F = .tuple #[.int .i64 (bcd ((p + q) % 100) : Nat), .int .i64 G, .int .i64 0] ∧ daa8V Y H = .tuple #[.int .i64 (bcd ((p + 100 - q) % 100) : Nat), .int .i64 I, .int .i64 0] ∧
      bits .and .i64 (G : Int) 1 = (C1 : Int) ∧ bits .and .i64 (I : Int) 1 = (C2 : Int) ∧ (((C1 : Int) != 0) == decide (99 < (p : Int) + q)) = true ∧ (((C2 : Int) != 0) == decide ((p : Int) < q)) = true := by
  have hA := bcd_lt p hp
  have hB := bcd_lt q hq
  have ed : ∀ x f : Nat, x < 256 → f < 256 → daa8V x f = .tuple #[.int .i64 (daaV x f), .int .i64 (daaF x f), .int .i64 0] := by
    intro x f hx hf
    unfold daa8V
    rw [show askB (x : Int) (f : Int) 0 = true from ask_nat x f 0 hx hf (by decide)]
    simp
  obtain ⟨f1, f2⟩ := daP_at p q hp hq
  obtain ⟨f3, f4⟩ := daM_at p q hp hq
  refine ⟨addV (bcd p) (bcd q) 0, addF (bcd p) (bcd q) 0, subV (bcd p) (bcd q) 0, subF (bcd p) (bcd q) 0, daaF (addV (bcd p) (bcd q) 0) (addF (bcd p) (bcd q) 0), daaF (subV (bcd p) (bcd q) 0) (subF (bcd p) (bcd q) 0), _, _, ?_, ?_, ?_, ?_, bAnd _ 1 (Nat.lt_trans (daaF_lt _ _) (by decide)) (by omega), bAnd _ 1 (Nat.lt_trans (daaF_lt _ _) (by decide)) (by omega), ?_, ?_⟩
  · unfold add8V
    rw [show askB ((bcd p : Nat) : Int) ((bcd q : Nat) : Int) 0 = true from ask_nat _ _ 0 hA hB (by decide)]
    simp
  · unfold sub8V
    rw [show askB ((bcd p : Nat) : Int) ((bcd q : Nat) : Int) 0 = true from ask_nat _ _ 0 hA hB (by decide)]
    simp
  · rw [ed _ _ (addV_lt (bcd p) (bcd q) 0) (addF_lt (bcd p) (bcd q) 0), f1]
  · rw [ed _ _ (subV_lt (bcd p) (bcd q) 0) (subF_lt (bcd p) (bcd q) 0), f3]
  · rw [bne, eq0_nat, f2, ble_dec, Bool.not_not, show decide (99 < (p : Int) + q) = decide (100 ≤ p + q) by rw [decide_eq_decide]; omega]
    simp
  · rw [bne, eq0_nat, f4, ble_dec, Bool.not_not, show decide ((p : Int) < q) = decide (p + 1 ≤ q) by rw [decide_eq_decide]; omega]
    simp
end Go.Proofs.YtffogcielohoeabDoor
