/- Plain facts of the unit's numbers: what the flags of a sum, a difference, a step tell; what was added is taken away again. -/
import Derived.Test.YtffogcielohoeaaDoorPr
import Derived.Test.YtffogcielohoeaaDoorAh
namespace Go.Proofs.YtffogcielohoeaaDoor
set_option linter.unusedVariables false

def flX (v x y z : Nat) : Nat := Nat.lor (Nat.lor (Nat.lor (szN v) x) (Nat.mul 16 y)) (Nat.mul 4 z)
theorem fl_all : allB 256 (fun v => allB 2 fun x => allB 2 fun y => allB 2 fun z =>
    and (Nat.beq (Nat.land (flX v x y z) 1) x) (and (Nat.beq (Nat.beq (Nat.land (flX v x y z) 64) 0).toNat (not (Nat.beq v 0)).toNat) (Nat.beq (Nat.land (flX v x y z) 2) 0))) = true := by decide +kernel
theorem bt_lt2 (x : Bool) : btN x < 2 := by cases x <;> decide
theorem toNat_inj {x y : Bool} (h : x.toNat = y.toNat) : x = y := by cases x <;> cases y <;> first | rfl | cases h
theorem fl_of (v : Nat) (x y z : Bool) (hv : v < 256) : Nat.land (flX v (btN x) (btN y) (btN z)) 1 = btN x ∧ (Nat.beq (Nat.land (flX v (btN x) (btN y) (btN z)) 64) 0) = (not (Nat.beq v 0)) ∧ Nat.land (flX v (btN x) (btN y) (btN z)) 2 = 0 := by
  have h := allB_at (allB_at (allB_at (allB_at fl_all v hv) (btN x) (bt_lt2 x)) (btN y) (bt_lt2 y)) (btN z) (bt_lt2 z)
  simp only [Bool.and_eq_true] at h
  exact ⟨Nat.eq_of_beq_eq_true h.1, toNat_inj (Nat.eq_of_beq_eq_true h.2.1), Nat.eq_of_beq_eq_true h.2.2⟩
theorem addF_tells (a b c : Nat) : Nat.land (addF a b c) 1 = btN (Nat.ble 256 (a + b + c)) ∧ (Nat.beq (Nat.land (addF a b c) 64) 0) = (not (Nat.beq (addV a b c) 0)) ∧ Nat.land (addF a b c) 2 = 0 :=
  fl_of (addV a b c) _ _ _ (addV_lt a b c)

def fmX (v x y z : Nat) : Nat := Nat.lor (Nat.lor (Nat.lor (Nat.lor (szN v) 2) x) (Nat.mul 16 y)) (Nat.mul 4 z)
theorem fm_all : allB 256 (fun v => allB 2 fun x => allB 2 fun y => allB 2 fun z =>
    and (Nat.beq (Nat.land (fmX v x y z) 1) x) (Nat.beq (Nat.land (fmX v x y z) 2) 2)) = true := by decide +kernel
theorem fm_of (v : Nat) (x y z : Bool) (hv : v < 256) : Nat.land (fmX v (btN x) (btN y) (btN z)) 1 = btN x ∧ Nat.land (fmX v (btN x) (btN y) (btN z)) 2 = 2 := by
  have h := allB_at (allB_at (allB_at (allB_at fm_all v hv) (btN x) (bt_lt2 x)) (btN y) (bt_lt2 y)) (btN z) (bt_lt2 z)
  simp only [Bool.and_eq_true] at h
  exact ⟨Nat.eq_of_beq_eq_true h.1, Nat.eq_of_beq_eq_true h.2⟩
theorem subF_tells (a b c : Nat) : Nat.land (subF a b c) 1 = btN (Nat.ble (a + 1) (b + c)) ∧ Nat.land (subF a b c) 2 = 2 :=
  fm_of (subV a b c) _ _ _ (subV_lt a b c)
theorem subF_lt (a b c : Nat) : subF a b c < 256 := by
  unfold subF
  refine Nat.or_lt_two_pow (n := 8) (Nat.or_lt_two_pow (Nat.or_lt_two_pow (Nat.or_lt_two_pow (szN_lt _ (subV_lt a b c)) (by decide)) ?_) ?_) ?_
  · exact bt_one _
  · exact bt_mul16 _
  · exact bt_mul4 _
theorem addV_sum (a b c : Nat) (ha : a < 256) (hb : b < 256) (hc : c < 2) : addV a b c + 256 * Nat.land (addF a b c) 1 = a + b + c := by
  rw [(addF_tells a b c).1, ble_dec, show addV a b c = (a + b + c) % 256 from Nat.and_two_pow_sub_one_eq_mod (a + b + c) 8]
  by_cases h : 256 ≤ a + b + c
  · rw [decide_eq_true h]; show _ + 256 * 1 = _; omega
  · rw [decide_eq_false h]; show _ + 256 * 0 = _; omega
theorem sub_back (a b c : Nat) (ha : a < 256) (hb : b < 256) (hc : c < 2) : subV (addV a b c) b c = a := by
  rw [show subV (addV a b c) b c = (addV a b c + 512 - b - c) % 256 from Nat.and_two_pow_sub_one_eq_mod (addV a b c + 512 - b - c) 8, show addV a b c = (a + b + c) % 256 from Nat.and_two_pow_sub_one_eq_mod (a + b + c) 8]
  omega
theorem sub_carry (a b c : Nat) (ha : a < 256) (hb : b < 256) (hc : c < 2) : Nat.land (subF (addV a b c) b c) 1 = Nat.land (addF a b c) 1 := by
  rw [(addF_tells a b c).1, (subF_tells _ b c).1, ble_dec, ble_dec, show addV a b c = (a + b + c) % 256 from Nat.and_two_pow_sub_one_eq_mod (a + b + c) 8]
  congr 1
  rw [decide_eq_decide]
  omega

def ic (v c y z : Nat) : Nat := Nat.lor (Nat.lor (Nat.lor c (szN v)) (Nat.mul 16 y)) (Nat.mul 4 z)
theorem ic_all : allB 256 (fun v => allB 2 fun c => allB 2 fun y => allB 2 fun z => Nat.beq (Nat.land (ic v c y z) 1) c) = true := by decide +kernel
theorem bit_lt (f : Nat) : Nat.land f 1 < 2 := Nat.and_lt_two_pow (n := 1) _ (by decide)
theorem incF_keeps (a f : Nat) : Nat.land (incF a f) 1 = Nat.land f 1 :=
  Nat.eq_of_beq_eq_true (allB_at (allB_at (allB_at (allB_at ic_all (incV a) (incV_lt a)) (Nat.land f 1) (bit_lt f)) (btN (Nat.beq (Nat.land a 15) 15)) (bt_lt2 _)) (btN (Nat.beq a 127)) (bt_lt2 _))
def dc (v c y z : Nat) : Nat := Nat.lor (Nat.lor (Nat.lor (Nat.lor c (szN v)) 2) (Nat.mul 16 y)) (Nat.mul 4 z)
theorem dc_all : allB 256 (fun v => allB 2 fun c => allB 2 fun y => allB 2 fun z => Nat.beq (Nat.land (dc v c y z) 1) c) = true := by decide +kernel
theorem decF_keeps (a f : Nat) : Nat.land (decF a f) 1 = Nat.land f 1 :=
  Nat.eq_of_beq_eq_true (allB_at (allB_at (allB_at (allB_at dc_all (decV a) (decV_lt a)) (Nat.land f 1) (bit_lt f)) (btN (Nat.beq (Nat.land a 15) 0)) (bt_lt2 _)) (btN (Nat.beq a 128)) (bt_lt2 _))
theorem bit_lt8 (f : Nat) : Nat.land f 1 < 2 ^ 8 := Nat.lt_trans (bit_lt f) (by decide)
theorem incF_lt (a f : Nat) : incF a f < 256 := by
  unfold incF
  refine Nat.or_lt_two_pow (n := 8) (Nat.or_lt_two_pow (Nat.or_lt_two_pow (bit_lt8 f) (szN_lt _ (incV_lt a))) ?_) ?_
  · exact bt_mul16 _
  · exact bt_mul4 _
theorem decF_lt (a f : Nat) : decF a f < 256 := by
  unfold decF
  refine Nat.or_lt_two_pow (n := 8) (Nat.or_lt_two_pow (Nat.or_lt_two_pow (Nat.or_lt_two_pow (bit_lt8 f) (szN_lt _ (decV_lt a))) (by decide)) ?_) ?_
  · exact bt_mul16 _
  · exact bt_mul4 _
theorem incV_mod (a : Nat) : incV a = (a + 1) % 256 := Nat.and_two_pow_sub_one_eq_mod (a + 1) 8
theorem dec_back (a : Nat) (ha : a < 256) : decV (incV a) = a := by
  rw [show decV (incV a) = (incV a + 255) % 256 from Nat.and_two_pow_sub_one_eq_mod (incV a + 255) 8, incV_mod]
  omega
theorem ask_nat (a b c : Nat) (ha : a < 256) (hb : b < 256) (hc : c < 2) : askB (a : Int) (b : Int) (c : Int) = true := by simp [askB, inB]; omega
end Go.Proofs.YtffogcielohoeaaDoor
