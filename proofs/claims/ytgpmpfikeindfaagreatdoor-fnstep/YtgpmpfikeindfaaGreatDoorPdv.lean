/- What the program's Daa8 answers as it is asked: what the specification's answers. -/
import Derived.Test.YtgpmpfikeindfaaGreatDoorV25
import Derived.Test.YtgpmpfikeindfaaGreatDoorV26
namespace Go.Proofs.YtgpmpfikeindfaaGreatDoor
open Go.ChangeShapes Go.WideShapes Go.ChangeAt Go.RowKit
set_option linter.unusedVariables false

theorem sum0_impl (a b : Int) (w : World) (ha : -1000 ≤ a ∧ a ≤ 1000) (hb : -1000 ≤ b ∧ b ≤ 1000) : Calls Tryz.prog 125 #[.int .i64 a, .int .i64 b, .int .i64 0] w fun e w' => e = .returned (.int .i64 (a + b)) ∧ w' = w := by
  refine (sum_impl a b 0 w ha hb (by omega)).mono ?_
  rintro e w' ⟨rfl, rfl⟩
  exact ⟨ret_int (by omega), rfl⟩
theorem dif0_impl (a b : Int) (w : World) (ha : -1000 ≤ a ∧ a ≤ 1000) (hb : -1000 ≤ b ∧ b ≤ 1000) : Calls Tryz.prog 126 #[.int .i64 a, .int .i64 b, .int .i64 0] w fun e w' => e = .returned (.int .i64 (a - b)) ∧ w' = w := by
  refine (dif_impl a b 0 w ha hb (by omega)).mono ?_
  rintro e w' ⟨rfl, rfl⟩
  exact ⟨ret_int (by omega), rfl⟩
theorem when9 (L : Nat) : whenI (decide (9 < (L : Int))) 16 = (Nat.mul 16 (btN (Nat.ble 10 L)) : Nat) := by
  have h : decide (9 < (L : Int)) = Nat.ble 10 L := by rw [ble_dec, decide_eq_decide]; omega
  rw [h]
  cases Nat.ble 10 L <;> rfl
theorem when6 (L : Nat) : whenI (decide ((L : Int) < 6)) 16 = (Nat.mul 16 (btN (Nat.ble (Nat.add L 1) 6)) : Nat) := by
  have h : decide ((L : Int) < 6) = Nat.ble (Nat.add L 1) 6 := by rw [ble_dec, decide_eq_decide]; show _ ↔ L + 1 ≤ 6; omega
  rw [h]
  cases Nat.ble (Nat.add L 1) 6 <;> rfl
set_option maxHeartbeats 6000000 in
theorem daa_go (a f : Nat) (w : World) (ha : a < 256) (hf : f < 256) (h2 : (inB (a : Int) 0 255 && inB (f : Int) 0 255) = true) (hL : Flags w) :
    Calls Tryz.prog 88 #[.int .i64 a, .int .i64 f] w fun e w' => e = .returned (.tuple #[.int .i64 (daaV a f), .int .i64 (daaF a f), .int .i64 0]) ∧ w' = w := by
  have hF : daaF a f = Nat.lor (Nat.lor (Nat.lor (szpN (daaV a f)) (Nat.land f 2)) (daaC a f)) (Nat.mul 16 (daaH a f)) := rfl
  have hVd : daaV a f = cond (Nat.beq (Nat.land f 2) 0) (Nat.land (Nat.add a (daaX a f)) 255) (Nat.land (Nat.sub (Nat.add a 512) (daaX a f)) 255) := rfl
  have hXd : daaX a f = Nat.add (cond (or (not (Nat.beq (Nat.land f 16) 0)) (Nat.ble 10 (Nat.land a 15))) 6 0) (cond (or (Nat.beq (Nat.land f 1) 1) (Nat.ble 154 a)) 96 0) := rfl
  have hCd : daaC a f = cond (or (Nat.beq (Nat.land f 1) 1) (Nat.ble 154 a)) 1 0 := rfl
  have hHd : daaH a f = cond (Nat.beq (Nat.land f 2) 0) (btN (Nat.ble 10 (Nat.land a 15))) (btN (and (not (Nat.beq (Nat.land f 16) 0)) (Nat.ble (Nat.add (Nat.land a 15) 1) 6))) := rfl
  have rc : bits .and .i64 (f : Int) 1 = (Nat.land f 1 : Nat) := bAnd f 1 (by omega) (by omega)
  have hc : Nat.land f 1 < 2 ^ 1 := Nat.and_lt_two_pow _ (by decide)
  have rh : bits .and .i64 (f : Int) 16 = (Nat.land f 16 : Nat) := bAnd f 16 (by omega) (by omega)
  have hh : Nat.land f 16 < 2 ^ 5 := Nat.and_lt_two_pow _ (by decide)
  have rn : bits .and .i64 (f : Int) 2 = (Nat.land f 2 : Nat) := bAnd f 2 (by omega) (by omega)
  have hn : Nat.land f 2 < 2 ^ 2 := Nat.and_lt_two_pow _ (by decide)
  have rl : bits .and .i64 (a : Int) 15 = (Nat.land a 15 : Nat) := bAnd a 15 (by omega) (by omega)
  have hl : Nat.land a 15 < 2 ^ 4 := Nat.and_lt_two_pow _ (by decide)
  have vp : ∀ x : Nat, x < 200 → bits .and .i64 ((a : Int) + x) 255 = (Nat.land (a + x) 255 : Nat) := fun x hx => bAnd (a + x) 255 (by omega) (by omega)
  have vm : ∀ x : Nat, x < 200 → bits .and .i64 ((a : Int) - x) 255 = (Nat.land (a + 512 - x) 255 : Nat) := fun x hx => by
    have h : Nat.land (a + 512 - x) 255 = (a + 512 - x) % 2 ^ 8 := Nat.and_two_pow_sub_one_eq_mod (a + 512 - x) 8
    rw [i64_and255, h]
    omega
  have vlt : ∀ x : Nat, Nat.land x 255 < 256 := fun x => Nat.and_lt_two_pow (n := 8) _ (by decide)
  generalize daaF a f = F at *
  generalize daaV a f = V at *
  generalize daaX a f = X at *
  generalize daaC a f = C at *
  generalize daaH a f = H at *
  generalize Nat.land f 1 = FC at *
  generalize Nat.land f 16 = FH at *
  generalize Nat.land f 2 = FN at *
  generalize Nat.land a 15 = L at *
  have KF : Hid (F = _) := hF
  have KV : Hid (V = _) := hVd
  have KX : Hid (X = _) := hXd
  have KC : Hid (C = _) := hCd
  have KH : Hid (H = _) := hHd
  have VP : Hid (∀ x : Nat, x < 200 → bits .and .i64 ((a : Int) + x) 255 = (Nat.land (a + x) 255 : Nat)) := vp
  have VM : Hid (∀ x : Nat, x < 200 → bits .and .i64 ((a : Int) - x) 255 = (Nat.land (a + 512 - x) 255 : Nat)) := vm
  have VL : Hid (∀ x : Nat, Nat.land x 255 < 256) := vlt
  clear hF hVd hXd hCd hHd vp vm vlt
  by_cases kFH : FH = 0
  · have bFH : Nat.beq FH 0 = true := by rw [kFH]; rfl
    have kFH' : ((FH : Int) != 0) = false := by simp; omega
    clear kFH
    by_cases kL : 9 < L
    · have bL : Nat.ble 10 L = true := Nat.ble_eq_true_of_le (by omega)
      by_cases kFC : FC = 1
      · have bFC : Nat.beq FC 1 = true := by rw [kFC]; rfl
        have kFC' : ((FC : Int) != 0) = true := by simp; omega
        clear kFC
        by_cases kFN : FN = 0
        · have bFN : Nat.beq FN 0 = true := by rw [kFN]; rfl
          have kFN' : ((FN : Int) != 0) = false := by simp; omega
          clear kFN
          have e1 : V = Nat.land (a + 102) 255 := by rw [KV.out, KX.out, bFN, bFH, bL, bFC]; rfl
          have rV : bits .and .i64 ((a : Int) + 102) 255 = (V : Nat) := by rw [e1]; exact VP.out 102 (by omega)
          have hV : V < 256 := by rw [e1]; exact VL.out _
          have hz := szpN_lt V hV
          have E : Hid (bits .or .i64 (bits .or .i64 (bits .or .i64 ((szpN V : Nat) : Int) (FN : Int)) (whenI true 16)) (whenI true 1) = (F : Int)) := by
            unfold Hid
            rw [show whenI true 16 = whenI (decide (9 < (L : Int))) 16 by rw [decide_eq_true (by omega)], when9 L]
            rw [KF.out, KC.out, KH.out, bFC, bFN]
            exact (or4 (szpN V) FN (Nat.mul 16 (btN (Nat.ble 10 L))) 1 hz (by omega) (bt_mul16 _) (by omega)).trans (congrArg _ (lor_swap (Nat.lor (szpN V) FN) (Nat.mul 16 (btN (Nat.ble 10 L))) 1))
          clear e1 bFH bL bFC bFN KF KV KX KC KH VP VM VL
          go_enter Tryz.func88, Tryz.ntmps88
          go_wp2_with (first | (go_at_call 32; refine (bytes_impl _ _ _).mono ?_; rintro e w' ⟨rfl, rfl⟩; rw [h2]) | (go_at_call 125; refine (sum0_impl _ _ _ (by omega) (by omega)).mono ?_; rintro e w' ⟨rfl, rfl⟩) | (go_at_call 126; refine (dif0_impl _ _ _ (by omega) (by omega)).mono ?_; rintro e w' ⟨rfl, rfl⟩) | (go_at_call 128; refine (pf_impl _ _ hV hL).mono ?_; rintro e w' ⟨rfl, rfl⟩) | (go_at_call 129; refine (when_impl _ _ _).mono ?_; rintro e w' ⟨rfl, rfl⟩))
          rw [E.out]
          go_ret3
          exact ⟨rfl, rfl⟩
        · have bFN : Nat.beq FN 0 = false := by rw [Bool.eq_false_iff]; intro h; exact kFN (Nat.eq_of_beq_eq_true h)
          have kFN' : ((FN : Int) != 0) = true := by simp; omega
          clear kFN
          have e1 : V = Nat.land (a + 512 - 102) 255 := by rw [KV.out, KX.out, bFN, bFH, bL, bFC]; rfl
          have rV : bits .and .i64 ((a : Int) - 102) 255 = (V : Nat) := by rw [e1]; exact VM.out 102 (by omega)
          have hV : V < 256 := by rw [e1]; exact VL.out _
          have hz := szpN_lt V hV
          have E : Hid (bits .or .i64 (bits .or .i64 (bits .or .i64 ((szpN V : Nat) : Int) (FN : Int)) (whenI false 16)) (whenI true 1) = (F : Int)) := by
            unfold Hid
            rw [KF.out, KC.out, KH.out, bFC, bFN, bFH]
            exact (or4 (szpN V) FN 0 1 hz (by omega) (by omega) (by omega)).trans (congrArg _ (lor_swap (Nat.lor (szpN V) FN) 0 1))
          clear e1 bFH bL bFC bFN KF KV KX KC KH VP VM VL
          go_enter Tryz.func88, Tryz.ntmps88
          go_wp2_with (first | (go_at_call 32; refine (bytes_impl _ _ _).mono ?_; rintro e w' ⟨rfl, rfl⟩; rw [h2]) | (go_at_call 125; refine (sum0_impl _ _ _ (by omega) (by omega)).mono ?_; rintro e w' ⟨rfl, rfl⟩) | (go_at_call 126; refine (dif0_impl _ _ _ (by omega) (by omega)).mono ?_; rintro e w' ⟨rfl, rfl⟩) | (go_at_call 128; refine (pf_impl _ _ hV hL).mono ?_; rintro e w' ⟨rfl, rfl⟩) | (go_at_call 129; refine (when_impl _ _ _).mono ?_; rintro e w' ⟨rfl, rfl⟩))
          rw [E.out]
          go_ret3
          exact ⟨rfl, rfl⟩
      · have bFC : Nat.beq FC 1 = false := by rw [Bool.eq_false_iff]; intro h; exact kFC (Nat.eq_of_beq_eq_true h)
        have kFC' : ((FC : Int) != 0) = false := by simp; omega
        clear kFC
        by_cases kA : 153 < a
        · have bA : Nat.ble 154 a = true := Nat.ble_eq_true_of_le (by omega)
          by_cases kFN : FN = 0
          · have bFN : Nat.beq FN 0 = true := by rw [kFN]; rfl
            have kFN' : ((FN : Int) != 0) = false := by simp; omega
            clear kFN
            have e1 : V = Nat.land (a + 102) 255 := by rw [KV.out, KX.out, bFN, bFH, bL, bFC, bA]; rfl
            have rV : bits .and .i64 ((a : Int) + 102) 255 = (V : Nat) := by rw [e1]; exact VP.out 102 (by omega)
            have hV : V < 256 := by rw [e1]; exact VL.out _
            have hz := szpN_lt V hV
            have E : Hid (bits .or .i64 (bits .or .i64 (bits .or .i64 ((szpN V : Nat) : Int) (FN : Int)) (whenI true 16)) (whenI true 1) = (F : Int)) := by
              unfold Hid
              rw [show whenI true 16 = whenI (decide (9 < (L : Int))) 16 by rw [decide_eq_true (by omega)], when9 L]
              rw [KF.out, KC.out, KH.out, bFC, bA, bFN]
              exact (or4 (szpN V) FN (Nat.mul 16 (btN (Nat.ble 10 L))) 1 hz (by omega) (bt_mul16 _) (by omega)).trans (congrArg _ (lor_swap (Nat.lor (szpN V) FN) (Nat.mul 16 (btN (Nat.ble 10 L))) 1))
            clear e1 bFH bL bFC bA bFN KF KV KX KC KH VP VM VL
            go_enter Tryz.func88, Tryz.ntmps88
            go_wp2_with (first | (go_at_call 32; refine (bytes_impl _ _ _).mono ?_; rintro e w' ⟨rfl, rfl⟩; rw [h2]) | (go_at_call 125; refine (sum0_impl _ _ _ (by omega) (by omega)).mono ?_; rintro e w' ⟨rfl, rfl⟩) | (go_at_call 126; refine (dif0_impl _ _ _ (by omega) (by omega)).mono ?_; rintro e w' ⟨rfl, rfl⟩) | (go_at_call 128; refine (pf_impl _ _ hV hL).mono ?_; rintro e w' ⟨rfl, rfl⟩) | (go_at_call 129; refine (when_impl _ _ _).mono ?_; rintro e w' ⟨rfl, rfl⟩))
            rw [E.out]
            go_ret3
            exact ⟨rfl, rfl⟩
          · have bFN : Nat.beq FN 0 = false := by rw [Bool.eq_false_iff]; intro h; exact kFN (Nat.eq_of_beq_eq_true h)
            have kFN' : ((FN : Int) != 0) = true := by simp; omega
            clear kFN
            have e1 : V = Nat.land (a + 512 - 102) 255 := by rw [KV.out, KX.out, bFN, bFH, bL, bFC, bA]; rfl
            have rV : bits .and .i64 ((a : Int) - 102) 255 = (V : Nat) := by rw [e1]; exact VM.out 102 (by omega)
            have hV : V < 256 := by rw [e1]; exact VL.out _
            have hz := szpN_lt V hV
            have E : Hid (bits .or .i64 (bits .or .i64 (bits .or .i64 ((szpN V : Nat) : Int) (FN : Int)) (whenI false 16)) (whenI true 1) = (F : Int)) := by
              unfold Hid
              rw [KF.out, KC.out, KH.out, bFC, bA, bFN, bFH]
              exact (or4 (szpN V) FN 0 1 hz (by omega) (by omega) (by omega)).trans (congrArg _ (lor_swap (Nat.lor (szpN V) FN) 0 1))
            clear e1 bFH bL bFC bA bFN KF KV KX KC KH VP VM VL
            go_enter Tryz.func88, Tryz.ntmps88
            go_wp2_with (first | (go_at_call 32; refine (bytes_impl _ _ _).mono ?_; rintro e w' ⟨rfl, rfl⟩; rw [h2]) | (go_at_call 125; refine (sum0_impl _ _ _ (by omega) (by omega)).mono ?_; rintro e w' ⟨rfl, rfl⟩) | (go_at_call 126; refine (dif0_impl _ _ _ (by omega) (by omega)).mono ?_; rintro e w' ⟨rfl, rfl⟩) | (go_at_call 128; refine (pf_impl _ _ hV hL).mono ?_; rintro e w' ⟨rfl, rfl⟩) | (go_at_call 129; refine (when_impl _ _ _).mono ?_; rintro e w' ⟨rfl, rfl⟩))
            rw [E.out]
            go_ret3
            exact ⟨rfl, rfl⟩
        · have bA : Nat.ble 154 a = false := by rw [Bool.eq_false_iff]; intro h; have := Nat.le_of_ble_eq_true h; omega
          by_cases kFN : FN = 0
          · have bFN : Nat.beq FN 0 = true := by rw [kFN]; rfl
            have kFN' : ((FN : Int) != 0) = false := by simp; omega
            clear kFN
            have e1 : V = Nat.land (a + 6) 255 := by rw [KV.out, KX.out, bFN, bFH, bL, bFC, bA]; rfl
            have rV : bits .and .i64 ((a : Int) + 6) 255 = (V : Nat) := by rw [e1]; exact VP.out 6 (by omega)
            have hV : V < 256 := by rw [e1]; exact VL.out _
            have hz := szpN_lt V hV
            have E : Hid (bits .or .i64 (bits .or .i64 (bits .or .i64 ((szpN V : Nat) : Int) (FN : Int)) (whenI true 16)) (whenI (decide (153 < (a : Int))) 1) = (F : Int)) := by
              unfold Hid
              rw [show decide (153 < (a : Int)) = false from decide_eq_false (by omega)]
              rw [show whenI true 16 = whenI (decide (9 < (L : Int))) 16 by rw [decide_eq_true (by omega)], when9 L]
              rw [KF.out, KC.out, KH.out, bFC, bA, bFN]
              exact (or4 (szpN V) FN (Nat.mul 16 (btN (Nat.ble 10 L))) 0 hz (by omega) (bt_mul16 _) (by omega)).trans (congrArg _ (lor_swap (Nat.lor (szpN V) FN) (Nat.mul 16 (btN (Nat.ble 10 L))) 0))
            clear e1 bFH bL bFC bA bFN KF KV KX KC KH VP VM VL
            go_enter Tryz.func88, Tryz.ntmps88
            go_wp2_with (first | (go_at_call 32; refine (bytes_impl _ _ _).mono ?_; rintro e w' ⟨rfl, rfl⟩; rw [h2]) | (go_at_call 125; refine (sum0_impl _ _ _ (by omega) (by omega)).mono ?_; rintro e w' ⟨rfl, rfl⟩) | (go_at_call 126; refine (dif0_impl _ _ _ (by omega) (by omega)).mono ?_; rintro e w' ⟨rfl, rfl⟩) | (go_at_call 128; refine (pf_impl _ _ hV hL).mono ?_; rintro e w' ⟨rfl, rfl⟩) | (go_at_call 129; refine (when_impl _ _ _).mono ?_; rintro e w' ⟨rfl, rfl⟩))
            rw [E.out]
            go_ret3
            exact ⟨rfl, rfl⟩
          · have bFN : Nat.beq FN 0 = false := by rw [Bool.eq_false_iff]; intro h; exact kFN (Nat.eq_of_beq_eq_true h)
            have kFN' : ((FN : Int) != 0) = true := by simp; omega
            clear kFN
            have e1 : V = Nat.land (a + 512 - 6) 255 := by rw [KV.out, KX.out, bFN, bFH, bL, bFC, bA]; rfl
            have rV : bits .and .i64 ((a : Int) - 6) 255 = (V : Nat) := by rw [e1]; exact VM.out 6 (by omega)
            have hV : V < 256 := by rw [e1]; exact VL.out _
            have hz := szpN_lt V hV
            have E : Hid (bits .or .i64 (bits .or .i64 (bits .or .i64 ((szpN V : Nat) : Int) (FN : Int)) (whenI false 16)) (whenI (decide (153 < (a : Int))) 1) = (F : Int)) := by
              unfold Hid
              rw [show decide (153 < (a : Int)) = false from decide_eq_false (by omega)]
              rw [KF.out, KC.out, KH.out, bFC, bA, bFN, bFH]
              exact (or4 (szpN V) FN 0 0 hz (by omega) (by omega) (by omega)).trans (congrArg _ (lor_swap (Nat.lor (szpN V) FN) 0 0))
            clear e1 bFH bL bFC bA bFN KF KV KX KC KH VP VM VL
            go_enter Tryz.func88, Tryz.ntmps88
            go_wp2_with (first | (go_at_call 32; refine (bytes_impl _ _ _).mono ?_; rintro e w' ⟨rfl, rfl⟩; rw [h2]) | (go_at_call 125; refine (sum0_impl _ _ _ (by omega) (by omega)).mono ?_; rintro e w' ⟨rfl, rfl⟩) | (go_at_call 126; refine (dif0_impl _ _ _ (by omega) (by omega)).mono ?_; rintro e w' ⟨rfl, rfl⟩) | (go_at_call 128; refine (pf_impl _ _ hV hL).mono ?_; rintro e w' ⟨rfl, rfl⟩) | (go_at_call 129; refine (when_impl _ _ _).mono ?_; rintro e w' ⟨rfl, rfl⟩))
            rw [E.out]
            go_ret3
            exact ⟨rfl, rfl⟩
    · have bL : Nat.ble 10 L = false := by rw [Bool.eq_false_iff]; intro h; have := Nat.le_of_ble_eq_true h; omega
      by_cases kFC : FC = 1
      · have bFC : Nat.beq FC 1 = true := by rw [kFC]; rfl
        have kFC' : ((FC : Int) != 0) = true := by simp; omega
        clear kFC
        by_cases kFN : FN = 0
        · have bFN : Nat.beq FN 0 = true := by rw [kFN]; rfl
          have kFN' : ((FN : Int) != 0) = false := by simp; omega
          clear kFN
          have e1 : V = Nat.land (a + 96) 255 := by rw [KV.out, KX.out, bFN, bFH, bL, bFC]; rfl
          have rV : bits .and .i64 ((a : Int) + 96) 255 = (V : Nat) := by rw [e1]; exact VP.out 96 (by omega)
          have hV : V < 256 := by rw [e1]; exact VL.out _
          have hz := szpN_lt V hV
          have E : Hid (bits .or .i64 (bits .or .i64 (bits .or .i64 ((szpN V : Nat) : Int) (FN : Int)) (whenI (decide (9 < (L : Int))) 16)) (whenI true 1) = (F : Int)) := by
            unfold Hid
            rw [when9 L]
            rw [KF.out, KC.out, KH.out, bFC, bFN]
            exact (or4 (szpN V) FN (Nat.mul 16 (btN (Nat.ble 10 L))) 1 hz (by omega) (bt_mul16 _) (by omega)).trans (congrArg _ (lor_swap (Nat.lor (szpN V) FN) (Nat.mul 16 (btN (Nat.ble 10 L))) 1))
          clear e1 bFH bL bFC bFN KF KV KX KC KH VP VM VL
          go_enter Tryz.func88, Tryz.ntmps88
          go_wp2_with (first | (go_at_call 32; refine (bytes_impl _ _ _).mono ?_; rintro e w' ⟨rfl, rfl⟩; rw [h2]) | (go_at_call 125; refine (sum0_impl _ _ _ (by omega) (by omega)).mono ?_; rintro e w' ⟨rfl, rfl⟩) | (go_at_call 126; refine (dif0_impl _ _ _ (by omega) (by omega)).mono ?_; rintro e w' ⟨rfl, rfl⟩) | (go_at_call 128; refine (pf_impl _ _ hV hL).mono ?_; rintro e w' ⟨rfl, rfl⟩) | (go_at_call 129; refine (when_impl _ _ _).mono ?_; rintro e w' ⟨rfl, rfl⟩))
          rw [E.out]
          go_ret3
          exact ⟨rfl, rfl⟩
        · have bFN : Nat.beq FN 0 = false := by rw [Bool.eq_false_iff]; intro h; exact kFN (Nat.eq_of_beq_eq_true h)
          have kFN' : ((FN : Int) != 0) = true := by simp; omega
          clear kFN
          have e1 : V = Nat.land (a + 512 - 96) 255 := by rw [KV.out, KX.out, bFN, bFH, bL, bFC]; rfl
          have rV : bits .and .i64 ((a : Int) - 96) 255 = (V : Nat) := by rw [e1]; exact VM.out 96 (by omega)
          have hV : V < 256 := by rw [e1]; exact VL.out _
          have hz := szpN_lt V hV
          have E : Hid (bits .or .i64 (bits .or .i64 (bits .or .i64 ((szpN V : Nat) : Int) (FN : Int)) (whenI false 16)) (whenI true 1) = (F : Int)) := by
            unfold Hid
            rw [KF.out, KC.out, KH.out, bFC, bFN, bFH]
            exact (or4 (szpN V) FN 0 1 hz (by omega) (by omega) (by omega)).trans (congrArg _ (lor_swap (Nat.lor (szpN V) FN) 0 1))
          clear e1 bFH bL bFC bFN KF KV KX KC KH VP VM VL
          go_enter Tryz.func88, Tryz.ntmps88
          go_wp2_with (first | (go_at_call 32; refine (bytes_impl _ _ _).mono ?_; rintro e w' ⟨rfl, rfl⟩; rw [h2]) | (go_at_call 125; refine (sum0_impl _ _ _ (by omega) (by omega)).mono ?_; rintro e w' ⟨rfl, rfl⟩) | (go_at_call 126; refine (dif0_impl _ _ _ (by omega) (by omega)).mono ?_; rintro e w' ⟨rfl, rfl⟩) | (go_at_call 128; refine (pf_impl _ _ hV hL).mono ?_; rintro e w' ⟨rfl, rfl⟩) | (go_at_call 129; refine (when_impl _ _ _).mono ?_; rintro e w' ⟨rfl, rfl⟩))
          rw [E.out]
          go_ret3
          exact ⟨rfl, rfl⟩
      · have bFC : Nat.beq FC 1 = false := by rw [Bool.eq_false_iff]; intro h; exact kFC (Nat.eq_of_beq_eq_true h)
        have kFC' : ((FC : Int) != 0) = false := by simp; omega
        clear kFC
        by_cases kA : 153 < a
        · have bA : Nat.ble 154 a = true := Nat.ble_eq_true_of_le (by omega)
          by_cases kFN : FN = 0
          · have bFN : Nat.beq FN 0 = true := by rw [kFN]; rfl
            have kFN' : ((FN : Int) != 0) = false := by simp; omega
            clear kFN
            have e1 : V = Nat.land (a + 96) 255 := by rw [KV.out, KX.out, bFN, bFH, bL, bFC, bA]; rfl
            have rV : bits .and .i64 ((a : Int) + 96) 255 = (V : Nat) := by rw [e1]; exact VP.out 96 (by omega)
            have hV : V < 256 := by rw [e1]; exact VL.out _
            have hz := szpN_lt V hV
            have E : Hid (bits .or .i64 (bits .or .i64 (bits .or .i64 ((szpN V : Nat) : Int) (FN : Int)) (whenI (decide (9 < (L : Int))) 16)) (whenI true 1) = (F : Int)) := by
              unfold Hid
              rw [when9 L]
              rw [KF.out, KC.out, KH.out, bFC, bA, bFN]
              exact (or4 (szpN V) FN (Nat.mul 16 (btN (Nat.ble 10 L))) 1 hz (by omega) (bt_mul16 _) (by omega)).trans (congrArg _ (lor_swap (Nat.lor (szpN V) FN) (Nat.mul 16 (btN (Nat.ble 10 L))) 1))
            clear e1 bFH bL bFC bA bFN KF KV KX KC KH VP VM VL
            go_enter Tryz.func88, Tryz.ntmps88
            go_wp2_with (first | (go_at_call 32; refine (bytes_impl _ _ _).mono ?_; rintro e w' ⟨rfl, rfl⟩; rw [h2]) | (go_at_call 125; refine (sum0_impl _ _ _ (by omega) (by omega)).mono ?_; rintro e w' ⟨rfl, rfl⟩) | (go_at_call 126; refine (dif0_impl _ _ _ (by omega) (by omega)).mono ?_; rintro e w' ⟨rfl, rfl⟩) | (go_at_call 128; refine (pf_impl _ _ hV hL).mono ?_; rintro e w' ⟨rfl, rfl⟩) | (go_at_call 129; refine (when_impl _ _ _).mono ?_; rintro e w' ⟨rfl, rfl⟩))
            rw [E.out]
            go_ret3
            exact ⟨rfl, rfl⟩
          · have bFN : Nat.beq FN 0 = false := by rw [Bool.eq_false_iff]; intro h; exact kFN (Nat.eq_of_beq_eq_true h)
            have kFN' : ((FN : Int) != 0) = true := by simp; omega
            clear kFN
            have e1 : V = Nat.land (a + 512 - 96) 255 := by rw [KV.out, KX.out, bFN, bFH, bL, bFC, bA]; rfl
            have rV : bits .and .i64 ((a : Int) - 96) 255 = (V : Nat) := by rw [e1]; exact VM.out 96 (by omega)
            have hV : V < 256 := by rw [e1]; exact VL.out _
            have hz := szpN_lt V hV
            have E : Hid (bits .or .i64 (bits .or .i64 (bits .or .i64 ((szpN V : Nat) : Int) (FN : Int)) (whenI false 16)) (whenI true 1) = (F : Int)) := by
              unfold Hid
              rw [KF.out, KC.out, KH.out, bFC, bA, bFN, bFH]
              exact (or4 (szpN V) FN 0 1 hz (by omega) (by omega) (by omega)).trans (congrArg _ (lor_swap (Nat.lor (szpN V) FN) 0 1))
            clear e1 bFH bL bFC bA bFN KF KV KX KC KH VP VM VL
            go_enter Tryz.func88, Tryz.ntmps88
            go_wp2_with (first | (go_at_call 32; refine (bytes_impl _ _ _).mono ?_; rintro e w' ⟨rfl, rfl⟩; rw [h2]) | (go_at_call 125; refine (sum0_impl _ _ _ (by omega) (by omega)).mono ?_; rintro e w' ⟨rfl, rfl⟩) | (go_at_call 126; refine (dif0_impl _ _ _ (by omega) (by omega)).mono ?_; rintro e w' ⟨rfl, rfl⟩) | (go_at_call 128; refine (pf_impl _ _ hV hL).mono ?_; rintro e w' ⟨rfl, rfl⟩) | (go_at_call 129; refine (when_impl _ _ _).mono ?_; rintro e w' ⟨rfl, rfl⟩))
            rw [E.out]
            go_ret3
            exact ⟨rfl, rfl⟩
        · have bA : Nat.ble 154 a = false := by rw [Bool.eq_false_iff]; intro h; have := Nat.le_of_ble_eq_true h; omega
          by_cases kFN : FN = 0
          · have bFN : Nat.beq FN 0 = true := by rw [kFN]; rfl
            have kFN' : ((FN : Int) != 0) = false := by simp; omega
            clear kFN
            have e1 : V = Nat.land (a + 0) 255 := by rw [KV.out, KX.out, bFN, bFH, bL, bFC, bA]; rfl
            have rV : bits .and .i64 (a : Int) 255 = (V : Nat) := by rw [e1]; have h := VP.out 0 (by omega); rw [show (a : Int) + ((0 : Nat) : Int) = (a : Int) by omega] at h; exact h
            have hV : V < 256 := by rw [e1]; exact VL.out _
            have hz := szpN_lt V hV
            have E : Hid (bits .or .i64 (bits .or .i64 (bits .or .i64 ((szpN V : Nat) : Int) (FN : Int)) (whenI (decide (9 < (L : Int))) 16)) (whenI (decide (153 < (a : Int))) 1) = (F : Int)) := by
              unfold Hid
              rw [show decide (153 < (a : Int)) = false from decide_eq_false (by omega)]
              rw [when9 L]
              rw [KF.out, KC.out, KH.out, bFC, bA, bFN]
              exact (or4 (szpN V) FN (Nat.mul 16 (btN (Nat.ble 10 L))) 0 hz (by omega) (bt_mul16 _) (by omega)).trans (congrArg _ (lor_swap (Nat.lor (szpN V) FN) (Nat.mul 16 (btN (Nat.ble 10 L))) 0))
            clear e1 bFH bL bFC bA bFN KF KV KX KC KH VP VM VL
            go_enter Tryz.func88, Tryz.ntmps88
            go_wp2_with (first | (go_at_call 32; refine (bytes_impl _ _ _).mono ?_; rintro e w' ⟨rfl, rfl⟩; rw [h2]) | (go_at_call 125; refine (sum0_impl _ _ _ (by omega) (by omega)).mono ?_; rintro e w' ⟨rfl, rfl⟩) | (go_at_call 126; refine (dif0_impl _ _ _ (by omega) (by omega)).mono ?_; rintro e w' ⟨rfl, rfl⟩) | (go_at_call 128; refine (pf_impl _ _ hV hL).mono ?_; rintro e w' ⟨rfl, rfl⟩) | (go_at_call 129; refine (when_impl _ _ _).mono ?_; rintro e w' ⟨rfl, rfl⟩))
            rw [E.out]
            go_ret3
            exact ⟨rfl, rfl⟩
          · have bFN : Nat.beq FN 0 = false := by rw [Bool.eq_false_iff]; intro h; exact kFN (Nat.eq_of_beq_eq_true h)
            have kFN' : ((FN : Int) != 0) = true := by simp; omega
            clear kFN
            have e1 : V = Nat.land (a + 512 - 0) 255 := by rw [KV.out, KX.out, bFN, bFH, bL, bFC, bA]; rfl
            have rV : bits .and .i64 (a : Int) 255 = (V : Nat) := by rw [e1]; have h := VM.out 0 (by omega); rw [show (a : Int) - ((0 : Nat) : Int) = (a : Int) by omega] at h; exact h
            have hV : V < 256 := by rw [e1]; exact VL.out _
            have hz := szpN_lt V hV
            have E : Hid (bits .or .i64 (bits .or .i64 (bits .or .i64 ((szpN V : Nat) : Int) (FN : Int)) (whenI false 16)) (whenI (decide (153 < (a : Int))) 1) = (F : Int)) := by
              unfold Hid
              rw [show decide (153 < (a : Int)) = false from decide_eq_false (by omega)]
              rw [KF.out, KC.out, KH.out, bFC, bA, bFN, bFH]
              exact (or4 (szpN V) FN 0 0 hz (by omega) (by omega) (by omega)).trans (congrArg _ (lor_swap (Nat.lor (szpN V) FN) 0 0))
            clear e1 bFH bL bFC bA bFN KF KV KX KC KH VP VM VL
            go_enter Tryz.func88, Tryz.ntmps88
            go_wp2_with (first | (go_at_call 32; refine (bytes_impl _ _ _).mono ?_; rintro e w' ⟨rfl, rfl⟩; rw [h2]) | (go_at_call 125; refine (sum0_impl _ _ _ (by omega) (by omega)).mono ?_; rintro e w' ⟨rfl, rfl⟩) | (go_at_call 126; refine (dif0_impl _ _ _ (by omega) (by omega)).mono ?_; rintro e w' ⟨rfl, rfl⟩) | (go_at_call 128; refine (pf_impl _ _ hV hL).mono ?_; rintro e w' ⟨rfl, rfl⟩) | (go_at_call 129; refine (when_impl _ _ _).mono ?_; rintro e w' ⟨rfl, rfl⟩))
            rw [E.out]
            go_ret3
            exact ⟨rfl, rfl⟩
  · have bFH : Nat.beq FH 0 = false := by rw [Bool.eq_false_iff]; intro h; exact kFH (Nat.eq_of_beq_eq_true h)
    have kFH' : ((FH : Int) != 0) = true := by simp; omega
    clear kFH
    by_cases kFC : FC = 1
    · have bFC : Nat.beq FC 1 = true := by rw [kFC]; rfl
      have kFC' : ((FC : Int) != 0) = true := by simp; omega
      clear kFC
      by_cases kFN : FN = 0
      · have bFN : Nat.beq FN 0 = true := by rw [kFN]; rfl
        have kFN' : ((FN : Int) != 0) = false := by simp; omega
        clear kFN
        have e1 : V = Nat.land (a + 102) 255 := by rw [KV.out, KX.out, bFN, bFH, bFC]; rfl
        have rV : bits .and .i64 ((a : Int) + 102) 255 = (V : Nat) := by rw [e1]; exact VP.out 102 (by omega)
        have hV : V < 256 := by rw [e1]; exact VL.out _
        have hz := szpN_lt V hV
        have E : Hid (bits .or .i64 (bits .or .i64 (bits .or .i64 ((szpN V : Nat) : Int) (FN : Int)) (whenI (decide (9 < (L : Int))) 16)) (whenI true 1) = (F : Int)) := by
          unfold Hid
          rw [when9 L]
          rw [KF.out, KC.out, KH.out, bFC, bFN]
          exact (or4 (szpN V) FN (Nat.mul 16 (btN (Nat.ble 10 L))) 1 hz (by omega) (bt_mul16 _) (by omega)).trans (congrArg _ (lor_swap (Nat.lor (szpN V) FN) (Nat.mul 16 (btN (Nat.ble 10 L))) 1))
        clear e1 bFH bFC bFN KF KV KX KC KH VP VM VL
        go_enter Tryz.func88, Tryz.ntmps88
        go_wp2_with (first | (go_at_call 32; refine (bytes_impl _ _ _).mono ?_; rintro e w' ⟨rfl, rfl⟩; rw [h2]) | (go_at_call 125; refine (sum0_impl _ _ _ (by omega) (by omega)).mono ?_; rintro e w' ⟨rfl, rfl⟩) | (go_at_call 126; refine (dif0_impl _ _ _ (by omega) (by omega)).mono ?_; rintro e w' ⟨rfl, rfl⟩) | (go_at_call 128; refine (pf_impl _ _ hV hL).mono ?_; rintro e w' ⟨rfl, rfl⟩) | (go_at_call 129; refine (when_impl _ _ _).mono ?_; rintro e w' ⟨rfl, rfl⟩))
        rw [E.out]
        go_ret3
        exact ⟨rfl, rfl⟩
      · have bFN : Nat.beq FN 0 = false := by rw [Bool.eq_false_iff]; intro h; exact kFN (Nat.eq_of_beq_eq_true h)
        have kFN' : ((FN : Int) != 0) = true := by simp; omega
        clear kFN
        have e1 : V = Nat.land (a + 512 - 102) 255 := by rw [KV.out, KX.out, bFN, bFH, bFC]; rfl
        have rV : bits .and .i64 ((a : Int) - 102) 255 = (V : Nat) := by rw [e1]; exact VM.out 102 (by omega)
        have hV : V < 256 := by rw [e1]; exact VL.out _
        have hz := szpN_lt V hV
        have E : Hid (bits .or .i64 (bits .or .i64 (bits .or .i64 ((szpN V : Nat) : Int) (FN : Int)) (whenI (decide ((L : Int) < 6)) 16)) (whenI true 1) = (F : Int)) := by
          unfold Hid
          rw [when6 L]
          rw [KF.out, KC.out, KH.out, bFC, bFN, bFH]
          exact (or4 (szpN V) FN (Nat.mul 16 (btN (Nat.ble (Nat.add L 1) 6))) 1 hz (by omega) (bt_mul16 _) (by omega)).trans (congrArg _ (lor_swap (Nat.lor (szpN V) FN) (Nat.mul 16 (btN (Nat.ble (Nat.add L 1) 6))) 1))
        clear e1 bFH bFC bFN KF KV KX KC KH VP VM VL
        go_enter Tryz.func88, Tryz.ntmps88
        go_wp2_with (first | (go_at_call 32; refine (bytes_impl _ _ _).mono ?_; rintro e w' ⟨rfl, rfl⟩; rw [h2]) | (go_at_call 125; refine (sum0_impl _ _ _ (by omega) (by omega)).mono ?_; rintro e w' ⟨rfl, rfl⟩) | (go_at_call 126; refine (dif0_impl _ _ _ (by omega) (by omega)).mono ?_; rintro e w' ⟨rfl, rfl⟩) | (go_at_call 128; refine (pf_impl _ _ hV hL).mono ?_; rintro e w' ⟨rfl, rfl⟩) | (go_at_call 129; refine (when_impl _ _ _).mono ?_; rintro e w' ⟨rfl, rfl⟩))
        rw [E.out]
        go_ret3
        exact ⟨rfl, rfl⟩
    · have bFC : Nat.beq FC 1 = false := by rw [Bool.eq_false_iff]; intro h; exact kFC (Nat.eq_of_beq_eq_true h)
      have kFC' : ((FC : Int) != 0) = false := by simp; omega
      clear kFC
      by_cases kA : 153 < a
      · have bA : Nat.ble 154 a = true := Nat.ble_eq_true_of_le (by omega)
        by_cases kFN : FN = 0
        · have bFN : Nat.beq FN 0 = true := by rw [kFN]; rfl
          have kFN' : ((FN : Int) != 0) = false := by simp; omega
          clear kFN
          have e1 : V = Nat.land (a + 102) 255 := by rw [KV.out, KX.out, bFN, bFH, bFC, bA]; rfl
          have rV : bits .and .i64 ((a : Int) + 102) 255 = (V : Nat) := by rw [e1]; exact VP.out 102 (by omega)
          have hV : V < 256 := by rw [e1]; exact VL.out _
          have hz := szpN_lt V hV
          have E : Hid (bits .or .i64 (bits .or .i64 (bits .or .i64 ((szpN V : Nat) : Int) (FN : Int)) (whenI (decide (9 < (L : Int))) 16)) (whenI true 1) = (F : Int)) := by
            unfold Hid
            rw [when9 L]
            rw [KF.out, KC.out, KH.out, bFC, bA, bFN]
            exact (or4 (szpN V) FN (Nat.mul 16 (btN (Nat.ble 10 L))) 1 hz (by omega) (bt_mul16 _) (by omega)).trans (congrArg _ (lor_swap (Nat.lor (szpN V) FN) (Nat.mul 16 (btN (Nat.ble 10 L))) 1))
          clear e1 bFH bFC bA bFN KF KV KX KC KH VP VM VL
          go_enter Tryz.func88, Tryz.ntmps88
          go_wp2_with (first | (go_at_call 32; refine (bytes_impl _ _ _).mono ?_; rintro e w' ⟨rfl, rfl⟩; rw [h2]) | (go_at_call 125; refine (sum0_impl _ _ _ (by omega) (by omega)).mono ?_; rintro e w' ⟨rfl, rfl⟩) | (go_at_call 126; refine (dif0_impl _ _ _ (by omega) (by omega)).mono ?_; rintro e w' ⟨rfl, rfl⟩) | (go_at_call 128; refine (pf_impl _ _ hV hL).mono ?_; rintro e w' ⟨rfl, rfl⟩) | (go_at_call 129; refine (when_impl _ _ _).mono ?_; rintro e w' ⟨rfl, rfl⟩))
          rw [E.out]
          go_ret3
          exact ⟨rfl, rfl⟩
        · have bFN : Nat.beq FN 0 = false := by rw [Bool.eq_false_iff]; intro h; exact kFN (Nat.eq_of_beq_eq_true h)
          have kFN' : ((FN : Int) != 0) = true := by simp; omega
          clear kFN
          have e1 : V = Nat.land (a + 512 - 102) 255 := by rw [KV.out, KX.out, bFN, bFH, bFC, bA]; rfl
          have rV : bits .and .i64 ((a : Int) - 102) 255 = (V : Nat) := by rw [e1]; exact VM.out 102 (by omega)
          have hV : V < 256 := by rw [e1]; exact VL.out _
          have hz := szpN_lt V hV
          have E : Hid (bits .or .i64 (bits .or .i64 (bits .or .i64 ((szpN V : Nat) : Int) (FN : Int)) (whenI (decide ((L : Int) < 6)) 16)) (whenI true 1) = (F : Int)) := by
            unfold Hid
            rw [when6 L]
            rw [KF.out, KC.out, KH.out, bFC, bA, bFN, bFH]
            exact (or4 (szpN V) FN (Nat.mul 16 (btN (Nat.ble (Nat.add L 1) 6))) 1 hz (by omega) (bt_mul16 _) (by omega)).trans (congrArg _ (lor_swap (Nat.lor (szpN V) FN) (Nat.mul 16 (btN (Nat.ble (Nat.add L 1) 6))) 1))
          clear e1 bFH bFC bA bFN KF KV KX KC KH VP VM VL
          go_enter Tryz.func88, Tryz.ntmps88
          go_wp2_with (first | (go_at_call 32; refine (bytes_impl _ _ _).mono ?_; rintro e w' ⟨rfl, rfl⟩; rw [h2]) | (go_at_call 125; refine (sum0_impl _ _ _ (by omega) (by omega)).mono ?_; rintro e w' ⟨rfl, rfl⟩) | (go_at_call 126; refine (dif0_impl _ _ _ (by omega) (by omega)).mono ?_; rintro e w' ⟨rfl, rfl⟩) | (go_at_call 128; refine (pf_impl _ _ hV hL).mono ?_; rintro e w' ⟨rfl, rfl⟩) | (go_at_call 129; refine (when_impl _ _ _).mono ?_; rintro e w' ⟨rfl, rfl⟩))
          rw [E.out]
          go_ret3
          exact ⟨rfl, rfl⟩
      · have bA : Nat.ble 154 a = false := by rw [Bool.eq_false_iff]; intro h; have := Nat.le_of_ble_eq_true h; omega
        by_cases kFN : FN = 0
        · have bFN : Nat.beq FN 0 = true := by rw [kFN]; rfl
          have kFN' : ((FN : Int) != 0) = false := by simp; omega
          clear kFN
          have e1 : V = Nat.land (a + 6) 255 := by rw [KV.out, KX.out, bFN, bFH, bFC, bA]; rfl
          have rV : bits .and .i64 ((a : Int) + 6) 255 = (V : Nat) := by rw [e1]; exact VP.out 6 (by omega)
          have hV : V < 256 := by rw [e1]; exact VL.out _
          have hz := szpN_lt V hV
          have E : Hid (bits .or .i64 (bits .or .i64 (bits .or .i64 ((szpN V : Nat) : Int) (FN : Int)) (whenI (decide (9 < (L : Int))) 16)) (whenI (decide (153 < (a : Int))) 1) = (F : Int)) := by
            unfold Hid
            rw [show decide (153 < (a : Int)) = false from decide_eq_false (by omega)]
            rw [when9 L]
            rw [KF.out, KC.out, KH.out, bFC, bA, bFN]
            exact (or4 (szpN V) FN (Nat.mul 16 (btN (Nat.ble 10 L))) 0 hz (by omega) (bt_mul16 _) (by omega)).trans (congrArg _ (lor_swap (Nat.lor (szpN V) FN) (Nat.mul 16 (btN (Nat.ble 10 L))) 0))
          clear e1 bFH bFC bA bFN KF KV KX KC KH VP VM VL
          go_enter Tryz.func88, Tryz.ntmps88
          go_wp2_with (first | (go_at_call 32; refine (bytes_impl _ _ _).mono ?_; rintro e w' ⟨rfl, rfl⟩; rw [h2]) | (go_at_call 125; refine (sum0_impl _ _ _ (by omega) (by omega)).mono ?_; rintro e w' ⟨rfl, rfl⟩) | (go_at_call 126; refine (dif0_impl _ _ _ (by omega) (by omega)).mono ?_; rintro e w' ⟨rfl, rfl⟩) | (go_at_call 128; refine (pf_impl _ _ hV hL).mono ?_; rintro e w' ⟨rfl, rfl⟩) | (go_at_call 129; refine (when_impl _ _ _).mono ?_; rintro e w' ⟨rfl, rfl⟩))
          rw [E.out]
          go_ret3
          exact ⟨rfl, rfl⟩
        · have bFN : Nat.beq FN 0 = false := by rw [Bool.eq_false_iff]; intro h; exact kFN (Nat.eq_of_beq_eq_true h)
          have kFN' : ((FN : Int) != 0) = true := by simp; omega
          clear kFN
          have e1 : V = Nat.land (a + 512 - 6) 255 := by rw [KV.out, KX.out, bFN, bFH, bFC, bA]; rfl
          have rV : bits .and .i64 ((a : Int) - 6) 255 = (V : Nat) := by rw [e1]; exact VM.out 6 (by omega)
          have hV : V < 256 := by rw [e1]; exact VL.out _
          have hz := szpN_lt V hV
          have E : Hid (bits .or .i64 (bits .or .i64 (bits .or .i64 ((szpN V : Nat) : Int) (FN : Int)) (whenI (decide ((L : Int) < 6)) 16)) (whenI (decide (153 < (a : Int))) 1) = (F : Int)) := by
            unfold Hid
            rw [show decide (153 < (a : Int)) = false from decide_eq_false (by omega)]
            rw [when6 L]
            rw [KF.out, KC.out, KH.out, bFC, bA, bFN, bFH]
            exact (or4 (szpN V) FN (Nat.mul 16 (btN (Nat.ble (Nat.add L 1) 6))) 0 hz (by omega) (bt_mul16 _) (by omega)).trans (congrArg _ (lor_swap (Nat.lor (szpN V) FN) (Nat.mul 16 (btN (Nat.ble (Nat.add L 1) 6))) 0))
          clear e1 bFH bFC bA bFN KF KV KX KC KH VP VM VL
          go_enter Tryz.func88, Tryz.ntmps88
          go_wp2_with (first | (go_at_call 32; refine (bytes_impl _ _ _).mono ?_; rintro e w' ⟨rfl, rfl⟩; rw [h2]) | (go_at_call 125; refine (sum0_impl _ _ _ (by omega) (by omega)).mono ?_; rintro e w' ⟨rfl, rfl⟩) | (go_at_call 126; refine (dif0_impl _ _ _ (by omega) (by omega)).mono ?_; rintro e w' ⟨rfl, rfl⟩) | (go_at_call 128; refine (pf_impl _ _ hV hL).mono ?_; rintro e w' ⟨rfl, rfl⟩) | (go_at_call 129; refine (when_impl _ _ _).mono ?_; rintro e w' ⟨rfl, rfl⟩))
          rw [E.out]
          go_ret3
          exact ⟨rfl, rfl⟩
theorem daa8_impl (a f : Int) (w : World) (hL : Flags w) : Calls Tryz.prog 88 #[.int .i64 a, .int .i64 f] w fun e w' => e = .returned (daa8V a f) ∧ w' = w := by
  have h3 := askB0 a f
  cases h : askB a f 0
  · have e : daa8V a f = no3 := by unfold daa8V; rw [h]; rfl
    have h1 := h3.symm.trans h
    rw [e]
    clear e h3 h
    go_enter Tryz.func88, Tryz.ntmps88
    go_wp2_with (first | (go_at_call 32; refine (bytes_impl _ _ _).mono ?_; rintro e w' ⟨rfl, rfl⟩; rw [h1]))
    go_ret3
    exact ⟨rfl, rfl⟩
  · have e : daa8V a f = .tuple #[.int .i64 (daaV a.toNat f.toNat), .int .i64 (daaF a.toNat f.toNat), .int .i64 0] := by unfold daa8V; rw [h]; rfl
    have h1 := h3.symm.trans h
    rw [e]
    obtain ⟨x, y, z, rfl, rfl, hz0, hx, hy, _⟩ := askB_yes h
    simp only [Int.toNat_natCast]
    exact daa_go x y w hx hy h1 hL
end Go.Proofs.YtgpmpfikeindfaaGreatDoor
