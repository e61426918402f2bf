/- What the program's Turn8 answers as it is asked: what the specification's answers; its table of functions is new memory. -/
import Derived.Test.YtgpmpfikeindfaaGreatDoorV26
import Derived.Laws.EntriesVeiled
namespace Go.Proofs.YtgpmpfikeindfaaGreatDoor
open Go.ChangeShapes Go.WideShapes Go.ChangeAt Go.RowKit
set_option linter.unusedVariables false

def entV : Value := .agg #[.func (.func 152) #[] #[], .func (.func 153) #[] #[], .func (.func 154) #[] #[], .func (.func 155) #[] #[], .func (.func 156) #[] #[], .func (.func 157) #[] #[], .func (.func 158) #[] #[], .func (.func 159) #[] #[]]
theorem enter_impl (w : World) : Calls Tryz.prog 127 #[] w fun e w' => e = .returned entV ∧ Below w.heap.size w w' := by
  go_enter Tryz.func127, Tryz.ntmps127
  go_wp2
  exact bodyPost_ret (v := entV) (by simp [results, Tryz.results127, go_sem, entV]) rfl ⟨rfl, (Below.refl _ _).alloc (Nat.le_refl _) _⟩

theorem turnV_lt (o a c : Nat) (h : o < 8) : turnV o a c < 256 := by
  have h3 : o = 0 ∨ o = 1 ∨ o = 2 ∨ o = 3 ∨ o = 4 ∨ o = 5 ∨ o = 6 ∨ o = 7 := by omega
  rcases h3 with rfl | rfl | rfl | rfl | rfl | rfl | rfl | rfl <;> exact Nat.and_lt_two_pow (n := 8) _ (by decide)
theorem out_when (x : Nat) (h : x < 2) : whenI ((x : Int) == 1) 1 = (x : Int) := by
  have : x = 0 ∨ x = 1 := by omega
  rcases this with rfl | rfl <;> rfl
theorem pv0 : allB 256 (fun a => allB 2 fun c => Nat.beq (Nat.lor (Nat.land (Nat.mul a 2) 255) (Nat.div a 128)) (turnV 0 a c)) = true := by decide +kernel
theorem pv1 : allB 256 (fun a => allB 2 fun c => Nat.beq (Nat.lor (Nat.div a 2) (Nat.mul (Nat.land a 1) 128)) (turnV 1 a c)) = true := by decide +kernel
theorem pv2 : allB 256 (fun a => allB 2 fun c => Nat.beq (Nat.lor (Nat.land (Nat.mul a 2) 255) c) (turnV 2 a c)) = true := by decide +kernel
theorem pv3 : allB 256 (fun a => allB 2 fun c => Nat.beq (Nat.lor (Nat.div a 2) (Nat.mul c 128)) (turnV 3 a c)) = true := by decide +kernel
theorem pv4 : allB 256 (fun a => allB 2 fun c => Nat.beq (Nat.lor (Nat.land (Nat.mul a 2) 255) 0) (turnV 4 a c)) = true := by decide +kernel
theorem pv5 : allB 256 (fun a => allB 2 fun c => Nat.beq (Nat.lor (Nat.div a 2) (Nat.mul (Nat.div a 128) 128)) (turnV 5 a c)) = true := by decide +kernel
theorem pv6 : allB 256 (fun a => allB 2 fun c => Nat.beq (Nat.lor (Nat.land (Nat.mul a 2) 255) 1) (turnV 6 a c)) = true := by decide +kernel
theorem pv7 : allB 256 (fun a => allB 2 fun c => Nat.beq (Nat.lor (Nat.div a 2) (Nat.mul 0 128)) (turnV 7 a c)) = true := by decide +kernel
theorem turn_go0 (a c f : Nat) (w : World) (ha : a < 256) (hc : c < 2) (hf : f < 256) (rc : bits .and .i64 (f : Int) 1 = (c : Int)) (h2 : (inB (a : Int) 0 255 && inB (f : Int) 0 255) = true) (hL : Flags w) :
    Calls Tryz.prog 84 #[.int .i64 0, .int .i64 a, .int .i64 f] w fun e w' => e = .returned (.tuple #[.int .i64 (turnV 0 a c : Nat), .int .i64 (turnF 0 a c : Nat), .int .i64 0]) ∧ Below w.heap.size w w' := by
  have r0 : bits .and .i64 (a : Int) 1 = (Nat.land a 1 : Nat) := bAnd a 1 (by omega) (by omega)
  have h0 : Nat.land a 1 < 2 ^ 1 := Nat.and_lt_two_pow _ (by decide)
  have rL : bits .and .i64 ((a : Int) * 2) 255 = (Nat.land (Nat.mul a 2) 255 : Nat) := bAnd (a * 2) 255 (by omega) (by omega)
  have hl : Nat.land (Nat.mul a 2) 255 < 2 ^ 8 := Nat.and_lt_two_pow _ (by decide)
  have hV := turnV_lt 0 a c (by decide)
  have hz := szpN_lt _ hV
  have rV : bits .or .i64 ((Nat.land (Nat.mul a 2) 255 : Nat) : Int) ((a : Int) / 128) = (turnV 0 a c : Nat) := (bOr (Nat.land (Nat.mul a 2) 255) (a / 128) (by omega) (by omega)).trans (congrArg _ (Nat.eq_of_beq_eq_true (allB_at (allB_at pv0 a ha) c hc)))
  have E : bits .or .i64 ((szpN (turnV 0 a c) : Nat) : Int) (whenI ((a : Int) / 128 == 1) 1) = (turnF 0 a c : Nat) := by
    have e1 : whenI ((a : Int) / 128 == 1) 1 = ((a / 128 : Nat) : Int) := out_when (a / 128) (by omega)
    rw [e1]
    exact bOr _ _ (by omega) (by omega)
  replace E : Hid _ := E
  generalize turnF 0 a c = F at *
  generalize turnV 0 a c = V at *
  generalize Nat.land (Nat.mul a 2) 255 = L at *
  generalize Nat.land a 1 = A0 at *
  go_enter Tryz.func84, Tryz.ntmps84
  go_wp2_with fail
  refine (enter_impl _).mono ?_
  rintro e w1 ⟨rfl, hb1⟩
  have hL2 : ∀ o, Flags (w1.alloc o) := fun o => flags_below hL (hb1.alloc hb1.size o)
  unfold entV
  go_wp2_with (first | (go_at_call 32; refine (bytes_impl _ _ _).mono ?_; rintro e w' ⟨rfl, rfl⟩; rw [h2]) | (go_at_call 33; refine (withinU_impl _ _ _ _).mono ?_; rintro e w' ⟨rfl, rfl⟩; rw [show inB 0 0 7 = true by decide]) | (go_at_call 128; refine (pf_impl _ _ hV (hL2 _)).mono ?_; rintro e w' ⟨rfl, rfl⟩) | (go_at_call 129; refine (when_impl _ _ _).mono ?_; rintro e w' ⟨rfl, rfl⟩) | go_in)
  rw [E.out]
  go_ret3
  exact ⟨rfl, hb1.alloc hb1.size _⟩
theorem turn_go1 (a c f : Nat) (w : World) (ha : a < 256) (hc : c < 2) (hf : f < 256) (rc : bits .and .i64 (f : Int) 1 = (c : Int)) (h2 : (inB (a : Int) 0 255 && inB (f : Int) 0 255) = true) (hL : Flags w) :
    Calls Tryz.prog 84 #[.int .i64 1, .int .i64 a, .int .i64 f] w fun e w' => e = .returned (.tuple #[.int .i64 (turnV 1 a c : Nat), .int .i64 (turnF 1 a c : Nat), .int .i64 0]) ∧ Below w.heap.size w w' := by
  have r0 : bits .and .i64 (a : Int) 1 = (Nat.land a 1 : Nat) := bAnd a 1 (by omega) (by omega)
  have h0 : Nat.land a 1 < 2 ^ 1 := Nat.and_lt_two_pow _ (by decide)
  have rL : bits .and .i64 ((a : Int) * 2) 255 = (Nat.land (Nat.mul a 2) 255 : Nat) := bAnd (a * 2) 255 (by omega) (by omega)
  have hl : Nat.land (Nat.mul a 2) 255 < 2 ^ 8 := Nat.and_lt_two_pow _ (by decide)
  have hV := turnV_lt 1 a c (by decide)
  have hz := szpN_lt _ hV
  have rV : bits .or .i64 ((a : Int) / 2) (((Nat.land a 1 : Nat) : Int) * 128) = (turnV 1 a c : Nat) := (bOr (a / 2) (Nat.land a 1 * 128) (by omega) (by omega)).trans (congrArg _ (Nat.eq_of_beq_eq_true (allB_at (allB_at pv1 a ha) c hc)))
  have E : bits .or .i64 ((szpN (turnV 1 a c) : Nat) : Int) (whenI (((Nat.land a 1 : Nat) : Int) == 1) 1) = (turnF 1 a c : Nat) := by
    rw [out_when (Nat.land a 1) h0]
    exact bOr _ _ (by omega) (by omega)
  replace E : Hid _ := E
  generalize turnF 1 a c = F at *
  generalize turnV 1 a c = V at *
  generalize Nat.land (Nat.mul a 2) 255 = L at *
  generalize Nat.land a 1 = A0 at *
  go_enter Tryz.func84, Tryz.ntmps84
  go_wp2_with fail
  refine (enter_impl _).mono ?_
  rintro e w1 ⟨rfl, hb1⟩
  have hL2 : ∀ o, Flags (w1.alloc o) := fun o => flags_below hL (hb1.alloc hb1.size o)
  unfold entV
  go_wp2_with (first | (go_at_call 32; refine (bytes_impl _ _ _).mono ?_; rintro e w' ⟨rfl, rfl⟩; rw [h2]) | (go_at_call 33; refine (withinU_impl _ _ _ _).mono ?_; rintro e w' ⟨rfl, rfl⟩; rw [show inB 1 0 7 = true by decide]) | (go_at_call 128; refine (pf_impl _ _ hV (hL2 _)).mono ?_; rintro e w' ⟨rfl, rfl⟩) | (go_at_call 129; refine (when_impl _ _ _).mono ?_; rintro e w' ⟨rfl, rfl⟩) | go_in)
  rw [E.out]
  go_ret3
  exact ⟨rfl, hb1.alloc hb1.size _⟩
theorem turn_go2 (a c f : Nat) (w : World) (ha : a < 256) (hc : c < 2) (hf : f < 256) (rc : bits .and .i64 (f : Int) 1 = (c : Int)) (h2 : (inB (a : Int) 0 255 && inB (f : Int) 0 255) = true) (hL : Flags w) :
    Calls Tryz.prog 84 #[.int .i64 2, .int .i64 a, .int .i64 f] w fun e w' => e = .returned (.tuple #[.int .i64 (turnV 2 a c : Nat), .int .i64 (turnF 2 a c : Nat), .int .i64 0]) ∧ Below w.heap.size w w' := by
  have r0 : bits .and .i64 (a : Int) 1 = (Nat.land a 1 : Nat) := bAnd a 1 (by omega) (by omega)
  have h0 : Nat.land a 1 < 2 ^ 1 := Nat.and_lt_two_pow _ (by decide)
  have rL : bits .and .i64 ((a : Int) * 2) 255 = (Nat.land (Nat.mul a 2) 255 : Nat) := bAnd (a * 2) 255 (by omega) (by omega)
  have hl : Nat.land (Nat.mul a 2) 255 < 2 ^ 8 := Nat.and_lt_two_pow _ (by decide)
  have hV := turnV_lt 2 a c (by decide)
  have hz := szpN_lt _ hV
  have rV : bits .or .i64 ((Nat.land (Nat.mul a 2) 255 : Nat) : Int) (c : Int) = (turnV 2 a c : Nat) := (bOr (Nat.land (Nat.mul a 2) 255) c (by omega) (by omega)).trans (congrArg _ (Nat.eq_of_beq_eq_true (allB_at (allB_at pv2 a ha) c hc)))
  have E : bits .or .i64 ((szpN (turnV 2 a c) : Nat) : Int) (whenI ((a : Int) / 128 == 1) 1) = (turnF 2 a c : Nat) := by
    have e1 : whenI ((a : Int) / 128 == 1) 1 = ((a / 128 : Nat) : Int) := out_when (a / 128) (by omega)
    rw [e1]
    exact bOr _ _ (by omega) (by omega)
  replace E : Hid _ := E
  generalize turnF 2 a c = F at *
  generalize turnV 2 a c = V at *
  generalize Nat.land (Nat.mul a 2) 255 = L at *
  generalize Nat.land a 1 = A0 at *
  go_enter Tryz.func84, Tryz.ntmps84
  go_wp2_with fail
  refine (enter_impl _).mono ?_
  rintro e w1 ⟨rfl, hb1⟩
  have hL2 : ∀ o, Flags (w1.alloc o) := fun o => flags_below hL (hb1.alloc hb1.size o)
  unfold entV
  go_wp2_with (first | (go_at_call 32; refine (bytes_impl _ _ _).mono ?_; rintro e w' ⟨rfl, rfl⟩; rw [h2]) | (go_at_call 33; refine (withinU_impl _ _ _ _).mono ?_; rintro e w' ⟨rfl, rfl⟩; rw [show inB 2 0 7 = true by decide]) | (go_at_call 128; refine (pf_impl _ _ hV (hL2 _)).mono ?_; rintro e w' ⟨rfl, rfl⟩) | (go_at_call 129; refine (when_impl _ _ _).mono ?_; rintro e w' ⟨rfl, rfl⟩) | go_in)
  rw [E.out]
  go_ret3
  exact ⟨rfl, hb1.alloc hb1.size _⟩
theorem turn_go3 (a c f : Nat) (w : World) (ha : a < 256) (hc : c < 2) (hf : f < 256) (rc : bits .and .i64 (f : Int) 1 = (c : Int)) (h2 : (inB (a : Int) 0 255 && inB (f : Int) 0 255) = true) (hL : Flags w) :
    Calls Tryz.prog 84 #[.int .i64 3, .int .i64 a, .int .i64 f] w fun e w' => e = .returned (.tuple #[.int .i64 (turnV 3 a c : Nat), .int .i64 (turnF 3 a c : Nat), .int .i64 0]) ∧ Below w.heap.size w w' := by
  have r0 : bits .and .i64 (a : Int) 1 = (Nat.land a 1 : Nat) := bAnd a 1 (by omega) (by omega)
  have h0 : Nat.land a 1 < 2 ^ 1 := Nat.and_lt_two_pow _ (by decide)
  have rL : bits .and .i64 ((a : Int) * 2) 255 = (Nat.land (Nat.mul a 2) 255 : Nat) := bAnd (a * 2) 255 (by omega) (by omega)
  have hl : Nat.land (Nat.mul a 2) 255 < 2 ^ 8 := Nat.and_lt_two_pow _ (by decide)
  have hV := turnV_lt 3 a c (by decide)
  have hz := szpN_lt _ hV
  have rV : bits .or .i64 ((a : Int) / 2) ((c : Int) * 128) = (turnV 3 a c : Nat) := (bOr (a / 2) (c * 128) (by omega) (by omega)).trans (congrArg _ (Nat.eq_of_beq_eq_true (allB_at (allB_at pv3 a ha) c hc)))
  have E : bits .or .i64 ((szpN (turnV 3 a c) : Nat) : Int) (whenI (((Nat.land a 1 : Nat) : Int) == 1) 1) = (turnF 3 a c : Nat) := by
    rw [out_when (Nat.land a 1) h0]
    exact bOr _ _ (by omega) (by omega)
  replace E : Hid _ := E
  generalize turnF 3 a c = F at *
  generalize turnV 3 a c = V at *
  generalize Nat.land (Nat.mul a 2) 255 = L at *
  generalize Nat.land a 1 = A0 at *
  go_enter Tryz.func84, Tryz.ntmps84
  go_wp2_with fail
  refine (enter_impl _).mono ?_
  rintro e w1 ⟨rfl, hb1⟩
  have hL2 : ∀ o, Flags (w1.alloc o) := fun o => flags_below hL (hb1.alloc hb1.size o)
  unfold entV
  go_wp2_with (first | (go_at_call 32; refine (bytes_impl _ _ _).mono ?_; rintro e w' ⟨rfl, rfl⟩; rw [h2]) | (go_at_call 33; refine (withinU_impl _ _ _ _).mono ?_; rintro e w' ⟨rfl, rfl⟩; rw [show inB 3 0 7 = true by decide]) | (go_at_call 128; refine (pf_impl _ _ hV (hL2 _)).mono ?_; rintro e w' ⟨rfl, rfl⟩) | (go_at_call 129; refine (when_impl _ _ _).mono ?_; rintro e w' ⟨rfl, rfl⟩) | go_in)
  rw [E.out]
  go_ret3
  exact ⟨rfl, hb1.alloc hb1.size _⟩
theorem turn_go4 (a c f : Nat) (w : World) (ha : a < 256) (hc : c < 2) (hf : f < 256) (rc : bits .and .i64 (f : Int) 1 = (c : Int)) (h2 : (inB (a : Int) 0 255 && inB (f : Int) 0 255) = true) (hL : Flags w) :
    Calls Tryz.prog 84 #[.int .i64 4, .int .i64 a, .int .i64 f] w fun e w' => e = .returned (.tuple #[.int .i64 (turnV 4 a c : Nat), .int .i64 (turnF 4 a c : Nat), .int .i64 0]) ∧ Below w.heap.size w w' := by
  have r0 : bits .and .i64 (a : Int) 1 = (Nat.land a 1 : Nat) := bAnd a 1 (by omega) (by omega)
  have h0 : Nat.land a 1 < 2 ^ 1 := Nat.and_lt_two_pow _ (by decide)
  have rL : bits .and .i64 ((a : Int) * 2) 255 = (Nat.land (Nat.mul a 2) 255 : Nat) := bAnd (a * 2) 255 (by omega) (by omega)
  have hl : Nat.land (Nat.mul a 2) 255 < 2 ^ 8 := Nat.and_lt_two_pow _ (by decide)
  have hV := turnV_lt 4 a c (by decide)
  have hz := szpN_lt _ hV
  have rV : bits .or .i64 ((Nat.land (Nat.mul a 2) 255 : Nat) : Int) 0 = (turnV 4 a c : Nat) := (bOr (Nat.land (Nat.mul a 2) 255) 0 (by omega) (by omega)).trans (congrArg _ (Nat.eq_of_beq_eq_true (allB_at (allB_at pv4 a ha) c hc)))
  have E : bits .or .i64 ((szpN (turnV 4 a c) : Nat) : Int) (whenI ((a : Int) / 128 == 1) 1) = (turnF 4 a c : Nat) := by
    have e1 : whenI ((a : Int) / 128 == 1) 1 = ((a / 128 : Nat) : Int) := out_when (a / 128) (by omega)
    rw [e1]
    exact bOr _ _ (by omega) (by omega)
  replace E : Hid _ := E
  generalize turnF 4 a c = F at *
  generalize turnV 4 a c = V at *
  generalize Nat.land (Nat.mul a 2) 255 = L at *
  generalize Nat.land a 1 = A0 at *
  go_enter Tryz.func84, Tryz.ntmps84
  go_wp2_with fail
  refine (enter_impl _).mono ?_
  rintro e w1 ⟨rfl, hb1⟩
  have hL2 : ∀ o, Flags (w1.alloc o) := fun o => flags_below hL (hb1.alloc hb1.size o)
  unfold entV
  go_wp2_with (first | (go_at_call 32; refine (bytes_impl _ _ _).mono ?_; rintro e w' ⟨rfl, rfl⟩; rw [h2]) | (go_at_call 33; refine (withinU_impl _ _ _ _).mono ?_; rintro e w' ⟨rfl, rfl⟩; rw [show inB 4 0 7 = true by decide]) | (go_at_call 128; refine (pf_impl _ _ hV (hL2 _)).mono ?_; rintro e w' ⟨rfl, rfl⟩) | (go_at_call 129; refine (when_impl _ _ _).mono ?_; rintro e w' ⟨rfl, rfl⟩) | go_in)
  rw [E.out]
  go_ret3
  exact ⟨rfl, hb1.alloc hb1.size _⟩
theorem turn_go5 (a c f : Nat) (w : World) (ha : a < 256) (hc : c < 2) (hf : f < 256) (rc : bits .and .i64 (f : Int) 1 = (c : Int)) (h2 : (inB (a : Int) 0 255 && inB (f : Int) 0 255) = true) (hL : Flags w) :
    Calls Tryz.prog 84 #[.int .i64 5, .int .i64 a, .int .i64 f] w fun e w' => e = .returned (.tuple #[.int .i64 (turnV 5 a c : Nat), .int .i64 (turnF 5 a c : Nat), .int .i64 0]) ∧ Below w.heap.size w w' := by
  have r0 : bits .and .i64 (a : Int) 1 = (Nat.land a 1 : Nat) := bAnd a 1 (by omega) (by omega)
  have h0 : Nat.land a 1 < 2 ^ 1 := Nat.and_lt_two_pow _ (by decide)
  have rL : bits .and .i64 ((a : Int) * 2) 255 = (Nat.land (Nat.mul a 2) 255 : Nat) := bAnd (a * 2) 255 (by omega) (by omega)
  have hl : Nat.land (Nat.mul a 2) 255 < 2 ^ 8 := Nat.and_lt_two_pow _ (by decide)
  have hV := turnV_lt 5 a c (by decide)
  have hz := szpN_lt _ hV
  have rV : bits .or .i64 ((a : Int) / 2) ((a : Int) / 128 * 128) = (turnV 5 a c : Nat) := (bOr (a / 2) (a / 128 * 128) (by omega) (by omega)).trans (congrArg _ (Nat.eq_of_beq_eq_true (allB_at (allB_at pv5 a ha) c hc)))
  have E : bits .or .i64 ((szpN (turnV 5 a c) : Nat) : Int) (whenI (((Nat.land a 1 : Nat) : Int) == 1) 1) = (turnF 5 a c : Nat) := by
    rw [out_when (Nat.land a 1) h0]
    exact bOr _ _ (by omega) (by omega)
  replace E : Hid _ := E
  generalize turnF 5 a c = F at *
  generalize turnV 5 a c = V at *
  generalize Nat.land (Nat.mul a 2) 255 = L at *
  generalize Nat.land a 1 = A0 at *
  go_enter Tryz.func84, Tryz.ntmps84
  go_wp2_with fail
  refine (enter_impl _).mono ?_
  rintro e w1 ⟨rfl, hb1⟩
  have hL2 : ∀ o, Flags (w1.alloc o) := fun o => flags_below hL (hb1.alloc hb1.size o)
  unfold entV
  go_wp2_with (first | (go_at_call 32; refine (bytes_impl _ _ _).mono ?_; rintro e w' ⟨rfl, rfl⟩; rw [h2]) | (go_at_call 33; refine (withinU_impl _ _ _ _).mono ?_; rintro e w' ⟨rfl, rfl⟩; rw [show inB 5 0 7 = true by decide]) | (go_at_call 128; refine (pf_impl _ _ hV (hL2 _)).mono ?_; rintro e w' ⟨rfl, rfl⟩) | (go_at_call 129; refine (when_impl _ _ _).mono ?_; rintro e w' ⟨rfl, rfl⟩) | go_in)
  rw [E.out]
  go_ret3
  exact ⟨rfl, hb1.alloc hb1.size _⟩
theorem turn_go6 (a c f : Nat) (w : World) (ha : a < 256) (hc : c < 2) (hf : f < 256) (rc : bits .and .i64 (f : Int) 1 = (c : Int)) (h2 : (inB (a : Int) 0 255 && inB (f : Int) 0 255) = true) (hL : Flags w) :
    Calls Tryz.prog 84 #[.int .i64 6, .int .i64 a, .int .i64 f] w fun e w' => e = .returned (.tuple #[.int .i64 (turnV 6 a c : Nat), .int .i64 (turnF 6 a c : Nat), .int .i64 0]) ∧ Below w.heap.size w w' := by
  have r0 : bits .and .i64 (a : Int) 1 = (Nat.land a 1 : Nat) := bAnd a 1 (by omega) (by omega)
  have h0 : Nat.land a 1 < 2 ^ 1 := Nat.and_lt_two_pow _ (by decide)
  have rL : bits .and .i64 ((a : Int) * 2) 255 = (Nat.land (Nat.mul a 2) 255 : Nat) := bAnd (a * 2) 255 (by omega) (by omega)
  have hl : Nat.land (Nat.mul a 2) 255 < 2 ^ 8 := Nat.and_lt_two_pow _ (by decide)
  have hV := turnV_lt 6 a c (by decide)
  have hz := szpN_lt _ hV
  have rV : bits .or .i64 ((Nat.land (Nat.mul a 2) 255 : Nat) : Int) 1 = (turnV 6 a c : Nat) := (bOr (Nat.land (Nat.mul a 2) 255) 1 (by omega) (by omega)).trans (congrArg _ (Nat.eq_of_beq_eq_true (allB_at (allB_at pv6 a ha) c hc)))
  have E : bits .or .i64 ((szpN (turnV 6 a c) : Nat) : Int) (whenI ((a : Int) / 128 == 1) 1) = (turnF 6 a c : Nat) := by
    have e1 : whenI ((a : Int) / 128 == 1) 1 = ((a / 128 : Nat) : Int) := out_when (a / 128) (by omega)
    rw [e1]
    exact bOr _ _ (by omega) (by omega)
  replace E : Hid _ := E
  generalize turnF 6 a c = F at *
  generalize turnV 6 a c = V at *
  generalize Nat.land (Nat.mul a 2) 255 = L at *
  generalize Nat.land a 1 = A0 at *
  go_enter Tryz.func84, Tryz.ntmps84
  go_wp2_with fail
  refine (enter_impl _).mono ?_
  rintro e w1 ⟨rfl, hb1⟩
  have hL2 : ∀ o, Flags (w1.alloc o) := fun o => flags_below hL (hb1.alloc hb1.size o)
  unfold entV
  go_wp2_with (first | (go_at_call 32; refine (bytes_impl _ _ _).mono ?_; rintro e w' ⟨rfl, rfl⟩; rw [h2]) | (go_at_call 33; refine (withinU_impl _ _ _ _).mono ?_; rintro e w' ⟨rfl, rfl⟩; rw [show inB 6 0 7 = true by decide]) | (go_at_call 128; refine (pf_impl _ _ hV (hL2 _)).mono ?_; rintro e w' ⟨rfl, rfl⟩) | (go_at_call 129; refine (when_impl _ _ _).mono ?_; rintro e w' ⟨rfl, rfl⟩) | go_in)
  rw [E.out]
  go_ret3
  exact ⟨rfl, hb1.alloc hb1.size _⟩
theorem turn_go7 (a c f : Nat) (w : World) (ha : a < 256) (hc : c < 2) (hf : f < 256) (rc : bits .and .i64 (f : Int) 1 = (c : Int)) (h2 : (inB (a : Int) 0 255 && inB (f : Int) 0 255) = true) (hL : Flags w) :
    Calls Tryz.prog 84 #[.int .i64 7, .int .i64 a, .int .i64 f] w fun e w' => e = .returned (.tuple #[.int .i64 (turnV 7 a c : Nat), .int .i64 (turnF 7 a c : Nat), .int .i64 0]) ∧ Below w.heap.size w w' := by
  have r0 : bits .and .i64 (a : Int) 1 = (Nat.land a 1 : Nat) := bAnd a 1 (by omega) (by omega)
  have h0 : Nat.land a 1 < 2 ^ 1 := Nat.and_lt_two_pow _ (by decide)
  have rL : bits .and .i64 ((a : Int) * 2) 255 = (Nat.land (Nat.mul a 2) 255 : Nat) := bAnd (a * 2) 255 (by omega) (by omega)
  have hl : Nat.land (Nat.mul a 2) 255 < 2 ^ 8 := Nat.and_lt_two_pow _ (by decide)
  have hV := turnV_lt 7 a c (by decide)
  have hz := szpN_lt _ hV
  have rV : bits .or .i64 ((a : Int) / 2) 0 = (turnV 7 a c : Nat) := (bOr (a / 2) 0 (by omega) (by omega)).trans (congrArg _ (Nat.eq_of_beq_eq_true (allB_at (allB_at pv7 a ha) c hc)))
  have E : bits .or .i64 ((szpN (turnV 7 a c) : Nat) : Int) (whenI (((Nat.land a 1 : Nat) : Int) == 1) 1) = (turnF 7 a c : Nat) := by
    rw [out_when (Nat.land a 1) h0]
    exact bOr _ _ (by omega) (by omega)
  replace E : Hid _ := E
  generalize turnF 7 a c = F at *
  generalize turnV 7 a c = V at *
  generalize Nat.land (Nat.mul a 2) 255 = L at *
  generalize Nat.land a 1 = A0 at *
  go_enter Tryz.func84, Tryz.ntmps84
  go_wp2_with fail
  refine (enter_impl _).mono ?_
  rintro e w1 ⟨rfl, hb1⟩
  have hL2 : ∀ o, Flags (w1.alloc o) := fun o => flags_below hL (hb1.alloc hb1.size o)
  unfold entV
  go_wp2_with (first | (go_at_call 32; refine (bytes_impl _ _ _).mono ?_; rintro e w' ⟨rfl, rfl⟩; rw [h2]) | (go_at_call 33; refine (withinU_impl _ _ _ _).mono ?_; rintro e w' ⟨rfl, rfl⟩; rw [show inB 7 0 7 = true by decide]) | (go_at_call 128; refine (pf_impl _ _ hV (hL2 _)).mono ?_; rintro e w' ⟨rfl, rfl⟩) | (go_at_call 129; refine (when_impl _ _ _).mono ?_; rintro e w' ⟨rfl, rfl⟩) | go_in)
  rw [E.out]
  go_ret3
  exact ⟨rfl, hb1.alloc hb1.size _⟩
theorem turn8_impl (o a f : Int) (w : World) (hL : Flags w) : Calls Tryz.prog 84 #[.int .i64 o, .int .i64 a, .int .i64 f] w fun e w' => e = .returned (turn8V o a f) ∧ Below w.heap.size w w' := by
  have h3 := askB0 a f
  cases h1 : inB o 0 7
  · have e : turn8V o a f = no3 := by unfold turn8V; rw [h1]; rfl
    rw [e]
    clear e h3
    go_enter Tryz.func84, Tryz.ntmps84
    go_wp2_with fail
    refine (enter_impl _).mono ?_
    rintro e w1 ⟨rfl, hb1⟩
    unfold entV
    go_wp2_with (first | (go_at_call 32; refine (bytes_impl _ _ _).mono ?_; rintro e w' ⟨rfl, rfl⟩) | (go_at_call 33; refine (withinU_impl _ _ _ _).mono ?_; rintro e w' ⟨rfl, rfl⟩; rw [h1]))
    go_ret3
    exact ⟨rfl, hb1.alloc hb1.size _⟩
  · cases h : askB a f 0
    · have e : turn8V o a f = no3 := by unfold turn8V; rw [h1, h]; rfl
      have h2 := h3.symm.trans h
      rw [e]
      clear e h3 h
      go_enter Tryz.func84, Tryz.ntmps84
      go_wp2_with fail
      refine (enter_impl _).mono ?_
      rintro e w1 ⟨rfl, hb1⟩
      unfold entV
      go_wp2_with (first | (go_at_call 32; refine (bytes_impl _ _ _).mono ?_; rintro e w' ⟨rfl, rfl⟩; rw [h2]) | (go_at_call 33; refine (withinU_impl _ _ _ _).mono ?_; rintro e w' ⟨rfl, rfl⟩; rw [h1]))
      go_ret3
      exact ⟨rfl, hb1.alloc hb1.size _⟩
    · have e : turn8V o a f = .tuple #[.int .i64 (turnW o.toNat a.toNat f.toNat), .int .i64 (turnG o.toNat a.toNat f.toNat), .int .i64 0] := by unfold turn8V; rw [h1, h]; rfl
      have h2 := h3.symm.trans h
      rw [e]
      obtain ⟨x, y, z, rfl, rfl, hz0, hx, hy, _⟩ := askB_yes h
      obtain ⟨k, rfl, hk⟩ : ∃ k : Nat, o = k ∧ k < 8 := by simp [inB] at h1; exact ⟨o.toNat, by omega, by omega⟩
      simp only [Int.toNat_natCast]
      clear e h h3 hz0
      have rc : bits .and .i64 (y : Int) 1 = (Nat.land y 1 : Nat) := bAnd y 1 (by omega) (by omega)
      have hc : Nat.land y 1 < 2 ^ 1 := Nat.and_lt_two_pow _ (by decide)
      have h4 : k = 0 ∨ k = 1 ∨ k = 2 ∨ k = 3 ∨ k = 4 ∨ k = 5 ∨ k = 6 ∨ k = 7 := by omega
      rcases h4 with rfl | rfl | rfl | rfl | rfl | rfl | rfl | rfl
      · exact turn_go0 x _ y w hx hc hy rc h2 hL
      · exact turn_go1 x _ y w hx hc hy rc h2 hL
      · exact turn_go2 x _ y w hx hc hy rc h2 hL
      · exact turn_go3 x _ y w hx hc hy rc h2 hL
      · exact turn_go4 x _ y w hx hc hy rc h2 hL
      · exact turn_go5 x _ y w hx hc hy rc h2 hL
      · exact turn_go6 x _ y w hx hc hy rc h2 hL
      · exact turn_go7 x _ y w hx hc hy rc h2 hL
end Go.Proofs.YtgpmpfikeindfaaGreatDoor
