/- What the program's Add8, Sub8, Inc8 and Dec8 answer as they are asked: what the specification's answer. -/
import Derived.Test.YtffogcielohoeaaDoorPr
import Derived.Test.YtffogcielohoeaaDoorAh
namespace Go.Proofs.YtffogcielohoeaaDoor
open Go.ChangeShapes Go.WideShapes Go.ChangeAt Go.RowKit
set_option linter.unusedVariables false

theorem add8_impl (a b c : Int) (w : World) (hL : Flags w) : Calls Tryd.prog 14 #[.int .i64 a, .int .i64 b, .int .i64 c] w fun e w' => e = .returned (add8V a b c) ∧ w' = w := by
  cases h : askB a b c
  · have e : add8V a b c = no3 := by unfold add8V; rw [h]; rfl
    rw [e]
    cases h1 : (inB a 0 255 && inB b 0 255)
    · go_enter Tryd.func14, Tryd.ntmps14
      go_wp2_with (first | (go_at_call 32; refine (bytes_impl _ _ _).mono ?_; rintro e w' ⟨rfl, rfl⟩; rw [h1]) | (go_at_call 33; refine (within_impl _ _ _ _).mono ?_; rintro e w' ⟨rfl, rfl⟩))
      go_ret3
      exact ⟨rfl, rfl⟩
    · have h2 : inB c 0 1 = false := by unfold askB at h; rw [h1] at h; exact h
      go_enter Tryd.func14, Tryd.ntmps14
      go_wp2_with (first | (go_at_call 32; refine (bytes_impl _ _ _).mono ?_; rintro e w' ⟨rfl, rfl⟩; rw [h1]) | (go_at_call 33; refine (within_impl _ _ _ _).mono ?_; rintro e w' ⟨rfl, rfl⟩; rw [h2]))
      go_ret3
      exact ⟨rfl, rfl⟩
  · have e : add8V a b c = .tuple #[.int .i64 (addV a.toNat b.toNat c.toNat), .int .i64 (addF a.toNat b.toNat c.toNat), .int .i64 0] := by unfold add8V; rw [h]; rfl
    rw [e]
    have h' := h
    unfold askB at h'
    rw [Bool.and_eq_true] at h'
    obtain ⟨h1, h2⟩ := h'
    obtain ⟨x, y, z, rfl, rfl, rfl, hx, hy, hz⟩ := askB_yes h
    simp only [Int.toNat_natCast]
    clear e h
    go_enter Tryd.func14, Tryd.ntmps14
    go_wp2_with (first | (go_at_call 32; refine (bytes_impl _ _ _).mono ?_; rintro e w' ⟨rfl, rfl⟩; rw [h1]) | (go_at_call 33; refine (within_impl _ _ _ _).mono ?_; rintro e w' ⟨rfl, rfl⟩; rw [h2]) | (go_at_call 34; refine (rk_add _ _ _ _ hx hy hz hL).mono ?_; rintro e w' ⟨rfl, rfl⟩))
    go_ret3
    exact ⟨rfl, rfl⟩

theorem sub8_impl (a b c : Int) (w : World) (hL : Flags w) : Calls Tryd.prog 16 #[.int .i64 a, .int .i64 b, .int .i64 c] w fun e w' => e = .returned (sub8V a b c) ∧ w' = w := by
  cases h : askB a b c
  · have e : sub8V a b c = no3 := by unfold sub8V; rw [h]; rfl
    rw [e]
    cases h1 : (inB a 0 255 && inB b 0 255)
    · go_enter Tryd.func16, Tryd.ntmps16
      go_wp2_with (first | (go_at_call 32; refine (bytes_impl _ _ _).mono ?_; rintro e w' ⟨rfl, rfl⟩; rw [h1]) | (go_at_call 33; refine (within_impl _ _ _ _).mono ?_; rintro e w' ⟨rfl, rfl⟩))
      go_ret3
      exact ⟨rfl, rfl⟩
    · have h2 : inB c 0 1 = false := by unfold askB at h; rw [h1] at h; exact h
      go_enter Tryd.func16, Tryd.ntmps16
      go_wp2_with (first | (go_at_call 32; refine (bytes_impl _ _ _).mono ?_; rintro e w' ⟨rfl, rfl⟩; rw [h1]) | (go_at_call 33; refine (within_impl _ _ _ _).mono ?_; rintro e w' ⟨rfl, rfl⟩; rw [h2]))
      go_ret3
      exact ⟨rfl, rfl⟩
  · have e : sub8V a b c = .tuple #[.int .i64 (subV a.toNat b.toNat c.toNat), .int .i64 (subF a.toNat b.toNat c.toNat), .int .i64 0] := by unfold sub8V; rw [h]; rfl
    rw [e]
    have h' := h
    unfold askB at h'
    rw [Bool.and_eq_true] at h'
    obtain ⟨h1, h2⟩ := h'
    obtain ⟨x, y, z, rfl, rfl, rfl, hx, hy, hz⟩ := askB_yes h
    simp only [Int.toNat_natCast]
    clear e h
    have r : bits .or .i64 ((subG x y z : Nat) : Int) 2 = (subF x y z : Nat) := by
      have hg := subG_lt x y z
      rw [← subG_F]
      exact bOr (subG x y z) 2 (by omega) (by omega)
    go_enter Tryd.func16, Tryd.ntmps16
    go_wp2_with (first | (go_at_call 32; refine (bytes_impl _ _ _).mono ?_; rintro e w' ⟨rfl, rfl⟩; rw [h1]) | (go_at_call 33; refine (within_impl _ _ _ _).mono ?_; rintro e w' ⟨rfl, rfl⟩; rw [h2]) | (go_at_call 34; refine (rk_sub _ _ _ _ hx hy hz hL).mono ?_; rintro e w' ⟨rfl, rfl⟩))
    go_ret3
    exact ⟨rfl, rfl⟩

theorem and_not1 : ∀ x : Fin 256, bits .andNot .i64 (Int.ofNat x.val) 1 = Int.ofNat (Nat.sub x.val (Nat.land x.val 1)) := by decide +kernel
theorem andnot_of (x : Nat) (h : x < 256) : bits .andNot .i64 (x : Int) 1 = (Nat.sub x (Nat.land x 1) : Nat) := and_not1 ⟨x, h⟩
/-- the flags of a step by one, the carry being kept -/
def keepC (g f : Nat) : Nat := Nat.lor (Nat.sub g (Nat.land g 1)) (Nat.land f 1)
theorem keep_int (g f : Nat) (hg : g < 256) (hf : f < 256) : bits .or .i64 (bits .andNot .i64 (g : Int) 1) (bits .and .i64 (f : Int) 1) = (keepC g f : Nat) := by
  have h1 : bits .and .i64 (f : Int) 1 = (Nat.land f 1 : Nat) := bAnd f 1 (by omega) (by omega)
  have hc : Nat.land f 1 < 2 ^ 1 := Nat.and_lt_two_pow _ (by decide)
  have hs : Nat.sub g (Nat.land g 1) ≤ g := Nat.sub_le _ _
  rw [h1, andnot_of g hg]
  exact bOr _ _ (by omega) (by omega)
theorem bit01 (f : Nat) : Nat.land f 1 = 0 ∨ Nat.land f 1 = 1 := by
  have hc : Nat.land f 1 < 2 ^ 1 := Nat.and_lt_two_pow _ (by decide)
  omega
def incH (a c : Nat) : Nat := Nat.lor (Nat.lor (Nat.lor c (szN (incV a))) (Nat.mul 16 (btN (Nat.beq (Nat.land a 15) 15)))) (Nat.mul 4 (btN (Nat.beq a 127)))
theorem inc_all : allB 256 (fun a => allB 2 fun c => Nat.beq (Nat.lor (Nat.sub (addF a 1 0) (Nat.land (addF a 1 0) 1)) c) (incH a c)) = true := by decide +kernel
theorem inc_keep (a f : Nat) (ha : a < 256) : keepC (addF a 1 0) f = incF a f := by
  have hc : Nat.land f 1 < 2 ^ 1 := Nat.and_lt_two_pow _ (by decide)
  exact Nat.eq_of_beq_eq_true (allB_at (allB_at inc_all a ha) (Nat.land f 1) hc)
theorem one_add (a f : Nat) (w : World) (ha : a < 256) (hf : f < 256) (hL : Flags w) :
    Calls Tryd.prog 47 #[.func (.func 35) #[] #[], .int .i64 a, .int .i64 f] w fun e w' => e = .returned (.tuple #[.int .i64 (incV a), .int .i64 (incF a f)]) ∧ w' = w := by
  have E : Hid _ := keep_int (addF a 1 0) f (addF_lt _ _ _) hf
  rw [inc_keep a f ha] at E
  go_enter Tryd.func47, Tryd.ntmps47
  go_wp2_with (go_at_call 34; refine (rk_add a 1 0 _ ha (by decide) (by decide) hL).mono ?_; rintro e w' ⟨rfl, rfl⟩)
  rw [E.out]
  go_ret2
  exact ⟨rfl, rfl⟩
theorem inc8_impl (a f : Int) (w : World) (hL : Flags w) : Calls Tryd.prog 22 #[.int .i64 a, .int .i64 f] w fun e w' => e = .returned (inc8V a f) ∧ w' = w := by
  have h3 : askB a f 0 = (inB a 0 255 && inB f 0 255) := by unfold askB; rw [show inB 0 0 1 = true by decide, Bool.and_true]
  cases h : askB a f 0
  · have e : inc8V a f = no3 := by unfold inc8V; rw [h]; rfl
    have h1 := h3.symm.trans h
    rw [e]
    clear e h3 h
    go_enter Tryd.func22, Tryd.ntmps22
    go_wp2_with (first | (go_at_call 32; refine (bytes_impl _ _ _).mono ?_; rintro e w' ⟨rfl, rfl⟩; rw [h1]))
    go_ret3
    exact ⟨rfl, rfl⟩
  · have e : inc8V a f = .tuple #[.int .i64 (incV a.toNat), .int .i64 (incF a.toNat f.toNat), .int .i64 0] := by unfold inc8V; rw [h]; rfl
    have h1 := h3.symm.trans h
    rw [e]
    obtain ⟨x, y, z, rfl, rfl, _, hx, hy, _⟩ := askB_yes h
    simp only [Int.toNat_natCast]
    clear e h h3
    go_enter Tryd.func22, Tryd.ntmps22
    go_wp2_with (first | (go_at_call 32; refine (bytes_impl _ _ _).mono ?_; rintro e w' ⟨rfl, rfl⟩; rw [h1]) | (go_at_call 47; refine (one_add _ _ _ hx hy hL).mono ?_; rintro e w' ⟨rfl, rfl⟩))
    go_ret3
    exact ⟨rfl, rfl⟩

def decH (a c : Nat) : Nat := Nat.lor (Nat.lor (Nat.lor (Nat.lor c (szN (decV a))) 2) (Nat.mul 16 (btN (Nat.beq (Nat.land a 15) 0)))) (Nat.mul 4 (btN (Nat.beq a 128)))
theorem dec_all : allB 256 (fun a => allB 2 fun c => Nat.beq (Nat.lor (Nat.lor (Nat.sub (subG a 1 0) (Nat.land (subG a 1 0) 1)) c) 2) (decH a c)) = true := by decide +kernel
theorem dec_keep (a f : Nat) (ha : a < 256) : Nat.lor (keepC (subG a 1 0) f) 2 = decF a f := by
  have hc : Nat.land f 1 < 2 ^ 1 := Nat.and_lt_two_pow _ (by decide)
  exact Nat.eq_of_beq_eq_true (allB_at (allB_at dec_all a ha) (Nat.land f 1) hc)
theorem subV_one (a : Nat) : subV a 1 0 = decV a := by
  rw [subV_mod, show decV a = (a + 255) % 256 from Nat.and_two_pow_sub_one_eq_mod (a + 255) 8]
  omega
theorem keepC_lt (g f : Nat) (hg : g < 256) : keepC g f < 256 := by
  have hc : Nat.land f 1 < 2 ^ 8 := Nat.lt_of_lt_of_le (Nat.and_lt_two_pow (n := 1) _ (by decide)) (by decide)
  have hs : Nat.sub g (Nat.land g 1) ≤ g := Nat.sub_le _ _
  exact Nat.or_lt_two_pow (n := 8) (by omega) hc
theorem one_sub (a f : Nat) (w : World) (ha : a < 256) (hf : f < 256) (hL : Flags w) :
    Calls Tryd.prog 47 #[.func (.func 38) #[] #[], .int .i64 a, .int .i64 f] w fun e w' => e = .returned (.tuple #[.int .i64 (decV a), .int .i64 (keepC (subG a 1 0) f)]) ∧ w' = w := by
  have E : Hid _ := keep_int (subG a 1 0) f (subG_lt _ _ _) hf
  have hv := subV_one a
  go_enter Tryd.func47, Tryd.ntmps47
  go_wp2_with (go_at_call 34; refine (rk_sub a 1 0 _ ha (by decide) (by decide) hL).mono ?_; rintro e w' ⟨rfl, rfl⟩; rw [hv])
  rw [E.out]
  go_ret2
  exact ⟨rfl, rfl⟩
theorem dec8_impl (a f : Int) (w : World) (hL : Flags w) : Calls Tryd.prog 24 #[.int .i64 a, .int .i64 f] w fun e w' => e = .returned (dec8V a f) ∧ w' = w := by
  have h3 : askB a f 0 = (inB a 0 255 && inB f 0 255) := by unfold askB; rw [show inB 0 0 1 = true by decide, Bool.and_true]
  cases h : askB a f 0
  · have e : dec8V a f = no3 := by unfold dec8V; rw [h]; rfl
    have h1 := h3.symm.trans h
    rw [e]
    clear e h3 h
    go_enter Tryd.func24, Tryd.ntmps24
    go_wp2_with (first | (go_at_call 32; refine (bytes_impl _ _ _).mono ?_; rintro e w' ⟨rfl, rfl⟩; rw [h1]))
    go_ret3
    exact ⟨rfl, rfl⟩
  · have e : dec8V a f = .tuple #[.int .i64 (decV a.toNat), .int .i64 (decF a.toNat f.toNat), .int .i64 0] := by unfold dec8V; rw [h]; rfl
    have h1 := h3.symm.trans h
    rw [e]
    obtain ⟨x, y, z, rfl, rfl, _, hx, hy, _⟩ := askB_yes h
    simp only [Int.toNat_natCast]
    have r : bits .or .i64 ((keepC (subG x 1 0) y : Nat) : Int) 2 = (decF x y : Nat) := by
      have hk := keepC_lt (subG x 1 0) y (subG_lt _ _ _)
      rw [← dec_keep x y hx]
      exact bOr _ 2 (by omega) (by omega)
    clear e h h3
    go_enter Tryd.func24, Tryd.ntmps24
    go_wp2_with (first | (go_at_call 32; refine (bytes_impl _ _ _).mono ?_; rintro e w' ⟨rfl, rfl⟩; rw [h1]) | (go_at_call 47; refine (one_sub _ _ _ hx hy hL).mono ?_; rintro e w' ⟨rfl, rfl⟩))
    go_ret3
    exact ⟨rfl, rfl⟩
end Go.Proofs.YtffogcielohoeaaDoor
