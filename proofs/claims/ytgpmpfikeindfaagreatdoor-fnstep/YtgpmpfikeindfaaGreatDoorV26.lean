/- What the program's TestBit and Logic8 answer as they are asked: what the specification's answer. -/
import Derived.Test.YtgpmpfikeindfaaGreatDoorV24
import Derived.Test.YtgpmpfikeindfaaGreatDoorV25
import Derived.Laws.EntriesVeiled
namespace Go.Proofs.YtgpmpfikeindfaaGreatDoor
open Go.ChangeShapes Go.WideShapes Go.ChangeAt Go.RowKit
set_option linter.unusedVariables false

theorem askB0 (a f : Int) : askB a f 0 = (inB a 0 255 && inB f 0 255) := by unfold askB; rw [show inB 0 0 1 = true by decide, Bool.and_true]

theorem test8_impl (o a f : Int) (w : World) : Calls Tryz.prog 130 #[.int .i64 o, .int .i64 a, .int .i64 f] w fun e w' => e = .returned (test8V o a f) ∧ w' = w := by
  have h3 := askB0 a f
  cases h1 : inB o 0 7
  · have e : test8V o a f = no2 := by unfold test8V; rw [h1]; rfl
    rw [e]
    clear e h3
    go_enter Tryz.func130, Tryz.ntmps130
    go_wp2_with (first | (go_at_call 32; refine (bytes_impl _ _ _).mono ?_; rintro e w' ⟨rfl, rfl⟩) | (go_at_call 33; refine (withinU_impl _ _ _ _).mono ?_; rintro e w' ⟨rfl, rfl⟩; rw [h1]))
    go_ret2
    exact ⟨rfl, rfl⟩
  · cases h : askB a f 0
    · have e : test8V o a f = no2 := by unfold test8V; rw [h1, h]; rfl
      have h2 := h3.symm.trans h
      rw [e]
      clear e h3 h
      go_enter Tryz.func130, Tryz.ntmps130
      go_wp2_with (first | (go_at_call 32; refine (bytes_impl _ _ _).mono ?_; rintro e w' ⟨rfl, rfl⟩; rw [h2]) | (go_at_call 33; refine (withinU_impl _ _ _ _).mono ?_; rintro e w' ⟨rfl, rfl⟩; rw [h1]))
      go_ret2
      exact ⟨rfl, rfl⟩
    · have e : test8V o a f = .tuple #[.int .i64 (tstF o.toNat a.toNat f.toNat), .int .i64 0] := by unfold test8V; rw [h1, h]; rfl
      have h2 := h3.symm.trans h
      rw [e]
      obtain ⟨x, y, z, rfl, rfl, hz0, hx, hy, _⟩ := askB_yes h
      obtain ⟨k, rfl, hk⟩ : ∃ k : Nat, o = k ∧ k < 8 := by simp [inB] at h1; exact ⟨o.toNat, by omega, by omega⟩
      simp only [Int.toNat_natCast]
      clear e h h3 hz0
      have hp : Nat.pow 2 k ≤ 128 := Nat.pow_le_pow_right (n := 2) (by decide) (show k ≤ 7 by omega)
      have rV : bits .and .i64 (x : Int) ((Nat.pow 2 k : Nat) : Int) = (Nat.land x (Nat.pow 2 k) : Nat) := bAnd x _ (by omega) (by omega)
      have rc : bits .and .i64 (y : Int) 1 = (Nat.land y 1 : Nat) := bAnd y 1 (by omega) (by omega)
      have hc : Nat.land y 1 < 2 ^ 1 := Nat.and_lt_two_pow _ (by decide)
      have r4 : bits .and .i64 (x : Int) 40 = (Nat.land x 40 : Nat) := bAnd x 40 (by omega) (by omega)
      have h4 : Nat.land x 40 < 2 ^ 6 := Nat.and_lt_two_pow _ (by decide)
      have hV : Nat.land x (Nat.pow 2 k) < 2 ^ 8 := Nat.and_lt_two_pow _ (by omega)
      have r8 : bits .and .i64 ((Nat.land x (Nat.pow 2 k) : Nat) : Int) 128 = (Nat.land (Nat.land x (Nat.pow 2 k)) 128 : Nat) := bAnd _ 128 (by omega) (by omega)
      have h8 : Nat.land (Nat.land x (Nat.pow 2 k)) 128 < 2 ^ 8 := Nat.and_lt_two_pow _ (by decide)
      have E : bits .or .i64 (bits .or .i64 (bits .or .i64 (bits .or .i64 ((Nat.land y 1 : Nat) : Int) 16) ((Nat.land x 40 : Nat) : Int)) ((Nat.land (Nat.land x (Nat.pow 2 k)) 128 : Nat) : Int)) (whenI (((Nat.land x (Nat.pow 2 k) : Nat) : Int) == 0) 68) = (tstF k x y : Nat) := by
        rw [eq0_nat, show ∀ q, whenI q 68 = _ from fun q => when_nat q 68]
        have h9 : whenN (Nat.beq (Nat.land x (Nat.pow 2 k)) 0) 68 < 256 := whenN_lt _ _ _ (by decide)
        refine (or5 (Nat.land y 1) 16 (Nat.land x 40) _ _ (by omega) (by omega) (by omega) (by omega) h9).trans ?_
        unfold tstF
        cases Nat.beq (Nat.land x (Nat.pow 2 k)) 0 <;> rfl
      replace E : Hid _ := E
      clear hp
      generalize tstF k x y = F at *
      have h3 : k = 0 ∨ k = 1 ∨ k = 2 ∨ k = 3 ∨ k = 4 ∨ k = 5 ∨ k = 6 ∨ k = 7 := by omega
      rcases h3 with rfl | rfl | rfl | rfl | rfl | rfl | rfl | rfl
      · replace rV : bits .and .i64 (x : Int) 1 = (Nat.land x (Nat.pow 2 0) : Nat) := rV
        generalize Nat.land (Nat.land x (Nat.pow 2 0)) 128 = V8 at *
        generalize Nat.land x (Nat.pow 2 0) = V at *
        generalize Nat.land x 40 = A4 at *
        generalize Nat.land y 1 = C1 at *
        go_enter Tryz.func130, Tryz.ntmps130
        go_wp2_with (first | (go_at_call 32; refine (bytes_impl _ _ _).mono ?_; rintro e w' ⟨rfl, rfl⟩; rw [h2]) | (go_at_call 33; refine (withinU_impl _ _ _ _).mono ?_; rintro e w' ⟨rfl, rfl⟩; rw [show inB 0 0 7 = true by decide]) | (go_at_call 129; refine (when_impl _ _ _).mono ?_; rintro e w' ⟨rfl, rfl⟩))
        rw [E.out]
        go_ret2
        exact ⟨rfl, rfl⟩
      · replace rV : bits .and .i64 (x : Int) 2 = (Nat.land x (Nat.pow 2 1) : Nat) := rV
        generalize Nat.land (Nat.land x (Nat.pow 2 1)) 128 = V8 at *
        generalize Nat.land x (Nat.pow 2 1) = V at *
        generalize Nat.land x 40 = A4 at *
        generalize Nat.land y 1 = C1 at *
        go_enter Tryz.func130, Tryz.ntmps130
        go_wp2_with (first | (go_at_call 32; refine (bytes_impl _ _ _).mono ?_; rintro e w' ⟨rfl, rfl⟩; rw [h2]) | (go_at_call 33; refine (withinU_impl _ _ _ _).mono ?_; rintro e w' ⟨rfl, rfl⟩; rw [show inB 1 0 7 = true by decide]) | (go_at_call 129; refine (when_impl _ _ _).mono ?_; rintro e w' ⟨rfl, rfl⟩))
        rw [E.out]
        go_ret2
        exact ⟨rfl, rfl⟩
      · replace rV : bits .and .i64 (x : Int) 4 = (Nat.land x (Nat.pow 2 2) : Nat) := rV
        generalize Nat.land (Nat.land x (Nat.pow 2 2)) 128 = V8 at *
        generalize Nat.land x (Nat.pow 2 2) = V at *
        generalize Nat.land x 40 = A4 at *
        generalize Nat.land y 1 = C1 at *
        go_enter Tryz.func130, Tryz.ntmps130
        go_wp2_with (first | (go_at_call 32; refine (bytes_impl _ _ _).mono ?_; rintro e w' ⟨rfl, rfl⟩; rw [h2]) | (go_at_call 33; refine (withinU_impl _ _ _ _).mono ?_; rintro e w' ⟨rfl, rfl⟩; rw [show inB 2 0 7 = true by decide]) | (go_at_call 129; refine (when_impl _ _ _).mono ?_; rintro e w' ⟨rfl, rfl⟩))
        rw [E.out]
        go_ret2
        exact ⟨rfl, rfl⟩
      · replace rV : bits .and .i64 (x : Int) 8 = (Nat.land x (Nat.pow 2 3) : Nat) := rV
        generalize Nat.land (Nat.land x (Nat.pow 2 3)) 128 = V8 at *
        generalize Nat.land x (Nat.pow 2 3) = V at *
        generalize Nat.land x 40 = A4 at *
        generalize Nat.land y 1 = C1 at *
        go_enter Tryz.func130, Tryz.ntmps130
        go_wp2_with (first | (go_at_call 32; refine (bytes_impl _ _ _).mono ?_; rintro e w' ⟨rfl, rfl⟩; rw [h2]) | (go_at_call 33; refine (withinU_impl _ _ _ _).mono ?_; rintro e w' ⟨rfl, rfl⟩; rw [show inB 3 0 7 = true by decide]) | (go_at_call 129; refine (when_impl _ _ _).mono ?_; rintro e w' ⟨rfl, rfl⟩))
        rw [E.out]
        go_ret2
        exact ⟨rfl, rfl⟩
      · replace rV : bits .and .i64 (x : Int) 16 = (Nat.land x (Nat.pow 2 4) : Nat) := rV
        generalize Nat.land (Nat.land x (Nat.pow 2 4)) 128 = V8 at *
        generalize Nat.land x (Nat.pow 2 4) = V at *
        generalize Nat.land x 40 = A4 at *
        generalize Nat.land y 1 = C1 at *
        go_enter Tryz.func130, Tryz.ntmps130
        go_wp2_with (first | (go_at_call 32; refine (bytes_impl _ _ _).mono ?_; rintro e w' ⟨rfl, rfl⟩; rw [h2]) | (go_at_call 33; refine (withinU_impl _ _ _ _).mono ?_; rintro e w' ⟨rfl, rfl⟩; rw [show inB 4 0 7 = true by decide]) | (go_at_call 129; refine (when_impl _ _ _).mono ?_; rintro e w' ⟨rfl, rfl⟩))
        rw [E.out]
        go_ret2
        exact ⟨rfl, rfl⟩
      · replace rV : bits .and .i64 (x : Int) 32 = (Nat.land x (Nat.pow 2 5) : Nat) := rV
        generalize Nat.land (Nat.land x (Nat.pow 2 5)) 128 = V8 at *
        generalize Nat.land x (Nat.pow 2 5) = V at *
        generalize Nat.land x 40 = A4 at *
        generalize Nat.land y 1 = C1 at *
        go_enter Tryz.func130, Tryz.ntmps130
        go_wp2_with (first | (go_at_call 32; refine (bytes_impl _ _ _).mono ?_; rintro e w' ⟨rfl, rfl⟩; rw [h2]) | (go_at_call 33; refine (withinU_impl _ _ _ _).mono ?_; rintro e w' ⟨rfl, rfl⟩; rw [show inB 5 0 7 = true by decide]) | (go_at_call 129; refine (when_impl _ _ _).mono ?_; rintro e w' ⟨rfl, rfl⟩))
        rw [E.out]
        go_ret2
        exact ⟨rfl, rfl⟩
      · replace rV : bits .and .i64 (x : Int) 64 = (Nat.land x (Nat.pow 2 6) : Nat) := rV
        generalize Nat.land (Nat.land x (Nat.pow 2 6)) 128 = V8 at *
        generalize Nat.land x (Nat.pow 2 6) = V at *
        generalize Nat.land x 40 = A4 at *
        generalize Nat.land y 1 = C1 at *
        go_enter Tryz.func130, Tryz.ntmps130
        go_wp2_with (first | (go_at_call 32; refine (bytes_impl _ _ _).mono ?_; rintro e w' ⟨rfl, rfl⟩; rw [h2]) | (go_at_call 33; refine (withinU_impl _ _ _ _).mono ?_; rintro e w' ⟨rfl, rfl⟩; rw [show inB 6 0 7 = true by decide]) | (go_at_call 129; refine (when_impl _ _ _).mono ?_; rintro e w' ⟨rfl, rfl⟩))
        rw [E.out]
        go_ret2
        exact ⟨rfl, rfl⟩
      · replace rV : bits .and .i64 (x : Int) 128 = (Nat.land x (Nat.pow 2 7) : Nat) := rV
        generalize Nat.land (Nat.land x (Nat.pow 2 7)) 128 = V8 at *
        generalize Nat.land x (Nat.pow 2 7) = V at *
        generalize Nat.land x 40 = A4 at *
        generalize Nat.land y 1 = C1 at *
        go_enter Tryz.func130, Tryz.ntmps130
        go_wp2_with (first | (go_at_call 32; refine (bytes_impl _ _ _).mono ?_; rintro e w' ⟨rfl, rfl⟩; rw [h2]) | (go_at_call 33; refine (withinU_impl _ _ _ _).mono ?_; rintro e w' ⟨rfl, rfl⟩; rw [show inB 7 0 7 = true by decide]) | (go_at_call 129; refine (when_impl _ _ _).mono ?_; rintro e w' ⟨rfl, rfl⟩))
        rw [E.out]
        go_ret2
        exact ⟨rfl, rfl⟩
end Go.Proofs.YtgpmpfikeindfaaGreatDoor

/- What the program's Logic8 answers as it is asked: what the specification's answers; its table of functions is new memory. -/
namespace Go.Proofs.YtgpmpfikeindfaaGreatDoor
open Go.ChangeShapes Go.WideShapes Go.ChangeAt Go.RowKit
set_option linter.unusedVariables false

theorem join_impl (w : World) : Calls Tryz.prog 162 #[] w fun e w' => e = .returned (.agg #[.func (.func 165) #[] #[], .func (.func 166) #[] #[], .func (.func 167) #[] #[]]) ∧ Below w.heap.size w w' := by
  go_enter Tryz.func162, Tryz.ntmps162
  go_wp2
  exact bodyPost_ret (v := .agg #[.func (.func 165) #[] #[], .func (.func 166) #[] #[], .func (.func 167) #[] #[]]) (by simp [results, Tryz.results162, go_sem]) rfl ⟨rfl, (Below.refl _ _).alloc (Nat.le_refl _) _⟩
theorem logic8_impl (o a f : Int) (w : World) (hL : Flags w) : Calls Tryz.prog 147 #[.int .i64 o, .int .i64 a, .int .i64 f] w fun e w' => e = .returned (logic8V o a f) ∧ Below w.heap.size w w' := by
  have h3 := askB0 a f
  cases h1 : inB o 0 2
  · have e : logic8V o a f = no3 := by unfold logic8V; rw [h1]; rfl
    rw [e]
    clear e h3
    go_enter Tryz.func147, Tryz.ntmps147
    go_wp2_with fail
    refine (join_impl _).mono ?_
    rintro e w1 ⟨rfl, hb1⟩
    go_wp2_with (first | (go_at_call 32; refine (bytes_impl _ _ _).mono ?_; rintro e w' ⟨rfl, rfl⟩) | (go_at_call 33; refine (withinU_impl _ _ _ _).mono ?_; rintro e w' ⟨rfl, rfl⟩; rw [h1]))
    go_ret3
    exact ⟨rfl, hb1.alloc hb1.size _⟩
  · cases h : askB a f 0
    · have e : logic8V o a f = no3 := by unfold logic8V; rw [h1, h]; rfl
      have h2 := h3.symm.trans h
      rw [e]
      clear e h3 h
      go_enter Tryz.func147, Tryz.ntmps147
      go_wp2_with fail
      refine (join_impl _).mono ?_
      rintro e w1 ⟨rfl, hb1⟩
      go_wp2_with (first | (go_at_call 32; refine (bytes_impl _ _ _).mono ?_; rintro e w' ⟨rfl, rfl⟩; rw [h2]) | (go_at_call 33; refine (withinU_impl _ _ _ _).mono ?_; rintro e w' ⟨rfl, rfl⟩; rw [h1]))
      go_ret3
      exact ⟨rfl, hb1.alloc hb1.size _⟩
    · have e : logic8V o a f = .tuple #[.int .i64 (logV o.toNat a.toNat f.toNat), .int .i64 (logF o.toNat a.toNat f.toNat), .int .i64 0] := by unfold logic8V; rw [h1, h]; rfl
      have h2 := h3.symm.trans h
      rw [e]
      obtain ⟨x, y, z, rfl, rfl, hz0, hx, hy, _⟩ := askB_yes h
      obtain ⟨k, rfl, hk⟩ : ∃ k : Nat, o = k ∧ k < 3 := by simp [inB] at h1; exact ⟨o.toNat, by omega, by omega⟩
      simp only [Int.toNat_natCast]
      clear e h h3 hz0
      have h4 : k = 0 ∨ k = 1 ∨ k = 2 := by omega
      rcases h4 with rfl | rfl | rfl
      · have rV : bits .and .i64 (x : Int) (y : Int) = (Nat.land x y : Nat) := bAnd x y (by omega) (by omega)
        have hV : Nat.land x y < 256 := Nat.and_lt_two_pow (n := 8) _ hy
        have hz := szpN_lt _ hV
        have E : bits .or .i64 ((szpN (Nat.land x y) : Nat) : Int) (whenI true 16) = (logF 0 x y : Nat) := bOr _ 16 (by omega) (by omega)
        replace E : Hid _ := E
        have e1 : logV 0 x y = Nat.land x y := rfl
        rw [e1]
        generalize logF 0 x y = F at *
        generalize Nat.land x y = V at *
        clear e1
        go_enter Tryz.func147, Tryz.ntmps147
        go_wp2_with fail
        refine (join_impl _).mono ?_
        rintro e w1 ⟨rfl, hb1⟩
        have hL2 : ∀ o, Flags (w1.alloc o) := fun o => flags_below hL (hb1.alloc hb1.size o)
        go_wp2_with (first | (go_at_call 32; refine (bytes_impl _ _ _).mono ?_; rintro e w' ⟨rfl, rfl⟩; rw [h2]) | (go_at_call 33; refine (withinU_impl _ _ _ _).mono ?_; rintro e w' ⟨rfl, rfl⟩; rw [show inB 0 0 2 = true by decide]) | (go_at_call 128; refine (pf_impl _ _ hV (hL2 _)).mono ?_; rintro e w' ⟨rfl, rfl⟩) | (go_at_call 129; refine (when_impl _ _ _).mono ?_; rintro e w' ⟨rfl, rfl⟩) | go_in)
        rw [E.out]
        go_ret3
        exact ⟨rfl, hb1.alloc hb1.size _⟩
      · have rV : bits .xor .i64 (x : Int) (y : Int) = (Nat.xor x y : Nat) := bXor x y (by omega) (by omega)
        have hV : Nat.xor x y < 256 := Nat.xor_lt_two_pow (n := 8) hx hy
        have hz := szpN_lt _ hV
        have E : bits .or .i64 ((szpN (Nat.xor x y) : Nat) : Int) (whenI false 16) = (logF 1 x y : Nat) := (bOr _ 0 (by omega) (by decide)).trans (congrArg _ (Nat.or_zero _))
        replace E : Hid _ := E
        have e1 : logV 1 x y = Nat.xor x y := rfl
        rw [e1]
        generalize logF 1 x y = F at *
        generalize Nat.xor x y = V at *
        clear e1
        go_enter Tryz.func147, Tryz.ntmps147
        go_wp2_with fail
        refine (join_impl _).mono ?_
        rintro e w1 ⟨rfl, hb1⟩
        have hL2 : ∀ o, Flags (w1.alloc o) := fun o => flags_below hL (hb1.alloc hb1.size o)
        go_wp2_with (first | (go_at_call 32; refine (bytes_impl _ _ _).mono ?_; rintro e w' ⟨rfl, rfl⟩; rw [h2]) | (go_at_call 33; refine (withinU_impl _ _ _ _).mono ?_; rintro e w' ⟨rfl, rfl⟩; rw [show inB 1 0 2 = true by decide]) | (go_at_call 128; refine (pf_impl _ _ hV (hL2 _)).mono ?_; rintro e w' ⟨rfl, rfl⟩) | (go_at_call 129; refine (when_impl _ _ _).mono ?_; rintro e w' ⟨rfl, rfl⟩) | go_in)
        rw [E.out]
        go_ret3
        exact ⟨rfl, hb1.alloc hb1.size _⟩
      · have rV : bits .or .i64 (x : Int) (y : Int) = (Nat.lor x y : Nat) := bOr x y (by omega) (by omega)
        have hV : Nat.lor x y < 256 := Nat.or_lt_two_pow (n := 8) hx hy
        have hz := szpN_lt _ hV
        have E : bits .or .i64 ((szpN (Nat.lor x y) : Nat) : Int) (whenI false 16) = (logF 2 x y : Nat) := (bOr _ 0 (by omega) (by decide)).trans (congrArg _ (Nat.or_zero _))
        replace E : Hid _ := E
        have e1 : logV 2 x y = Nat.lor x y := rfl
        rw [e1]
        generalize logF 2 x y = F at *
        generalize Nat.lor x y = V at *
        clear e1
        go_enter Tryz.func147, Tryz.ntmps147
        go_wp2_with fail
        refine (join_impl _).mono ?_
        rintro e w1 ⟨rfl, hb1⟩
        have hL2 : ∀ o, Flags (w1.alloc o) := fun o => flags_below hL (hb1.alloc hb1.size o)
        go_wp2_with (first | (go_at_call 32; refine (bytes_impl _ _ _).mono ?_; rintro e w' ⟨rfl, rfl⟩; rw [h2]) | (go_at_call 33; refine (withinU_impl _ _ _ _).mono ?_; rintro e w' ⟨rfl, rfl⟩; rw [show inB 2 0 2 = true by decide]) | (go_at_call 128; refine (pf_impl _ _ hV (hL2 _)).mono ?_; rintro e w' ⟨rfl, rfl⟩) | (go_at_call 129; refine (when_impl _ _ _).mono ?_; rintro e w' ⟨rfl, rfl⟩) | go_in)
        rw [E.out]
        go_ret3
        exact ⟨rfl, hb1.alloc hb1.size _⟩
end Go.Proofs.YtgpmpfikeindfaaGreatDoor
