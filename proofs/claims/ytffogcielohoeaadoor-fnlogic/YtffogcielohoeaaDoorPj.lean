/- What the program's Logic8 answers as it is asked: what the specification's answers; its table of functions is new memory. -/
import Derived.Test.YtffogcielohoeaaDoorPt
import Derived.Laws.EntriesVeiled
namespace Go.Proofs.YtffogcielohoeaaDoor
open Go.ChangeShapes Go.WideShapes Go.ChangeAt Go.RowKit
set_option linter.unusedVariables false

theorem join_impl (w : World) : Calls Tryd.prog 40 #[] w fun e w' => e = .returned (.agg #[.func (.func 60) #[] #[], .func (.func 61) #[] #[], .func (.func 62) #[] #[]]) ∧ Below w.heap.size w w' := by
  go_enter Tryd.func40, Tryd.ntmps40
  go_wp2
  exact bodyPost_ret (v := .agg #[.func (.func 60) #[] #[], .func (.func 61) #[] #[], .func (.func 62) #[] #[]]) (by simp [results, Tryd.results40, go_sem]) rfl ⟨rfl, (Below.refl _ _).alloc (Nat.le_refl _) _⟩
theorem logic8_impl (o a f : Int) (w : World) (hL : Flags w) : Calls Tryd.prog 18 #[.int .i64 o, .int .i64 a, .int .i64 f] w fun e w' => e = .returned (logic8V o a f) ∧ Below w.heap.size w w' := by
  have h3 := askB0 a f
  cases h1 : inB o 0 2
  · have e : logic8V o a f = no3 := by unfold logic8V; rw [h1]; rfl
    rw [e]
    clear e h3
    go_enter Tryd.func18, Tryd.ntmps18
    go_wp2_with fail
    refine (join_impl _).mono ?_
    rintro e w1 ⟨rfl, hb1⟩
    go_wp2_with (first | (go_at_call 32; refine (bytes_impl _ _ _).mono ?_; rintro e w' ⟨rfl, rfl⟩) | (go_at_call 33; refine (within_impl _ _ _ _).mono ?_; rintro e w' ⟨rfl, rfl⟩; rw [h1]))
    go_ret3
    exact ⟨rfl, hb1.alloc hb1.size _⟩
  · cases h : askB a f 0
    · have e : logic8V o a f = no3 := by unfold logic8V; rw [h1, h]; rfl
      have h2 := h3.symm.trans h
      rw [e]
      clear e h3 h
      go_enter Tryd.func18, Tryd.ntmps18
      go_wp2_with fail
      refine (join_impl _).mono ?_
      rintro e w1 ⟨rfl, hb1⟩
      go_wp2_with (first | (go_at_call 32; refine (bytes_impl _ _ _).mono ?_; rintro e w' ⟨rfl, rfl⟩; rw [h2]) | (go_at_call 33; refine (within_impl _ _ _ _).mono ?_; rintro e w' ⟨rfl, rfl⟩; rw [h1]))
      go_ret3
      exact ⟨rfl, hb1.alloc hb1.size _⟩
    · have e : logic8V o a f = .tuple #[.int .i64 (logV o.toNat a.toNat f.toNat), .int .i64 (logF o.toNat a.toNat f.toNat), .int .i64 0] := by unfold logic8V; rw [h1, h]; rfl
      have h2 := h3.symm.trans h
      rw [e]
      obtain ⟨x, y, z, rfl, rfl, hz0, hx, hy, _⟩ := askB_yes h
      obtain ⟨k, rfl, hk⟩ : ∃ k : Nat, o = k ∧ k < 3 := by simp [inB] at h1; exact ⟨o.toNat, by omega, by omega⟩
      simp only [Int.toNat_natCast]
      clear e h h3 hz0
      have h4 : k = 0 ∨ k = 1 ∨ k = 2 := by omega
      rcases h4 with rfl | rfl | rfl
      · have rV : bits .and .i64 (x : Int) (y : Int) = (Nat.land x y : Nat) := bAnd x y (by omega) (by omega)
        have hV : Nat.land x y < 256 := Nat.and_lt_two_pow (n := 8) _ hy
        have hz := szpN_lt _ hV
        have E : bits .or .i64 ((szpN (Nat.land x y) : Nat) : Int) (whenI true 16) = (logF 0 x y : Nat) := bOr _ 16 (by omega) (by omega)
        replace E : Hid _ := E
        have e1 : logV 0 x y = Nat.land x y := rfl
        rw [e1]
        generalize logF 0 x y = F at *
        generalize Nat.land x y = V at *
        clear e1
        go_enter Tryd.func18, Tryd.ntmps18
        go_wp2_with fail
        refine (join_impl _).mono ?_
        rintro e w1 ⟨rfl, hb1⟩
        have hL2 : ∀ o, Flags (w1.alloc o) := fun o => flags_below hL (hb1.alloc hb1.size o)
        go_wp2_with (first | (go_at_call 32; refine (bytes_impl _ _ _).mono ?_; rintro e w' ⟨rfl, rfl⟩; rw [h2]) | (go_at_call 33; refine (within_impl _ _ _ _).mono ?_; rintro e w' ⟨rfl, rfl⟩; rw [show inB 0 0 2 = true by decide]) | (go_at_call 41; refine (pf_impl _ _ hV (hL2 _)).mono ?_; rintro e w' ⟨rfl, rfl⟩) | (go_at_call 42; refine (when_impl _ _ _).mono ?_; rintro e w' ⟨rfl, rfl⟩) | go_in)
        rw [E.out]
        go_ret3
        exact ⟨rfl, hb1.alloc hb1.size _⟩
      · have rV : bits .xor .i64 (x : Int) (y : Int) = (Nat.xor x y : Nat) := bXor x y (by omega) (by omega)
        have hV : Nat.xor x y < 256 := Nat.xor_lt_two_pow (n := 8) hx hy
        have hz := szpN_lt _ hV
        have E : bits .or .i64 ((szpN (Nat.xor x y) : Nat) : Int) (whenI false 16) = (logF 1 x y : Nat) := (bOr _ 0 (by omega) (by decide)).trans (congrArg _ (Nat.or_zero _))
        replace E : Hid _ := E
        have e1 : logV 1 x y = Nat.xor x y := rfl
        rw [e1]
        generalize logF 1 x y = F at *
        generalize Nat.xor x y = V at *
        clear e1
        go_enter Tryd.func18, Tryd.ntmps18
        go_wp2_with fail
        refine (join_impl _).mono ?_
        rintro e w1 ⟨rfl, hb1⟩
        have hL2 : ∀ o, Flags (w1.alloc o) := fun o => flags_below hL (hb1.alloc hb1.size o)
        go_wp2_with (first | (go_at_call 32; refine (bytes_impl _ _ _).mono ?_; rintro e w' ⟨rfl, rfl⟩; rw [h2]) | (go_at_call 33; refine (within_impl _ _ _ _).mono ?_; rintro e w' ⟨rfl, rfl⟩; rw [show inB 1 0 2 = true by decide]) | (go_at_call 41; refine (pf_impl _ _ hV (hL2 _)).mono ?_; rintro e w' ⟨rfl, rfl⟩) | (go_at_call 42; refine (when_impl _ _ _).mono ?_; rintro e w' ⟨rfl, rfl⟩) | go_in)
        rw [E.out]
        go_ret3
        exact ⟨rfl, hb1.alloc hb1.size _⟩
      · have rV : bits .or .i64 (x : Int) (y : Int) = (Nat.lor x y : Nat) := bOr x y (by omega) (by omega)
        have hV : Nat.lor x y < 256 := Nat.or_lt_two_pow (n := 8) hx hy
        have hz := szpN_lt _ hV
        have E : bits .or .i64 ((szpN (Nat.lor x y) : Nat) : Int) (whenI false 16) = (logF 2 x y : Nat) := (bOr _ 0 (by omega) (by decide)).trans (congrArg _ (Nat.or_zero _))
        replace E : Hid _ := E
        have e1 : logV 2 x y = Nat.lor x y := rfl
        rw [e1]
        generalize logF 2 x y = F at *
        generalize Nat.lor x y = V at *
        clear e1
        go_enter Tryd.func18, Tryd.ntmps18
        go_wp2_with fail
        refine (join_impl _).mono ?_
        rintro e w1 ⟨rfl, hb1⟩
        have hL2 : ∀ o, Flags (w1.alloc o) := fun o => flags_below hL (hb1.alloc hb1.size o)
        go_wp2_with (first | (go_at_call 32; refine (bytes_impl _ _ _).mono ?_; rintro e w' ⟨rfl, rfl⟩; rw [h2]) | (go_at_call 33; refine (within_impl _ _ _ _).mono ?_; rintro e w' ⟨rfl, rfl⟩; rw [show inB 2 0 2 = true by decide]) | (go_at_call 41; refine (pf_impl _ _ hV (hL2 _)).mono ?_; rintro e w' ⟨rfl, rfl⟩) | (go_at_call 42; refine (when_impl _ _ _).mono ?_; rintro e w' ⟨rfl, rfl⟩) | go_in)
        rw [E.out]
        go_ret3
        exact ⟨rfl, hb1.alloc hb1.size _⟩
end Go.Proofs.YtffogcielohoeaaDoor
