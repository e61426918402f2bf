/- What the specification's unit answers as it is asked: the codes, and the plain functions of natural numbers where it reckons. -/
import Derived.Test.YtffogcielohoeaaDoorAg
namespace Go.Proofs.YtffogcielohoeaaDoor
open Go.ChangeShapes Go.WideShapes Go.ChangeAt Go.RowKit
set_option linter.unusedVariables false

theorem askB_yes {a b c : Int} (h : askB a b c = true) : ∃ x y z : Nat, a = x ∧ b = y ∧ c = z ∧ x < 256 ∧ y < 256 ∧ z < 2 := by
  simp [askB, inB] at h
  exact ⟨a.toNat, b.toNat, c.toNat, by omega, by omega, by omega, by omega, by omega, by omega⟩
def no3 : Value := .tuple #[.int .i64 0, .int .i64 0, .int .i64 4]
def no2 : Value := .tuple #[.int .i64 0, .int .i64 4]

def add8V (a b c : Int) : Value := if askB a b c then .tuple #[.int .i64 (addV a.toNat b.toNat c.toNat), .int .i64 (addF a.toNat b.toNat c.toNat), .int .i64 0] else no3
theorem add8_spec (a b c : Int) (w : World) : Calls Tryd.prog 15 #[.int .i64 a, .int .i64 b, .int .i64 c] w fun e w' => e = .returned (add8V a b c) ∧ w' = w := by
  cases h : askB a b c
  · have e : add8V a b c = no3 := by unfold add8V; rw [h]; rfl
    rw [e]
    go_enter Tryd.func15, Tryd.ntmps15
    go_wp2_with (first | (go_at_call 36; refine (ask_spec _ _ _ _).mono ?_; rintro e w' ⟨rfl, rfl⟩))
    go_ret3
    exact ⟨rfl, rfl⟩
  · have e : add8V a b c = .tuple #[.int .i64 (addV a.toNat b.toNat c.toNat), .int .i64 (addF a.toNat b.toNat c.toNat), .int .i64 0] := by unfold add8V; rw [h]; rfl
    rw [e]
    obtain ⟨x, y, z, rfl, rfl, rfl, hx, hy, hz⟩ := askB_yes h
    simp only [Int.toNat_natCast]
    clear e
    go_enter Tryd.func15, Tryd.ntmps15
    go_wp2_with (first | (go_at_call 36; refine (ask_spec _ _ _ _).mono ?_; rintro e w' ⟨rfl, rfl⟩) | (go_at_call 37; refine (add_spec _ _ _ _ hx hy hz).mono ?_; rintro e w' ⟨rfl, rfl⟩))
    go_ret3
    exact ⟨rfl, rfl⟩

def sub8V (a b c : Int) : Value := if askB a b c then .tuple #[.int .i64 (subV a.toNat b.toNat c.toNat), .int .i64 (subF a.toNat b.toNat c.toNat), .int .i64 0] else no3
theorem sub8_spec (a b c : Int) (w : World) : Calls Tryd.prog 17 #[.int .i64 a, .int .i64 b, .int .i64 c] w fun e w' => e = .returned (sub8V a b c) ∧ w' = w := by
  cases h : askB a b c
  · have e : sub8V a b c = no3 := by unfold sub8V; rw [h]; rfl
    rw [e]
    go_enter Tryd.func17, Tryd.ntmps17
    go_wp2_with (first | (go_at_call 36; refine (ask_spec _ _ _ _).mono ?_; rintro e w' ⟨rfl, rfl⟩))
    go_ret3
    exact ⟨rfl, rfl⟩
  · have e : sub8V a b c = .tuple #[.int .i64 (subV a.toNat b.toNat c.toNat), .int .i64 (subF a.toNat b.toNat c.toNat), .int .i64 0] := by unfold sub8V; rw [h]; rfl
    rw [e]
    obtain ⟨x, y, z, rfl, rfl, rfl, hx, hy, hz⟩ := askB_yes h
    simp only [Int.toNat_natCast]
    clear e
    go_enter Tryd.func17, Tryd.ntmps17
    go_wp2_with (first | (go_at_call 36; refine (ask_spec _ _ _ _).mono ?_; rintro e w' ⟨rfl, rfl⟩) | (go_at_call 39; refine (sub_spec _ _ _ _ hx hy hz).mono ?_; rintro e w' ⟨rfl, rfl⟩))
    go_ret3
    exact ⟨rfl, rfl⟩

def inc8V (a f : Int) : Value := if askB a f 0 then .tuple #[.int .i64 (incV a.toNat), .int .i64 (incF a.toNat f.toNat), .int .i64 0] else no3
theorem inc8_spec (a f : Int) (w : World) : Calls Tryd.prog 23 #[.int .i64 a, .int .i64 f] w fun e w' => e = .returned (inc8V a f) ∧ w' = w := by
  cases h : askB a f 0
  · have e : inc8V a f = no3 := by unfold inc8V; rw [h]; rfl
    rw [e]
    go_enter Tryd.func23, Tryd.ntmps23
    go_wp2_with (first | (go_at_call 36; refine (ask_spec _ _ _ _).mono ?_; rintro e w' ⟨rfl, rfl⟩))
    go_ret3
    exact ⟨rfl, rfl⟩
  · have e : inc8V a f = .tuple #[.int .i64 (incV a.toNat), .int .i64 (incF a.toNat f.toNat), .int .i64 0] := by unfold inc8V; rw [h]; rfl
    rw [e]
    obtain ⟨x, y, z, rfl, rfl, h0, hx, hy, hz⟩ := askB_yes h
    simp only [Int.toNat_natCast]
    clear e h0 hz
    go_enter Tryd.func23, Tryd.ntmps23
    go_wp2_with (first | (go_at_call 36; refine (ask_spec _ _ _ _).mono ?_; rintro e w' ⟨rfl, rfl⟩) | (go_at_call 48; refine (inc_spec _ _ _ hx hy).mono ?_; rintro e w' ⟨rfl, rfl⟩))
    go_ret3
    exact ⟨rfl, rfl⟩

def dec8V (a f : Int) : Value := if askB a f 0 then .tuple #[.int .i64 (decV a.toNat), .int .i64 (decF a.toNat f.toNat), .int .i64 0] else no3
theorem dec8_spec (a f : Int) (w : World) : Calls Tryd.prog 25 #[.int .i64 a, .int .i64 f] w fun e w' => e = .returned (dec8V a f) ∧ w' = w := by
  cases h : askB a f 0
  · have e : dec8V a f = no3 := by unfold dec8V; rw [h]; rfl
    rw [e]
    go_enter Tryd.func25, Tryd.ntmps25
    go_wp2_with (first | (go_at_call 36; refine (ask_spec _ _ _ _).mono ?_; rintro e w' ⟨rfl, rfl⟩))
    go_ret3
    exact ⟨rfl, rfl⟩
  · have e : dec8V a f = .tuple #[.int .i64 (decV a.toNat), .int .i64 (decF a.toNat f.toNat), .int .i64 0] := by unfold dec8V; rw [h]; rfl
    rw [e]
    obtain ⟨x, y, z, rfl, rfl, h0, hx, hy, hz⟩ := askB_yes h
    simp only [Int.toNat_natCast]
    clear e h0 hz
    go_enter Tryd.func25, Tryd.ntmps25
    go_wp2_with (first | (go_at_call 36; refine (ask_spec _ _ _ _).mono ?_; rintro e w' ⟨rfl, rfl⟩) | (go_at_call 49; refine (dec_spec _ _ _ hx hy).mono ?_; rintro e w' ⟨rfl, rfl⟩))
    go_ret3
    exact ⟨rfl, rfl⟩

def daa8V (a f : Int) : Value := if askB a f 0 then .tuple #[.int .i64 (daaV a.toNat f.toNat), .int .i64 (daaF a.toNat f.toNat), .int .i64 0] else no3

def logic8V (o a f : Int) : Value := if inB o 0 2 && askB a f 0 then .tuple #[.int .i64 (logV o.toNat a.toNat f.toNat), .int .i64 (logF o.toNat a.toNat f.toNat), .int .i64 0] else no3

def turn8V (o a f : Int) : Value := if inB o 0 7 && askB a f 0 then .tuple #[.int .i64 (turnW o.toNat a.toNat f.toNat), .int .i64 (turnG o.toNat a.toNat f.toNat), .int .i64 0] else no3
theorem turn8_spec (o a f : Int) (w : World) : Calls Tryd.prog 27 #[.int .i64 o, .int .i64 a, .int .i64 f] w fun e w' => e = .returned (turn8V o a f) ∧ w' = w := by
  cases h1 : inB o 0 7
  · have e : turn8V o a f = no3 := by unfold turn8V; rw [h1]; rfl
    rw [e]
    go_enter Tryd.func27, Tryd.ntmps27
    go_wp2_with (first | (go_at_call 36; refine (ask_spec _ _ _ _).mono ?_; rintro e w' ⟨rfl, rfl⟩) | (go_at_call 43; refine (in_spec _ _ _ _).mono ?_; rintro e w' ⟨rfl, rfl⟩))
    go_ret3
    exact ⟨rfl, rfl⟩
  · cases h : askB a f 0
    · have e : turn8V o a f = no3 := by unfold turn8V; rw [h1, h]; rfl
      rw [e]
      go_enter Tryd.func27, Tryd.ntmps27
      go_wp2_with (first | (go_at_call 36; refine (ask_spec _ _ _ _).mono ?_; rintro e w' ⟨rfl, rfl⟩) | (go_at_call 43; refine (in_spec _ _ _ _).mono ?_; rintro e w' ⟨rfl, rfl⟩))
      go_ret3
      exact ⟨rfl, rfl⟩
    · have e : turn8V o a f = .tuple #[.int .i64 (turnW o.toNat a.toNat f.toNat), .int .i64 (turnG o.toNat a.toNat f.toNat), .int .i64 0] := by unfold turn8V; rw [h1, h]; rfl
      rw [e]
      obtain ⟨x, y, z, rfl, rfl, h0, hx, hy, hz⟩ := askB_yes h
      have h2 : 0 ≤ o ∧ o ≤ 7 := by simpa [inB] using h1
      obtain ⟨u, rfl⟩ : ∃ u : Nat, o = (u : Int) := ⟨o.toNat, by omega⟩
      have hu : u < 8 := by omega
      simp only [Int.toNat_natCast]
      clear e h0 hz h2
      go_enter Tryd.func27, Tryd.ntmps27
      go_wp2_with (first | (go_at_call 36; refine (ask_spec _ _ _ _).mono ?_; rintro e w' ⟨rfl, rfl⟩) | (go_at_call 43; refine (in_spec _ _ _ _).mono ?_; rintro e w' ⟨rfl, rfl⟩) | (go_at_call 51; refine (turnw_spec _ _ _ _ hu hx hy).mono ?_; rintro e w' ⟨rfl, rfl⟩))
      go_ret3
      exact ⟨rfl, rfl⟩

def test8V (o a f : Int) : Value := if inB o 0 7 && askB a f 0 then .tuple #[.int .i64 (tstF o.toNat a.toNat f.toNat), .int .i64 0] else no2
theorem test8_spec (o a f : Int) (w : World) : Calls Tryd.prog 20 #[.int .i64 o, .int .i64 a, .int .i64 f] w fun e w' => e = .returned (test8V o a f) ∧ w' = w := by
  cases h1 : inB o 0 7
  · have e : test8V o a f = no2 := by unfold test8V; rw [h1]; rfl
    rw [e]
    go_enter Tryd.func20, Tryd.ntmps20
    go_wp2_with (first | (go_at_call 36; refine (ask_spec _ _ _ _).mono ?_; rintro e w' ⟨rfl, rfl⟩) | (go_at_call 43; refine (in_spec _ _ _ _).mono ?_; rintro e w' ⟨rfl, rfl⟩))
    go_ret2
    exact ⟨rfl, rfl⟩
  · cases h : askB a f 0
    · have e : test8V o a f = no2 := by unfold test8V; rw [h1, h]; rfl
      rw [e]
      go_enter Tryd.func20, Tryd.ntmps20
      go_wp2_with (first | (go_at_call 36; refine (ask_spec _ _ _ _).mono ?_; rintro e w' ⟨rfl, rfl⟩) | (go_at_call 43; refine (in_spec _ _ _ _).mono ?_; rintro e w' ⟨rfl, rfl⟩))
      go_ret2
      exact ⟨rfl, rfl⟩
    · have e : test8V o a f = .tuple #[.int .i64 (tstF o.toNat a.toNat f.toNat), .int .i64 0] := by unfold test8V; rw [h1, h]; rfl
      rw [e]
      obtain ⟨x, y, z, rfl, rfl, h0, hx, hy, hz⟩ := askB_yes h
      have h2 : 0 ≤ o ∧ o ≤ 7 := by simpa [inB] using h1
      obtain ⟨u, rfl⟩ : ∃ u : Nat, o = (u : Int) := ⟨o.toNat, by omega⟩
      have hu : u < 8 := by omega
      simp only [Int.toNat_natCast]
      clear e h0 hz h2
      go_enter Tryd.func20, Tryd.ntmps20
      go_wp2_with (first | (go_at_call 36; refine (ask_spec _ _ _ _).mono ?_; rintro e w' ⟨rfl, rfl⟩) | (go_at_call 43; refine (in_spec _ _ _ _).mono ?_; rintro e w' ⟨rfl, rfl⟩) | (go_at_call 44; refine (test_spec _ _ _ _ hu hx hy).mono ?_; rintro e w' ⟨rfl, rfl⟩))
      go_ret2
      exact ⟨rfl, rfl⟩
end Go.Proofs.YtffogcielohoeaaDoor
