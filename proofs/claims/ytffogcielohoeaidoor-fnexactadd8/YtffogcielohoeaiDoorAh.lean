/- What the specification's unit answers as it is asked: the codes, and the plain functions of natural numbers where it reckons. -/
import Derived.Test.YtffogcielohoeaiDoorAg
namespace Go.Proofs.YtffogcielohoeaiDoor
open Go.ChangeShapes Go.WideShapes Go.ChangeAt Go.RowKit
set_option linter.unusedVariables false

theorem askB_yes {a b c : Int} (h : askB a b c = true) : ∃ x y z : Nat, a = x ∧ b = y ∧ c = z ∧ x < 256 ∧ y < 256 ∧ z < 2 := by
  simp [askB, inB] at h
  exact ⟨a.toNat, b.toNat, c.toNat, by omega, by omega, by omega, by omega, by omega, by omega⟩
def no3 : Value := .tuple #[.int .i64 0, .int .i64 0, .int .i64 4]
def no2 : Value := .tuple #[.int .i64 0, .int .i64 4]

def add8V (a b c : Int) : Value := if askB a b c then .tuple #[.int .i64 (addV a.toNat b.toNat c.toNat), .int .i64 (addF a.toNat b.toNat c.toNat), .int .i64 0] else no3
theorem add8_spec (a b c : Int) (w : World) : Calls Tryd.prog 8 #[.int .i64 a, .int .i64 b, .int .i64 c] w fun e w' => e = .returned (add8V a b c) ∧ w' = w := by
  cases h : askB a b c
  · have e : add8V a b c = no3 := by unfold add8V; rw [h]; rfl
    rw [e]
    go_enter Tryd.func8, Tryd.ntmps8
    go_wp2_with (first | (go_at_call 18; refine (ask_spec _ _ _ _).mono ?_; rintro e w' ⟨rfl, rfl⟩))
    go_ret3
    exact ⟨rfl, rfl⟩
  · have e : add8V a b c = .tuple #[.int .i64 (addV a.toNat b.toNat c.toNat), .int .i64 (addF a.toNat b.toNat c.toNat), .int .i64 0] := by unfold add8V; rw [h]; rfl
    rw [e]
    obtain ⟨x, y, z, rfl, rfl, rfl, hx, hy, hz⟩ := askB_yes h
    simp only [Int.toNat_natCast]
    clear e
    go_enter Tryd.func8, Tryd.ntmps8
    go_wp2_with (first | (go_at_call 18; refine (ask_spec _ _ _ _).mono ?_; rintro e w' ⟨rfl, rfl⟩) | (go_at_call 19; refine (add_spec _ _ _ _ hx hy hz).mono ?_; rintro e w' ⟨rfl, rfl⟩))
    go_ret3
    exact ⟨rfl, rfl⟩

def sub8V (a b c : Int) : Value := if askB a b c then .tuple #[.int .i64 (subV a.toNat b.toNat c.toNat), .int .i64 (subF a.toNat b.toNat c.toNat), .int .i64 0] else no3
theorem sub8_spec (a b c : Int) (w : World) : Calls Tryd.prog 10 #[.int .i64 a, .int .i64 b, .int .i64 c] w fun e w' => e = .returned (sub8V a b c) ∧ w' = w := by
  cases h : askB a b c
  · have e : sub8V a b c = no3 := by unfold sub8V; rw [h]; rfl
    rw [e]
    go_enter Tryd.func10, Tryd.ntmps10
    go_wp2_with (first | (go_at_call 18; refine (ask_spec _ _ _ _).mono ?_; rintro e w' ⟨rfl, rfl⟩))
    go_ret3
    exact ⟨rfl, rfl⟩
  · have e : sub8V a b c = .tuple #[.int .i64 (subV a.toNat b.toNat c.toNat), .int .i64 (subF a.toNat b.toNat c.toNat), .int .i64 0] := by unfold sub8V; rw [h]; rfl
    rw [e]
    obtain ⟨x, y, z, rfl, rfl, rfl, hx, hy, hz⟩ := askB_yes h
    simp only [Int.toNat_natCast]
    clear e
    go_enter Tryd.func10, Tryd.ntmps10
    go_wp2_with (first | (go_at_call 18; refine (ask_spec _ _ _ _).mono ?_; rintro e w' ⟨rfl, rfl⟩) | (go_at_call 24; refine (sub_spec _ _ _ _ hx hy hz).mono ?_; rintro e w' ⟨rfl, rfl⟩))
    go_ret3
    exact ⟨rfl, rfl⟩

def inc8V (a f : Int) : Value := if askB a f 0 then .tuple #[.int .i64 (incV a.toNat), .int .i64 (incF a.toNat f.toNat), .int .i64 0] else no3
theorem inc8_spec (a f : Int) (w : World) : Calls Tryd.prog 14 #[.int .i64 a, .int .i64 f] w fun e w' => e = .returned (inc8V a f) ∧ w' = w := by
  cases h : askB a f 0
  · have e : inc8V a f = no3 := by unfold inc8V; rw [h]; rfl
    rw [e]
    go_enter Tryd.func14, Tryd.ntmps14
    go_wp2_with (first | (go_at_call 18; refine (ask_spec _ _ _ _).mono ?_; rintro e w' ⟨rfl, rfl⟩))
    go_ret3
    exact ⟨rfl, rfl⟩
  · have e : inc8V a f = .tuple #[.int .i64 (incV a.toNat), .int .i64 (incF a.toNat f.toNat), .int .i64 0] := by unfold inc8V; rw [h]; rfl
    rw [e]
    obtain ⟨x, y, z, rfl, rfl, h0, hx, hy, hz⟩ := askB_yes h
    simp only [Int.toNat_natCast]
    clear e h0 hz
    go_enter Tryd.func14, Tryd.ntmps14
    go_wp2_with (first | (go_at_call 18; refine (ask_spec _ _ _ _).mono ?_; rintro e w' ⟨rfl, rfl⟩) | (go_at_call 31; refine (inc_spec _ _ _ hx hy).mono ?_; rintro e w' ⟨rfl, rfl⟩))
    go_ret3
    exact ⟨rfl, rfl⟩

def dec8V (a f : Int) : Value := if askB a f 0 then .tuple #[.int .i64 (decV a.toNat), .int .i64 (decF a.toNat f.toNat), .int .i64 0] else no3
theorem dec8_spec (a f : Int) (w : World) : Calls Tryd.prog 16 #[.int .i64 a, .int .i64 f] w fun e w' => e = .returned (dec8V a f) ∧ w' = w := by
  cases h : askB a f 0
  · have e : dec8V a f = no3 := by unfold dec8V; rw [h]; rfl
    rw [e]
    go_enter Tryd.func16, Tryd.ntmps16
    go_wp2_with (first | (go_at_call 18; refine (ask_spec _ _ _ _).mono ?_; rintro e w' ⟨rfl, rfl⟩))
    go_ret3
    exact ⟨rfl, rfl⟩
  · have e : dec8V a f = .tuple #[.int .i64 (decV a.toNat), .int .i64 (decF a.toNat f.toNat), .int .i64 0] := by unfold dec8V; rw [h]; rfl
    rw [e]
    obtain ⟨x, y, z, rfl, rfl, h0, hx, hy, hz⟩ := askB_yes h
    simp only [Int.toNat_natCast]
    clear e h0 hz
    go_enter Tryd.func16, Tryd.ntmps16
    go_wp2_with (first | (go_at_call 18; refine (ask_spec _ _ _ _).mono ?_; rintro e w' ⟨rfl, rfl⟩) | (go_at_call 33; refine (dec_spec _ _ _ hx hy).mono ?_; rintro e w' ⟨rfl, rfl⟩))
    go_ret3
    exact ⟨rfl, rfl⟩

def daa8V (a f : Int) : Value := if askB a f 0 then .tuple #[.int .i64 (daaV a.toNat f.toNat), .int .i64 (daaF a.toNat f.toNat), .int .i64 0] else no3

def logic8V (o a f : Int) : Value := if inB o 0 2 && askB a f 0 then .tuple #[.int .i64 (logV o.toNat a.toNat f.toNat), .int .i64 (logF o.toNat a.toNat f.toNat), .int .i64 0] else no3
theorem logic8_spec (o a f : Int) (w : World) : Calls Tryd.prog 12 #[.int .i64 o, .int .i64 a, .int .i64 f] w fun e w' => e = .returned (logic8V o a f) ∧ w' = w := by
  cases h1 : inB o 0 2
  · have e : logic8V o a f = no3 := by unfold logic8V; rw [h1]; rfl
    rw [e]
    go_enter Tryd.func12, Tryd.ntmps12
    go_wp2_with (first | (go_at_call 18; refine (ask_spec _ _ _ _).mono ?_; rintro e w' ⟨rfl, rfl⟩) | (go_at_call 26; refine (in_spec _ _ _ _).mono ?_; rintro e w' ⟨rfl, rfl⟩))
    go_ret3
    exact ⟨rfl, rfl⟩
  · cases h : askB a f 0
    · have e : logic8V o a f = no3 := by unfold logic8V; rw [h1, h]; rfl
      rw [e]
      go_enter Tryd.func12, Tryd.ntmps12
      go_wp2_with (first | (go_at_call 18; refine (ask_spec _ _ _ _).mono ?_; rintro e w' ⟨rfl, rfl⟩) | (go_at_call 26; refine (in_spec _ _ _ _).mono ?_; rintro e w' ⟨rfl, rfl⟩))
      go_ret3
      exact ⟨rfl, rfl⟩
    · have e : logic8V o a f = .tuple #[.int .i64 (logV o.toNat a.toNat f.toNat), .int .i64 (logF o.toNat a.toNat f.toNat), .int .i64 0] := by unfold logic8V; rw [h1, h]; rfl
      rw [e]
      obtain ⟨x, y, z, rfl, rfl, h0, hx, hy, hz⟩ := askB_yes h
      have h2 : 0 ≤ o ∧ o ≤ 2 := by simpa [inB] using h1
      obtain ⟨u, rfl⟩ : ∃ u : Nat, o = (u : Int) := ⟨o.toNat, by omega⟩
      have hu : u < 3 := by omega
      simp only [Int.toNat_natCast]
      clear e h0 hz h2
      go_enter Tryd.func12, Tryd.ntmps12
      go_wp2_with (first | (go_at_call 18; refine (ask_spec _ _ _ _).mono ?_; rintro e w' ⟨rfl, rfl⟩) | (go_at_call 26; refine (in_spec _ _ _ _).mono ?_; rintro e w' ⟨rfl, rfl⟩) | (go_at_call 27; refine (logic_spec _ _ _ _ hu hx hy).mono ?_; rintro e w' ⟨rfl, rfl⟩))
      go_ret3
      exact ⟨rfl, rfl⟩

def turn8V (o a f : Int) : Value := if inB o 0 7 && askB a f 0 then .tuple #[.int .i64 (turnW o.toNat a.toNat f.toNat), .int .i64 (turnG o.toNat a.toNat f.toNat), .int .i64 0] else no3

def test8V (o a f : Int) : Value := if inB o 0 7 && askB a f 0 then .tuple #[.int .i64 (tstF o.toNat a.toNat f.toNat), .int .i64 0] else no2
end Go.Proofs.YtffogcielohoeaiDoor
