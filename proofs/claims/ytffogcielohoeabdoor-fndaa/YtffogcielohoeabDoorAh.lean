/- What the specification's unit answers as it is asked: the codes, and the plain functions of natural numbers where it reckons. -/
import Derived.Test.YtffogcielohoeabDoorAg
namespace Go.Proofs.YtffogcielohoeabDoor
open Go.ChangeShapes Go.WideShapes Go.ChangeAt Go.RowKit
set_option linter.unusedVariables false

theorem askB_yes {a b c : Int} (h : askB a b c = true) : ∃ x y z : Nat, a = x ∧ b = y ∧ c = z ∧ x < 256 ∧ y < 256 ∧ z < 2 := by
  simp [askB, inB] at h
  exact ⟨a.toNat, b.toNat, c.toNat, by omega, by omega, by omega, by omega, by omega, by omega⟩
def no3 : Value := .tuple #[.int .i64 0, .int .i64 0, .int .i64 4]
def no2 : Value := .tuple #[.int .i64 0, .int .i64 4]

def add8V (a b c : Int) : Value := if askB a b c then .tuple #[.int .i64 (addV a.toNat b.toNat c.toNat), .int .i64 (addF a.toNat b.toNat c.toNat), .int .i64 0] else no3

def sub8V (a b c : Int) : Value := if askB a b c then .tuple #[.int .i64 (subV a.toNat b.toNat c.toNat), .int .i64 (subF a.toNat b.toNat c.toNat), .int .i64 0] else no3

def inc8V (a f : Int) : Value := if askB a f 0 then .tuple #[.int .i64 (incV a.toNat), .int .i64 (incF a.toNat f.toNat), .int .i64 0] else no3

def dec8V (a f : Int) : Value := if askB a f 0 then .tuple #[.int .i64 (decV a.toNat), .int .i64 (decF a.toNat f.toNat), .int .i64 0] else no3

def daa8V (a f : Int) : Value := if askB a f 0 then .tuple #[.int .i64 (daaV a.toNat f.toNat), .int .i64 (daaF a.toNat f.toNat), .int .i64 0] else no3
theorem daa8_spec (a f : Int) (w : World) : Calls Tryd.prog 8 #[.int .i64 a, .int .i64 f] w fun e w' => e = .returned (daa8V a f) ∧ w' = w := by
  cases h : askB a f 0
  · have e : daa8V a f = no3 := by unfold daa8V; rw [h]; rfl
    rw [e]
    go_enter Tryd.func8, Tryd.ntmps8
    go_wp2_with (first | (go_at_call 16; refine (ask_spec _ _ _ _).mono ?_; rintro e w' ⟨rfl, rfl⟩))
    go_ret3
    exact ⟨rfl, rfl⟩
  · have e : daa8V a f = .tuple #[.int .i64 (daaV a.toNat f.toNat), .int .i64 (daaF a.toNat f.toNat), .int .i64 0] := by unfold daa8V; rw [h]; rfl
    rw [e]
    obtain ⟨x, y, z, rfl, rfl, h0, hx, hy, hz⟩ := askB_yes h
    simp only [Int.toNat_natCast]
    clear e h0 hz
    go_enter Tryd.func8, Tryd.ntmps8
    go_wp2_with (first | (go_at_call 16; refine (ask_spec _ _ _ _).mono ?_; rintro e w' ⟨rfl, rfl⟩) | (go_at_call 17; refine (daa_spec _ _ _ hx hy).mono ?_; rintro e w' ⟨rfl, rfl⟩))
    go_ret3
    exact ⟨rfl, rfl⟩

def logic8V (o a f : Int) : Value := if inB o 0 2 && askB a f 0 then .tuple #[.int .i64 (logV o.toNat a.toNat f.toNat), .int .i64 (logF o.toNat a.toNat f.toNat), .int .i64 0] else no3

def turn8V (o a f : Int) : Value := if inB o 0 7 && askB a f 0 then .tuple #[.int .i64 (turnW o.toNat a.toNat f.toNat), .int .i64 (turnG o.toNat a.toNat f.toNat), .int .i64 0] else no3

def test8V (o a f : Int) : Value := if inB o 0 7 && askB a f 0 then .tuple #[.int .i64 (tstF o.toNat a.toNat f.toNat), .int .i64 0] else no2
end Go.Proofs.YtffogcielohoeabDoor
