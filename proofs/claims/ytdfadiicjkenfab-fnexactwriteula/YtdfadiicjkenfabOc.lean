/- The kind of a port: what the specification and the program answer. -/
import Derived.Test.YtdfadiicjkenfabOb
import Derived.Laws.EntriesVeiled
namespace Go.Proofs.Ytdfadiicjkenfab
open Go.ChangeShapes Go.WideShapes Go.ChangeAt Go.RowKit
set_option linter.unusedVariables false
set_option linter.unusedSimpArgs false

/-- the program's tests, by kind -/
def lowB (n b : Nat) : Bool := Nat.ble n 127 && Nat.beq (Nat.land n 7) b
def tstN (n : Nat) : Nat → Bool
  | 0 => Nat.beq (n % 2) 0
  | 1 => lowB n 1
  | 2 => lowB n 5
  | 3 => lowB n 7
  | 4 => lowB n 3
  | _ => true
def kindN (n : Nat) : Nat := cond (tstN n 0) 0 (cond (tstN n 1) 1 (cond (tstN n 2) 2 (cond (tstN n 3) 3 (cond (tstN n 4) 4 5))))
theorem kind_of {n k : Nat} (hk : k < 6) (h : ∀ j, j < k → tstN n j = false) (ht : tstN n k = true) : kindN n = k := by
  have h0 := h 0
  have h1 := h 1
  have h2 := h 2
  have h3 := h 3
  have h4 := h 4
  unfold kindN
  rcases (by omega : k = 0 ∨ k = 1 ∨ k = 2 ∨ k = 3 ∨ k = 4 ∨ k = 5) with rfl | rfl | rfl | rfl | rfl | rfl
  · rw [ht]; rfl
  · rw [h0 (by omega), ht]; rfl
  · rw [h0 (by omega), h1 (by omega), ht]; rfl
  · rw [h0 (by omega), h1 (by omega), h2 (by omega), ht]; rfl
  · rw [h0 (by omega), h1 (by omega), h2 (by omega), h3 (by omega), ht]; rfl
  · rw [h0 (by omega), h1 (by omega), h2 (by omega), h3 (by omega), h4 (by omega)]; rfl
def kind2 (n : Int) : Value := if inB n 0 255 = true then .tuple #[.int .i64 (kindN n.toNat : Nat), .int .i64 0] else .tuple #[.int .i64 0, .int .i64 4]
theorem inByte {k : Int} (h : inB k 0 255 = true) : ∃ n : Nat, k = n ∧ n < 256 := by
  simp [inB] at h
  exact ⟨k.toNat, by omega, by omega⟩
end Go.Proofs.Ytdfadiicjkenfab
