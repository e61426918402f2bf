/- The specification's machine, as it lies in a world while an instruction is done. -/
import Derived.Test.YtghcagibdcblnaaCak
import Derived.Test.YtghcagibdcblnaaMwk
import Derived.Test.YtghcagibdcblnaaK06
import Derived.Deep.AppendLies
import Derived.OwnWalk
namespace Go.Proofs.Ytghcagibdcblnaa
open Go.ChangeShapes Go.WideShapes Go.ChangeAt Go.RowKit
set_option linter.unusedVariables false
set_option linter.unusedSimpArgs false

abbrev macA (c : Cp) (vr vm : Value) (p s : Int) (l : Bool) (cv : Value) (n : Nat) : Array Value :=
  #[.int .i64 (c.b : Int), .int .i64 (c.c : Int), .int .i64 (c.d : Int), .int .i64 (c.e : Int), .int .i64 (c.h : Int), .int .i64 (c.l : Int), .int .i64 0, .int .i64 (c.a : Int), .int .i64 (c.f : Int), .int .i64 (c.sp : Int), .int .i64 (c.pc : Int), .bool c.iff, .bool c.ei, .bool c.halt,
    vr, vm, .int .i64 p, .int .i64 s, .bool l, cv, .int .i64 (n : Int)]
def cyV (l : List (Nat × Nat × Nat)) : List Value := l.flatMap fun x => [.int .i64 (x.1 : Int), .int .i64 (x.2.1 : Int), .int .i64 (x.2.2 : Int)]
theorem cyV_snoc (l : List (Nat × Nat × Nat)) (k a v : Nat) : cyV (l ++ [(k, a, v)]) = cyV l ++ [.int .i64 (k : Int), .int .i64 (a : Int), .int .i64 (v : Int)] := by simp [cyV]
theorem cyV_len (l : List (Nat × Nat × Nat)) : (cyV l).length = l.length * 3 := by
  induction l with
  | nil => rfl
  | cons x t ih => simp [cyV, List.flatMap_cons] at ih ⊢; omega
/-- the blocks that the machine writes into -/
def vl (k : List (Nat × Array Value)) (X : Nat) (cv : Value) : Nat → Bool := fun b => b == X || cv.ownBlock == some b || k.any (fun p => p.1 == b)
theorem vl_X (k : List (Nat × Array Value)) (X : Nat) (cv : Value) : vl k X cv X = true := by simp [vl]
theorem vl_own {k : List (Nat × Array Value)} {X g : Nat} {cv : Value} (h : cv.ownBlock = some g) : vl k X cv g = true := by simp [vl, h]
theorem vl_in {k : List (Nat × Array Value)} {X b : Nat} {cv : Value} {A : Array Value} (h : (b, A) ∈ k) : vl k X cv b = true := by
  have : k.any (fun p => p.1 == b) = true := List.any_eq_true.2 ⟨_, h, by simp⟩
  simp [vl, this]
theorem vl_no {k : List (Nat × Array Value)} {X b : Nat} {cv : Value} (h1 : b ≠ X) (h2 : cv.ownBlock ≠ some b) (h3 : ∀ A, (b, A) ∉ k) : vl k X cv b = false := by
  have : k.any (fun p => p.1 == b) = false := by
    rw [List.any_eq_false]
    intro p hp e
    have e2 : p.1 = b := by simpa using e
    exact h3 p.2 (by rw [← e2]; exact hp)
  simp [vl, h1, h2, this]
theorem vl_cases {k : List (Nat × Array Value)} {X b : Nat} {cv : Value} (h : vl k X cv b = true) : b = X ∨ cv.ownBlock = some b ∨ ∃ A, (b, A) ∈ k := by
  unfold vl at h
  simp only [Bool.or_eq_true, beq_iff_eq] at h
  rcases h with (h | h) | h
  · exact .inl h
  · exact .inr (.inl h)
  · obtain ⟨p, hp, e⟩ := List.any_eq_true.1 h
    have e2 : p.1 = b := by simpa using e
    exact .inr (.inr ⟨p.2, by rw [← e2]; exact hp⟩)
/-- the world at first, and blocks that must stay as they are -/
structure Bs extends World where
  k : List (Nat × Array Value)
end Go.Proofs.Ytghcagibdcblnaa

/- What the machine's own calls do: note, read, write, push, pop. -/
namespace Go.Proofs.Ytghcagibdcblnaa
open Go.ChangeShapes Go.WideShapes Go.ChangeAt Go.RowKit
set_option linter.unusedVariables false
set_option linter.unusedSimpArgs false

end Go.Proofs.Ytghcagibdcblnaa

/- What the machine's own calls do: read, write, push, pop, get, set. -/
namespace Go.Proofs.Ytghcagibdcblnaa
open Go.ChangeShapes Go.WideShapes Go.ChangeAt Go.RowKit
set_option linter.unusedVariables false
set_option linter.unusedSimpArgs false

theorem peek_byte {M : Mem} (hk : okM M = true) {a : Nat} (ha : a < 256) : peekI M (a : Int) = (peekN M a : Int) ∧ peekN M a < 256 := by
  obtain ⟨hp1, hp2, hp3, _, hp5⟩ := ok_parts hk
  have hb : 0 ≤ peekI M (a : Int) ∧ peekI M (a : Int) ≤ 255 := by
    unfold peekI
    split
    · have h := bytes_at hp1 (i := ((a : Int)).toNat) (by rw [bytes_len hp1]; omega)
      simpa [inB] using h
    · have hbb := bank_bd hp3 (a := (a : Int)) (by omega)
      have h := bytes_at (hp5 (bankI M.page (a : Int)).toNat (by omega)) (i := ((a : Int) % 64).toNat) (by rw [bytes_len (hp5 (bankI M.page (a : Int)).toNat (by omega))]; omega)
      simpa [inB] using h
  unfold peekN
  omega
theorem and255 (s : Nat) (h : s < 600) : bits .and .i64 (s : Int) 255 = ((s % 256 : Nat) : Int) := by
  rw [show (255 : Int) = ((255 : Nat) : Int) from rfl, bAnd s 255 (by omega) (by omega)]
  exact congrArg _ (Nat.and_two_pow_sub_one_eq_mod s 8)
theorem and255m (s : Nat) (h : s < 256) : bits .and .i64 ((s : Int) - 1) 255 = (((s + 255) % 256 : Nat) : Int) := by
  by_cases h0 : s = 0
  · subst h0
    decide
  · have e : (s : Int) - 1 = ((s - 1 : Nat) : Int) := by omega
    rw [e, and255 (s - 1) (by omega)]
    have : (s - 1) % 256 = (s + 255) % 256 := by omega
    rw [this]
end Go.Proofs.Ytghcagibdcblnaa
