/- Runs expanded: the specification. -/
import Derived.Test.YthobggihlbcnmaaLc
namespace Go.Proofs.Ythobggihlbcnmaa
open Go.ChangeShapes Go.WideShapes Go.ChangeAt Go.RowKit
set_option linter.unusedVariables false
set_option linter.unusedSimpArgs false

theorem drop_head {t : ByteArray} {k : Nat} (h : k < t.size) : ((bts t).drop k).head? = some (byt t k) := by rw [bts_drop t h]; rfl
theorem drop_head_no {t : ByteArray} {k : Nat} (h : ¬ k < t.size) : ((bts t).drop k).head? = none := by rw [List.drop_eq_nil_of_le (by rw [bts_len]; omega)]; rfl
theorem expT_run {t : ByteArray} {n i : Nat} {A : List Int} (h : i + 3 < t.size) (h0 : byt t i = 237) (h1 : byt t (i + 1) = 237) :
    expE n ((bts t).drop i) A = if n < A.length + (byt t (i + 2)).toNat then ([], 8) else expE n ((bts t).drop (i + 4)) (A ++ List.replicate (byt t (i + 2)).toNat (byt t (i + 3))) := by
  rw [bts_drop t (show i < t.size by omega), bts_drop t (show i + 1 < t.size by omega), bts_drop t (show i + 1 + 1 < t.size by omega), bts_drop t (show i + 1 + 1 + 1 < t.size by omega), h0, h1, expE_run]
theorem expT_cut {t : ByteArray} {n i : Nat} {A : List Int} (h : i + 1 < t.size) (h3 : ¬ i + 3 < t.size) (h0 : byt t i = 237) (h1 : byt t (i + 1) = 237) : expE n ((bts t).drop i) A = ([], 9) := by
  rw [bts_drop t (show i < t.size by omega), bts_drop t h, h0, h1]
  exact expE_cut n _ A (by rw [List.length_drop, bts_len]; omega)
theorem expT_one {t : ByteArray} {n i : Nat} {A : List Int} (h : i < t.size) (hn : ¬ (i + 1 < t.size ∧ byt t i = 237 ∧ byt t (i + 1) = 237)) :
    expE n ((bts t).drop i) A = if n < A.length + 1 then ([], 8) else expE n ((bts t).drop (i + 1)) (A ++ [byt t i]) := by
  rw [bts_drop t h]
  refine expE_cons n _ _ A (fun hh => hn ?_)
  by_cases h1 : i + 1 < t.size
  · rw [drop_head h1] at hh
    exact ⟨h1, hh.1, Option.some.inj hh.2⟩
  · rw [drop_head_no h1] at hh
    cases hh.2
theorem expT_end {t : ByteArray} {n : Nat} {A : List Int} : expE n ((bts t).drop t.size) A = if A.length = n then (A, 0) else ([], 8) := by
  rw [List.drop_eq_nil_of_le (by rw [bts_len]; exact Nat.le_refl _)]
  rfl
abbrev exS (r : List Int × Int) : Value := .tuple #[.string (strOfNums r.1), .int .i64 r.2]
theorem exS_no (c : Int) : exS ([], c) = .tuple #[.string ⟨#[]⟩, .int .i64 c] := rfl
end Go.Proofs.Ythobggihlbcnmaa
