/- What the specification says of an instruction that is right: the forms of instructions, and InstrOK. -/
import Derived.Test.YtiidkhfigifmjaaDoorBase
import Derived.Test.YtiidkhfigifmjaaDoorIn
import Derived.Test.YtiidkhfigifmjaaDoorBl
import Derived.Deep.RegionWith
import Derived.Deep.DeepCutAuto
import Derived.Deep.QuietTactic
import Derived.BigQuiet
import Derived.Deep.RegionHeld3
import Derived.Deep.RegionHeld2
namespace Go.Proofs.YtiidkhfigifmjaaDoor
open Go.ChangeShapes Go.WideShapes Go.ChangeAt Go.RowKit
set_option linter.unusedVariables false
set_option linter.unusedSimpArgs false

abbrev insV (o a b n l : Int) : Value := .agg #[.int .i64 o, .int .i64 a, .int .i64 b, .int .i64 n, .int .i64 l]
abbrev insA (o a b n l : Int) : Array Value := #[.int .i64 o, .int .i64 a, .int .i64 b, .int .i64 n, .int .i64 l]
/-- what stands in an instruction's form: A, B, N -/
def formS : List ByteArray := [⟨#[]⟩, ⟨#[65, 66]⟩, ⟨#[65, 78]⟩, ⟨#[78]⟩, ⟨#[78]⟩, ⟨#[65, 66]⟩, ⟨#[65, 78]⟩, ⟨#[65]⟩, ⟨#[65]⟩, ⟨#[65, 66]⟩, ⟨#[65, 66]⟩, ⟨#[]⟩, ⟨#[65, 78]⟩, ⟨#[65, 78]⟩, ⟨#[65]⟩, ⟨#[65]⟩, ⟨#[65]⟩, ⟨#[78]⟩, ⟨#[78]⟩, ⟨#[]⟩, ⟨#[]⟩, ⟨#[]⟩, ⟨#[]⟩]
def formT (k : Nat) : ByteArray := formS.getD k ⟨#[]⟩
def hasC (k : Nat) (c : Int) : Bool := (List.range (formT k).size).any fun i => byt (formT k) i == c
def bitI (b : Bool) : Int := if b then 1 else 0
theorem bitI_bd (b : Bool) : 0 ≤ bitI b ∧ bitI b ≤ 1 := by cases b <;> decide
theorem form_at (k : Nat) (hk : k < 23) : (formS.map Value.string)[k]'(by simpa [formS] using hk) = .string (formT k) := by
  rw [List.getElem_map]
  unfold formT
  rw [List.getD_eq_getElem?_getD, List.getElem?_eq_getElem (by simpa [formS] using hk)]
  rfl
theorem hasC_no {k j : Nat} {c : Int} (h : ∀ i, i < (formT k).size → (byt (formT k) i == c) = false) : hasC k c = false := by
  unfold hasC
  rw [List.any_eq_false]
  intro i hi
  rw [h i (List.mem_range.1 hi)]
  simp
theorem hasC_yes {k i : Nat} {c : Int} (hi : i < (formT k).size) (h : (byt (formT k) i == c) = true) : hasC k c = true := by
  unfold hasC
  rw [List.any_eq_true]
  exact ⟨i, List.mem_range.2 hi, h⟩
theorem formT_size (k : Nat) (hk : k < 23) : (formT k).size ≤ 2 := by
  have h : ∀ k, k < 23 → (formT k).size ≤ 2 := by decide +kernel
  exact h k hk
theorem belD (n : Nat) (w : World) (m : Nat) : Below n w (w.drewN m) := ⟨rfl, rfl, rfl, Nat.le_refl _, fun _ _ => rfl⟩
theorem cell_kept {W W' : World} {b i : Nat} {v : Value} (hb : Below W.heap.size W W') (h : W.cell? ⟨b, i, none⟩ = some v) : W'.cell? ⟨b, i, none⟩ = some v := by
  rw [hb.cell (p := ⟨b, i, none⟩) (World.block_lt_of_cell? W _ h)]
  exact h
/-- an instruction that is right -/
def okI (o a b n l : Int) : Bool :=
  if o = 23 then (decide (a = 0) && decide (b = 0) && inB n 184 255 && decide (l = 1))
  else inB o 0 22 && (inB a 0 (7 * bitI (hasC o.toNat 65)) && inB b 0 (7 * bitI (hasC o.toNat 66)) && inB n 0 (255 * bitI (hasC o.toNat 78)) && decide (l = 1 + bitI (hasC o.toNat 66 || hasC o.toNat 78)))
end Go.Proofs.YtiidkhfigifmjaaDoor
