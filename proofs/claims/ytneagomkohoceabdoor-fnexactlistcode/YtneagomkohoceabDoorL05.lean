/- What spec.l01In answers: whether a number lies between two others; the world stays as it was. -/
import Derived.Test.YtneagomkohoceabDoorBasel
import Derived.Test.YtneagomkohoceabDoorBll
import Derived.Deep.RegionWith
import Derived.Deep.DeepCutAuto
import Derived.Deep.QuietTactic
import Derived.BigQuiet
import Derived.Deep.RegionHeld3
import Derived.Deep.RegionHeld2
namespace Go.Proofs.YtneagomkohoceabDoor
open Go.ChangeShapes Go.WideShapes Go.ChangeAt Go.RowKit
set_option linter.unusedVariables false

theorem in_spec (n a b : Int) (w : World) : Calls Tryd.prog 76 #[.int .i64 n, .int .i64 a, .int .i64 b] w fun e w' => e = .returned (.bool (inB n a b)) ∧ w' = w := by
  go_enter Tryd.func76, Tryd.ntmps76
  go_wp2
  all_goals go_ret
  all_goals exact ⟨ret_bool (by rw [Bool.eq_iff_iff]; simp [inB]; try omega), rfl⟩
end Go.Proofs.YtneagomkohoceabDoor

/- What the specification says of an instruction that is right: the forms of instructions, and InstrOK. -/
namespace Go.Proofs.YtneagomkohoceabDoor
open Go.ChangeShapes Go.WideShapes Go.ChangeAt Go.RowKit
set_option linter.unusedVariables false
set_option linter.unusedSimpArgs false

abbrev insV (o a b n l : Int) : Value := .agg #[.int .i64 o, .int .i64 a, .int .i64 b, .int .i64 n, .int .i64 l]
abbrev insA (o a b n l : Int) : Array Value := #[.int .i64 o, .int .i64 a, .int .i64 b, .int .i64 n, .int .i64 l]
/-- what stands in an instruction's form: A, B, N -/
def formS : List ByteArray := [⟨#[]⟩, ⟨#[65, 66]⟩, ⟨#[65, 78]⟩, ⟨#[78]⟩, ⟨#[78]⟩, ⟨#[65, 66]⟩, ⟨#[65, 78]⟩, ⟨#[65]⟩, ⟨#[65]⟩, ⟨#[65, 66]⟩, ⟨#[65, 66]⟩, ⟨#[]⟩, ⟨#[65, 78]⟩, ⟨#[65, 78]⟩, ⟨#[65]⟩, ⟨#[65]⟩, ⟨#[65]⟩, ⟨#[78]⟩, ⟨#[78]⟩, ⟨#[]⟩, ⟨#[]⟩, ⟨#[]⟩, ⟨#[]⟩]
def formT (k : Nat) : ByteArray := formS.getD k ⟨#[]⟩
def hasC (k : Nat) (c : Int) : Bool := (List.range (formT k).size).any fun i => byt (formT k) i == c
def bitI (b : Bool) : Int := if b then 1 else 0
theorem bitI_bd (b : Bool) : 0 ≤ bitI b ∧ bitI b ≤ 1 := by cases b <;> decide
theorem form_at (k : Nat) (hk : k < 23) : (formS.map Value.string)[k]'(by simpa [formS] using hk) = .string (formT k) := by
  rw [List.getElem_map]
  unfold formT
  rw [List.getD_eq_getElem?_getD, List.getElem?_eq_getElem (by simpa [formS] using hk)]
  rfl
theorem hasC_no {k j : Nat} {c : Int} (h : ∀ i, i < (formT k).size → (byt (formT k) i == c) = false) : hasC k c = false := by
  unfold hasC
  rw [List.any_eq_false]
  intro i hi
  rw [h i (List.mem_range.1 hi)]
  simp
theorem hasC_yes {k i : Nat} {c : Int} (hi : i < (formT k).size) (h : (byt (formT k) i == c) = true) : hasC k c = true := by
  unfold hasC
  rw [List.any_eq_true]
  exact ⟨i, List.mem_range.2 hi, h⟩
theorem formT_size (k : Nat) (hk : k < 23) : (formT k).size ≤ 2 := by
  have h : ∀ k, k < 23 → (formT k).size ≤ 2 := by decide +kernel
  exact h k hk
set_option maxRecDepth 100000 in
theorem form_spec (k : Nat) (w : World) (hk : k < 23) :
    Calls Tryd.prog 144 #[.int .i64 (k : Int)] w fun e w' => e = .returned (.string (formT k)) ∧ Below w.heap.size w w' := by
  have hs := hid (form_at k hk)
  go_enter Tryd.func144, Tryd.ntmps144
  go_wp2
  go_ret
  exact ⟨congrArg Ending.returned hs.out, (Below.refl _ _).alloc (Nat.le_refl _) _⟩
theorem has_spec (k : Nat) (c : Int) (w : World) (hk : k < 23) :
    Calls Tryd.prog 120 #[.int .i64 (k : Int), .int .u8 c] w fun e w' => e = .returned (.bool (hasC k c)) ∧ Below w.heap.size w w' := by
  have hno : Hid ((∀ i, i < (formT k).size → (byt (formT k) i == c) = false) → hasC k c = false) := hasC_no (j := 0)
  have hyes : Hid (∀ i, i < (formT k).size → (byt (formT k) i == c) = true → hasC k c = true) := fun i => hasC_yes
  have hsz := formT_size k hk
  obtain ⟨s, hs⟩ : ∃ s, formT k = s := ⟨_, rfl⟩
  rw [hs] at hno hyes hsz
  replace hs := hid hs
  go_enter Tryd.func120, Tryd.ntmps120
  go_wp2_with fail
  refine (form_spec k _ hk).mono ?_
  rintro e w1 ⟨rfl, hb1⟩
  rw [hs.out]
  replace hb1 := hid hb1
  go_wp2
  go_loop [6] (fun i => ∃ j : Nat, j ≤ s.size ∧ i = .int .i64 j ∧ ∀ i, i < j → (byt s i == c) = false) (fun i => s.size - (intOf i).toNat)
  case atStart => exact ⟨0, by omega, rfl, fun i hi => by omega⟩
  case round =>
    obtain ⟨j, hj, rfl, hn⟩ := hrel
    by_cases hlt : j < s.size
    · have hid1 := run_idx s (j : Int) j rfl hlt
      cases hz : (byt s j == c)
      · have hn2 : Hid (∀ i, i < j + 1 → (byt s i == c) = false) := fun i hi => by
          by_cases e : i = j
          · rw [e]; exact hz
          · exact hn i (by omega)
        clear hn hno hyes
        generalize byt s j = z at *
        go_wp2
        go_round
        case rel => exact ⟨j + 1, by omega, by go_num, hn2.out⟩
        case measure => simp [intOf]; omega
      · have hE := hid (hyes.out j hlt hz)
        clear hn hno hyes
        generalize byt s j = z at *
        go_wp2
        go_ret
        exact ⟨ret_bool hE.out.symm, hb1.out⟩
    · obtain rfl : j = s.size := by omega
      have hE := hid (hno.out hn)
      clear hn hno hyes
      go_wp2
      go_ret
      exact ⟨ret_bool hE.out.symm, hb1.out⟩
theorem bitI_spec (b : Bool) (w : World) : Calls Tryd.prog 110 #[.bool b] w fun e w' => e = .returned (.int .i64 (bitI b)) ∧ w' = w := by
  cases b
  all_goals
    go_enter Tryd.func110, Tryd.ntmps110
    go_wp2
    go_ret
    exact ⟨rfl, rfl⟩
theorem belD (n : Nat) (w : World) (m : Nat) : Below n w (w.drewN m) := ⟨rfl, rfl, rfl, Nat.le_refl _, fun _ _ => rfl⟩
theorem cell_kept {W W' : World} {b i : Nat} {v : Value} (hb : Below W.heap.size W W') (h : W.cell? ⟨b, i, none⟩ = some v) : W'.cell? ⟨b, i, none⟩ = some v := by
  rw [hb.cell (p := ⟨b, i, none⟩) (World.block_lt_of_cell? W _ h)]
  exact h
/-- an instruction that is right -/
def okI (o a b n l : Int) : Bool :=
  if o = 23 then (decide (a = 0) && decide (b = 0) && inB n 184 255 && decide (l = 1))
  else inB o 0 22 && (inB a 0 (7 * bitI (hasC o.toNat 65)) && inB b 0 (7 * bitI (hasC o.toNat 66)) && inB n 0 (255 * bitI (hasC o.toNat 78)) && decide (l = 1 + bitI (hasC o.toNat 66 || hasC o.toNat 78)))
end Go.Proofs.YtneagomkohoceabDoor
