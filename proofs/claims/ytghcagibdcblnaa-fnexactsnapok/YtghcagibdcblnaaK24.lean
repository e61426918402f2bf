/- What the specification answers where an address lies, what is read there, and whether it is shared. -/
import Derived.Test.YtghcagibdcblnaaMfk
import Derived.Test.YtghcagibdcblnaaBasek
import Derived.Test.YtghcagibdcblnaaInk
import Derived.Test.YtghcagibdcblnaaK06
import Derived.Deep.RegionWith
import Derived.Deep.DeepCutAuto
import Derived.Deep.QuietTactic
import Derived.BigQuiet
import Derived.Deep.RegionHeld3
import Derived.Deep.RegionHeld2
namespace Go.Proofs.Ytghcagibdcblnaa
open Go.ChangeShapes Go.WideShapes Go.ChangeAt Go.RowKit
set_option linter.unusedVariables false

def Fit (M : Mem) : Prop := M.rom.length ≤ 1000000000 ∧ M.ram.length ≤ 1000000000 ∧ ∀ i, i < M.ram.length → (M.ram.getD i []).length ≤ 1000000000
/-- the code that an address gets -/
def askM (M : Mem) (a : Int) : Int := if okM M = true then (if inB a 0 255 = true then 0 else 4) else 1
/-- the bank that an address shows, -1 of the ROM -/
def bankI (p a : Int) : Int := if a < 64 then -1 else if a < 128 then 1 else if a < 192 then 2 else p
def peekI (M : Mem) (a : Int) : Int := if a < 64 then M.rom.getD a.toNat 0 else (M.ram.getD (bankI M.page a).toNat []).getD (a % 64).toNat 0
def where3 (M : Mem) (a : Int) : Value := if askM M a = 0 then .tuple #[.int .i64 (bankI M.page a), .int .i64 (a % 64), .int .i64 0] else .tuple #[.int .i64 0, .int .i64 0, .int .i64 (askM M a)]
def peek2 (M : Mem) (a : Int) : Value := if askM M a = 0 then .tuple #[.int .i64 (peekI M a), .int .i64 0] else .tuple #[.int .i64 0, .int .i64 (askM M a)]
def shared2 (M : Mem) (a : Int) : Value := if askM M a = 0 then .tuple #[.bool (decide (bankI M.page a = 1 ∨ bankI M.page a = 3)), .int .i64 0] else .tuple #[.bool false, .int .i64 (askM M a)]
theorem ask_cases (M : Mem) (a : Int) : (askM M a = 0 ∧ okM M = true ∧ 0 ≤ a ∧ a ≤ 255) ∨ (askM M a ≠ 0 ∧ (askM M a == 0) = false) := by
  unfold askM
  split
  · split
    · rename_i h1 h2
      have : 0 ≤ a ∧ a ≤ 255 := by simpa [inB] using h2
      exact .inl ⟨rfl, h1, this⟩
    · exact .inr ⟨by decide, by decide⟩
  · exact .inr ⟨by decide, by decide⟩
theorem bank_bd {p a : Int} (hp : 0 ≤ p ∧ p ≤ 3) (ha : 64 ≤ a) : 0 ≤ bankI p a ∧ bankI p a ≤ 3 := by
  unfold bankI
  split
  · omega
  · split
    · omega
    · split <;> omega
theorem row_at {w : World} {a : Option Addr} {n cap : Nat} {zs : List Int} (h : RowR w (.slice a n cap) zs) {k : Nat} (hk : k < zs.length) :
    ∃ b off, a = some ⟨b, off, none⟩ ∧ w.cell? ⟨b, off + k, none⟩ = some (.int .i64 (zs.getD k 0)) ∧ b < w.heap.size := by
  obtain ⟨b, off, h1, h2⟩ := row_some h.disj hk
  exact ⟨b, off, h1, h2, World.block_lt_of_cell? w _ h2⟩
theorem rows_at {w : World} {a : Option Addr} {n cap : Nat} {zss : List (List Int)} (h : RowsR w (.slice a n cap) zss) {k : Nat} (hk : k < zss.length) :
    ∃ b off a' cap', a = some ⟨b, off, none⟩ ∧ w.cell? ⟨b, off + k, none⟩ = some (.slice a' (zss.getD k []).length cap') ∧ b < w.heap.size ∧ RowR w (.slice a' (zss.getD k []).length cap') (zss.getD k []) := by
  obtain ⟨b, off, a', cap', h1, h2, h3⟩ := rows_some h.disj hk
  exact ⟨b, off, a', cap', h1, h2, World.block_lt_of_cell? w _ h2, h3⟩

end Go.Proofs.Ytghcagibdcblnaa

/- What the specification says of an instruction that is right: the forms of instructions, and InstrOK. -/
namespace Go.Proofs.Ytghcagibdcblnaa
open Go.ChangeShapes Go.WideShapes Go.ChangeAt Go.RowKit
set_option linter.unusedVariables false
set_option linter.unusedSimpArgs false

abbrev insV (o a b n l : Int) : Value := .agg #[.int .i64 o, .int .i64 a, .int .i64 b, .int .i64 n, .int .i64 l]
abbrev insA (o a b n l : Int) : Array Value := #[.int .i64 o, .int .i64 a, .int .i64 b, .int .i64 n, .int .i64 l]
/-- what stands in an instruction's form: A, B, N -/
def formS : List ByteArray := [⟨#[]⟩, ⟨#[65, 66]⟩, ⟨#[65, 78]⟩, ⟨#[78]⟩, ⟨#[78]⟩, ⟨#[65, 66]⟩, ⟨#[65, 78]⟩, ⟨#[65]⟩, ⟨#[65]⟩, ⟨#[65, 66]⟩, ⟨#[65, 66]⟩, ⟨#[]⟩, ⟨#[65, 78]⟩, ⟨#[65, 78]⟩, ⟨#[65]⟩, ⟨#[65]⟩, ⟨#[65]⟩, ⟨#[78]⟩, ⟨#[78]⟩, ⟨#[]⟩, ⟨#[]⟩, ⟨#[]⟩, ⟨#[]⟩]
def formT (k : Nat) : ByteArray := formS.getD k ⟨#[]⟩
def hasC (k : Nat) (c : Int) : Bool := (List.range (formT k).size).any fun i => byt (formT k) i == c
def bitI (b : Bool) : Int := if b then 1 else 0
theorem bitI_bd (b : Bool) : 0 ≤ bitI b ∧ bitI b ≤ 1 := by cases b <;> decide
theorem form_at (k : Nat) (hk : k < 23) : (formS.map Value.string)[k]'(by simpa [formS] using hk) = .string (formT k) := by
  rw [List.getElem_map]
  unfold formT
  rw [List.getD_eq_getElem?_getD, List.getElem?_eq_getElem (by simpa [formS] using hk)]
  rfl
theorem hasC_no {k j : Nat} {c : Int} (h : ∀ i, i < (formT k).size → (byt (formT k) i == c) = false) : hasC k c = false := by
  unfold hasC
  rw [List.any_eq_false]
  intro i hi
  rw [h i (List.mem_range.1 hi)]
  simp
theorem hasC_yes {k i : Nat} {c : Int} (hi : i < (formT k).size) (h : (byt (formT k) i == c) = true) : hasC k c = true := by
  unfold hasC
  rw [List.any_eq_true]
  exact ⟨i, List.mem_range.2 hi, h⟩
theorem formT_size (k : Nat) (hk : k < 23) : (formT k).size ≤ 2 := by
  have h : ∀ k, k < 23 → (formT k).size ≤ 2 := by decide +kernel
  exact h k hk
theorem bitI_spec (b : Bool) (w : World) : Calls Try.prog 55 #[.bool b] w fun e w' => e = .returned (.int .i64 (bitI b)) ∧ w' = w := by
  cases b
  all_goals
    go_enter Try.func55, Try.ntmps55
    go_wp2
    go_ret
    exact ⟨rfl, rfl⟩
theorem belD (n : Nat) (w : World) (m : Nat) : Below n w (w.drewN m) := ⟨rfl, rfl, rfl, Nat.le_refl _, fun _ _ => rfl⟩
theorem cell_kept {W W' : World} {b i : Nat} {v : Value} (hb : Below W.heap.size W W') (h : W.cell? ⟨b, i, none⟩ = some v) : W'.cell? ⟨b, i, none⟩ = some v := by
  rw [hb.cell (p := ⟨b, i, none⟩) (World.block_lt_of_cell? W _ h)]
  exact h
/-- an instruction that is right -/
def okI (o a b n l : Int) : Bool :=
  if o = 23 then (decide (a = 0) && decide (b = 0) && inB n 184 255 && decide (l = 1))
  else inB o 0 22 && (inB a 0 (7 * bitI (hasC o.toNat 65)) && inB b 0 (7 * bitI (hasC o.toNat 66)) && inB n 0 (255 * bitI (hasC o.toNat 78)) && decide (l = 1 + bitI (hasC o.toNat 66 || hasC o.toNat 78)))
end Go.Proofs.Ytghcagibdcblnaa
