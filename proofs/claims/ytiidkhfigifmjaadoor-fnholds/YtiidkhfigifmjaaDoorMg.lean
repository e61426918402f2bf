/- What the specification answers where an address lies, what is read there, and whether it is shared. -/
import Derived.Test.YtiidkhfigifmjaaDoorMf
namespace Go.Proofs.YtiidkhfigifmjaaDoor
open Go.ChangeShapes Go.WideShapes Go.ChangeAt Go.RowKit
set_option linter.unusedVariables false

def Fit (M : Mem) : Prop := M.rom.length ≤ 1000000000 ∧ M.ram.length ≤ 1000000000 ∧ ∀ i, i < M.ram.length → (M.ram.getD i []).length ≤ 1000000000
/-- the code that an address gets -/
def askM (M : Mem) (a : Int) : Int := if okM M = true then (if inB a 0 255 = true then 0 else 4) else 1
/-- the bank that an address shows, -1 of the ROM -/
def bankI (p a : Int) : Int := if a < 64 then -1 else if a < 128 then 1 else if a < 192 then 2 else p
def peekI (M : Mem) (a : Int) : Int := if a < 64 then M.rom.getD a.toNat 0 else (M.ram.getD (bankI M.page a).toNat []).getD (a % 64).toNat 0
def where3 (M : Mem) (a : Int) : Value := if askM M a = 0 then .tuple #[.int .i64 (bankI M.page a), .int .i64 (a % 64), .int .i64 0] else .tuple #[.int .i64 0, .int .i64 0, .int .i64 (askM M a)]
def peek2 (M : Mem) (a : Int) : Value := if askM M a = 0 then .tuple #[.int .i64 (peekI M a), .int .i64 0] else .tuple #[.int .i64 0, .int .i64 (askM M a)]
def shared2 (M : Mem) (a : Int) : Value := if askM M a = 0 then .tuple #[.bool (decide (bankI M.page a = 1 ∨ bankI M.page a = 3)), .int .i64 0] else .tuple #[.bool false, .int .i64 (askM M a)]
theorem ask_cases (M : Mem) (a : Int) : (askM M a = 0 ∧ okM M = true ∧ 0 ≤ a ∧ a ≤ 255) ∨ (askM M a ≠ 0 ∧ (askM M a == 0) = false) := by
  unfold askM
  split
  · split
    · rename_i h1 h2
      have : 0 ≤ a ∧ a ≤ 255 := by simpa [inB] using h2
      exact .inl ⟨rfl, h1, this⟩
    · exact .inr ⟨by decide, by decide⟩
  · exact .inr ⟨by decide, by decide⟩
theorem bank_bd {p a : Int} (hp : 0 ≤ p ∧ p ≤ 3) (ha : 64 ≤ a) : 0 ≤ bankI p a ∧ bankI p a ≤ 3 := by
  unfold bankI
  split
  · omega
  · split
    · omega
    · split <;> omega
theorem row_at {w : World} {a : Option Addr} {n cap : Nat} {zs : List Int} (h : RowR w (.slice a n cap) zs) {k : Nat} (hk : k < zs.length) :
    ∃ b off, a = some ⟨b, off, none⟩ ∧ w.cell? ⟨b, off + k, none⟩ = some (.int .i64 (zs.getD k 0)) ∧ b < w.heap.size := by
  obtain ⟨b, off, h1, h2⟩ := row_some h.disj hk
  exact ⟨b, off, h1, h2, World.block_lt_of_cell? w _ h2⟩
theorem rows_at {w : World} {a : Option Addr} {n cap : Nat} {zss : List (List Int)} (h : RowsR w (.slice a n cap) zss) {k : Nat} (hk : k < zss.length) :
    ∃ b off a' cap', a = some ⟨b, off, none⟩ ∧ w.cell? ⟨b, off + k, none⟩ = some (.slice a' (zss.getD k []).length cap') ∧ b < w.heap.size ∧ RowR w (.slice a' (zss.getD k []).length cap') (zss.getD k []) := by
  obtain ⟨b, off, a', cap', h1, h2, h3⟩ := rows_some h.disj hk
  exact ⟨b, off, a', cap', h1, h2, World.block_lt_of_cell? w _ h2, h3⟩

end Go.Proofs.YtiidkhfigifmjaaDoor
