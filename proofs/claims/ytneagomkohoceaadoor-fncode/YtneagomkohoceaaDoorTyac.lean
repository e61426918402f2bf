/- A list of code: what it says, as plain texts. -/
import Derived.Test.YtneagomkohoceaaDoorTxnc
import Derived.Test.YtneagomkohoceaaDoorIhc
import Derived.Test.YtneagomkohoceaaDoorIbc
import Derived.Test.YtneagomkohoceaaDoorKjc
namespace Go.Proofs.YtneagomkohoceaaDoor
open Go.ChangeShapes Go.WideShapes Go.ChangeAt Go.RowKit
set_option linter.unusedVariables false
set_option linter.unusedSimpArgs false

def insB (x y : Int) : ByteArray := textB (decO x).toNat (decA x).toNat (decB x y).toNat (decN x y).toNat
def lcW (zs : List Int) (i : Nat) : ByteArray := hxB (i : Int) ++ ⟨#[32]⟩ ++ insB (zs.getD i 0) (zs.getD (i + 1) 0)
def lcS (zs : List Int) : Nat → Nat × List ByteArray
  | 0 => (0, [])
  | k + 1 => if (lcS zs k).1 < zs.length then ((lcS zs k).1 + (decL (zs.getD (lcS zs k).1 0)).toNat, (lcS zs k).2 ++ [lcW zs (lcS zs k).1]) else lcS zs k
def lc2 (zs : List Int) : List ByteArray × Int := if 4096 < zs.length then ([], 2) else if 256 < zs.length then ([], 8) else if zs.all (fun z => inB z 0 255) = true then ((lcS zs zs.length).2, 0) else ([], 4)
theorem decL_pos (x : Int) : 1 ≤ decL x ∧ decL x ≤ 2 := by
  unfold decL
  split
  · omega
  · unfold bitI
    split <;> omega
theorem lcS_done {zs : List Int} {k : Nat} (h : zs.length ≤ (lcS zs k).1) : ∀ m, lcS zs (k + m) = lcS zs k
  | 0 => rfl
  | m + 1 => by
    have ih := lcS_done h m
    show (if (lcS zs (k + m)).1 < zs.length then _ else lcS zs (k + m)) = _
    rw [ih, if_neg (by omega)]
theorem lcS_ge (zs : List Int) : ∀ k, k ≤ (lcS zs k).1 ∨ zs.length ≤ (lcS zs k).1
  | 0 => .inl (Nat.le_refl 0)
  | k + 1 => by
    have ih := lcS_ge zs k
    have hp := decL_pos (zs.getD (lcS zs k).1 0)
    show k + 1 ≤ (if (lcS zs k).1 < zs.length then _ else lcS zs k).1 ∨ _ ≤ (if (lcS zs k).1 < zs.length then _ else lcS zs k).1
    by_cases h : (lcS zs k).1 < zs.length
    · rw [if_pos h]
      dsimp only
      omega
    · rw [if_neg h]
      omega
theorem lcS_fin {zs : List Int} {k : Nat} (h : zs.length ≤ (lcS zs k).1) : lcS zs k = lcS zs zs.length := by
  rcases Nat.le_total k zs.length with hk | hk
  · have := lcS_done h (zs.length - k)
    rw [show k + (zs.length - k) = zs.length from by omega] at this
    exact this.symm
  · have h2 : zs.length ≤ (lcS zs zs.length).1 := by
      rcases lcS_ge zs zs.length with h | h <;> exact h
    have := lcS_done h2 (k - zs.length)
    rwa [show zs.length + (k - zs.length) = k from by omega] at this
theorem lcS_succ {zs : List Int} {k : Nat} (h : (lcS zs k).1 < zs.length) : lcS zs (k + 1) = ((lcS zs k).1 + (decL (zs.getD (lcS zs k).1 0)).toNat, (lcS zs k).2 ++ [lcW zs (lcS zs k).1]) := by
  show (if _ then _ else _) = _
  rw [if_pos h]
theorem lcS_bd (zs : List Int) : ∀ k, (lcS zs k).1 ≤ zs.length + 1 ∧ (lcS zs k).2.length ≤ (lcS zs k).1
  | 0 => ⟨Nat.zero_le _, Nat.le_refl 0⟩
  | k + 1 => by
    have ih := lcS_bd zs k
    have hp := decL_pos (zs.getD (lcS zs k).1 0)
    by_cases h : (lcS zs k).1 < zs.length
    · rw [lcS_succ h]
      dsimp only
      rw [List.length_append]
      simp only [List.length_cons, List.length_nil]
      omega
    · have e : lcS zs (k + 1) = lcS zs k := by
        show (if _ then _ else _) = _
        rw [if_neg h]
      rw [e]
      exact ih
theorem dec_ok {x y : Int} (h0 : 0 ≤ x) (h1 : x ≤ 255) (h2 : 0 ≤ y) (h3 : y ≤ 255) : okI (decO x) (decA x) (decB x y) (decN x y) (decL x) = true := by
  unfold okI decO decA decB decN decL
  by_cases h : 23 ≤ x / 8
  · simp only [if_pos h]
    simp [inB]
    omega
  · simp only [if_neg h]
    rw [if_neg (by omega : ¬ x / 8 = 23)]
    generalize hasC (x / 8).toNat 65 = p
    generalize hasC (x / 8).toNat 66 = q
    generalize hasC (x / 8).toNat 78 = r
    cases p <;> cases q <;> cases r <;> simp [inB, bitI] <;> omega
theorem dec_facts {x y : Int} (h0 : 0 ≤ x) (h1 : x ≤ 255) (h2 : 0 ≤ y) (h3 : y ≤ 255) : okI (decO x) (decA x) (decB x y) (decN x y) (decL x) = true ∧ ∃ K A B N : Nat, K < 24 ∧ A < 8 ∧ B < 8 ∧ N < 256 ∧ decO x = K ∧ decA x = A ∧ decB x y = B ∧ decN x y = N ∧ insB x y = textB K A B N := by
  have b1 : 0 ≤ decO x ∧ decO x < 24 := by unfold decO; split <;> omega
  have b2 : 0 ≤ decA x ∧ decA x < 8 := by unfold decA; split; omega; split <;> omega
  have b3 : 0 ≤ decB x y ∧ decB x y < 8 := by unfold decB; split; omega; split <;> omega
  have b4 : 0 ≤ decN x y ∧ decN x y < 256 := by unfold decN; split; omega; split <;> omega
  exact ⟨dec_ok h0 h1 h2 h3, (decO x).toNat, (decA x).toNat, (decB x y).toNat, (decN x y).toNat, by omega, by omega, by omega, by omega, by omega, by omega, by omega, by omega, rfl⟩
theorem insB_size {x y : Int} (h0 : 0 ≤ x) (h1 : x ≤ 255) (h2 : 0 ≤ y) (h3 : y ≤ 255) : (insB x y).size ≤ 100 := by
  obtain ⟨_, K, A, B, N, k, a, b, n, _, _, _, _, e⟩ := dec_facts h0 h1 h2 h3
  rw [e]
  exact textB_size K A B N k (by omega) (by omega) n
theorem all_getD {zs : List Int} (h : zs.all (fun z => inB z 0 255) = true) (i : Nat) : 0 ≤ zs.getD i 0 ∧ zs.getD i 0 ≤ 255 := by
  rcases Nat.lt_or_ge i zs.length with hi | hi
  · rw [List.getD_eq_getElem?_getD, List.getElem?_eq_getElem hi]
    have := List.all_eq_true.1 h _ (List.getElem_mem hi)
    unfold inB at this
    simpa using this
  · rw [List.getD_eq_getElem?_getD, List.getElem?_eq_none hi]
    exact ⟨by decide, by decide⟩
end Go.Proofs.YtneagomkohoceaaDoor
