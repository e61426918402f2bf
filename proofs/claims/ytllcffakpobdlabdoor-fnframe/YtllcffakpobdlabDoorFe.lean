/- Plain facts of the frame: who waits goes on when the chip lets it; each byte of the screen is fetched just once. -/
import Derived.Test.YtllcffakpobdlabDoorSa
namespace Go.Proofs.YtllcffakpobdlabDoor
set_option linter.unusedVariables false

theorem waitI_bd (t : Int) : 0 ≤ waitI t ∧ waitI t ≤ 6 := by
  unfold waitI
  split
  · omega
  · omega
theorem waitI_off (t : Int) (h : scrI t = false) : waitI t = 0 := by unfold waitI; rw [if_neg (by rw [h]; decide)]
theorem wait_then (t : Int) (h0 : 0 ≤ t) (h1 : t ≤ 639) (h : waitI t ≠ 0) : t + waitI t ≤ 639 ∧ waitI (t + waitI t) = 0 := by
  cases hs : scrI t
  · exact absurd (waitI_off t hs) h
  · have e : waitI t = max 0 (6 - t % 8) := by unfold waitI; rw [if_pos hs]
    have hb : inB (t / 32) 4 11 = true := by unfold scrI at hs; simp at hs; exact hs.1
    have hb2 : 4 ≤ t / 32 ∧ t / 32 ≤ 11 := by simpa [inB] using hb
    refine ⟨by omega, ?_⟩
    have h8 : (t + waitI t) % 8 = 6 := by omega
    generalize t + waitI t = u at *
    unfold waitI
    split
    · omega
    · rfl

/-- the byte that is fetched at a T, 64 where none is -/
def fetN (k : Nat) : Nat := if 4 ≤ k / 32 ∧ k / 32 ≤ 11 ∧ k % 32 < 16 ∧ k % 4 ≤ 1 then 4 * (k / 32 - 4) + k % 32 / 4 + 32 * (k % 4) else 64
theorem fet_nat (k : Nat) : fetI (k : Int) = if fetN k < 64 then (fetN k : Int) else -1 := by
  by_cases h : 4 ≤ k / 32 ∧ k / 32 ≤ 11 ∧ k % 32 < 16 ∧ k % 4 ≤ 1
  · have e : fetN k = 4 * (k / 32 - 4) + k % 32 / 4 + 32 * (k % 4) := by unfold fetN; rw [if_pos h]
    have hs : scrI (k : Int) = true := by unfold scrI inB; simp; omega
    rw [if_pos (by omega), e]
    unfold fetI
    rw [if_pos ⟨hs, by omega⟩]
    omega
  · have e : fetN k = 64 := by unfold fetN; rw [if_neg h]
    rw [if_neg (by omega)]
    unfold fetI
    rw [if_neg]
    rintro ⟨hs, h4⟩
    apply h
    unfold scrI inB at hs
    simp at hs
    omega
/-- how often each byte has been fetched in the first k T -/
def cn : Nat → List Nat
  | 0 => List.replicate 64 0
  | k + 1 => if fetN k < 64 then (cn k).set (fetN k) ((cn k).getD (fetN k) 0 + 1) else cn k
theorem cn_len (k : Nat) : (cn k).length = 64 := by
  induction k with
  | zero => unfold cn; rw [List.length_replicate]
  | succ k ih =>
    rw [cn]
    split
    · rw [List.length_set, ih]
    · exact ih
theorem cn_bd (k j : Nat) : (cn k).getD j 0 ≤ k := by
  induction k generalizing j with
  | zero =>
    unfold cn
    rw [List.getD_eq_getElem?_getD, List.getElem?_replicate]
    split <;> simp
  | succ k ih =>
    rw [cn]
    split
    · rename_i h
      by_cases e : fetN k = j
      · rw [e, List.getD_eq_getElem?_getD, List.getElem?_set_self (by rw [cn_len]; omega)]
        have := ih j
        simp
        simpa [List.getD_eq_getElem?_getD] using this
      · rw [List.getD_eq_getElem?_getD, List.getElem?_set_ne e, ← List.getD_eq_getElem?_getD]
        have := ih j
        omega
    · have := ih j
      omega
theorem cn_all : cn 640 = List.replicate 64 1 := by decide +kernel
def sn (k : Nat) : List Value := (cn k).map fun (n : Nat) => Value.int .i64 (n : Int)
theorem sn_zero : sn 0 = List.replicate 64 (.int .i64 0) := by unfold sn cn; rw [List.map_replicate]; rfl
theorem sn_len (k : Nat) : (sn k).length = 64 := by unfold sn; rw [List.length_map, cn_len]
theorem sn_at (k j : Nat) (h : j < 64) : (sn k)[j]? = some (.int .i64 ((cn k).getD j 0 : Nat)) := by
  unfold sn
  rw [List.getElem?_map, List.getElem?_eq_getElem (by rw [cn_len]; exact h), List.getD_eq_getElem?_getD, List.getElem?_eq_getElem (by rw [cn_len]; exact h)]
  rfl
theorem sn_some (k : Nat) (h : fetN k < 64) : sn (k + 1) = (sn k).set (fetN k) (.int .i64 ((((cn k).getD (fetN k) 0 : Nat) : Int) + 1)) := by
  unfold sn
  rw [cn, if_pos h, List.map_set]
  rfl
theorem sn_none (k : Nat) (h : ¬ fetN k < 64) : sn (k + 1) = sn k := by unfold sn; rw [cn, if_neg h]
theorem sn_all (j : Nat) (h : j < 64) : (sn 640)[j]? = some (.int .i64 1) := by
  rw [sn_at 640 j h, cn_all, List.getD_eq_getElem?_getD, List.getElem?_replicate, if_pos h]
  rfl
theorem fet_cell (r c : Nat) (hr : r < 8) (hc : c < 4) : fetI ((4 + (r : Int)) * 32 + 4 * (c : Int)) = 4 * (r : Int) + (c : Int) := by
  have e : ((4 + (r : Int)) * 32 + 4 * (c : Int)) = ((4 + r) * 32 + 4 * c : Nat) := by omega
  have f : fetN ((4 + r) * 32 + 4 * c) = 4 * r + c := by unfold fetN; rw [if_pos (by omega)]; omega
  rw [e, fet_nat, f, if_pos (by omega)]
  omega
theorem fet_cell1 (r c : Nat) (hr : r < 8) (hc : c < 4) : fetI ((4 + (r : Int)) * 32 + 4 * (c : Int) + 1) = 4 * (r : Int) + (c : Int) + 32 := by
  have e : ((4 + (r : Int)) * 32 + 4 * (c : Int) + 1) = ((4 + r) * 32 + 4 * c + 1 : Nat) := by omega
  have f : fetN ((4 + r) * 32 + 4 * c + 1) = 4 * r + c + 32 := by unfold fetN; rw [if_pos (by omega)]; omega
  rw [e, fet_nat, f, if_pos (by omega)]
  omega
end Go.Proofs.YtllcffakpobdlabDoor
