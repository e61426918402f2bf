/- The words of a text, as the specification cuts them at blanks, and that the library's way over runes gives the same. -/
import Derived.Test.YtneagomkohoceaaDoorBasec
import Derived.Lib.FieldsP
namespace Go.Proofs.YtneagomkohoceaaDoor
open Go.ChangeShapes Go.WideShapes Go.ChangeAt Go.RowKit
set_option linter.unusedVariables false
set_option linter.unusedSimpArgs false

def wdStep (s : ByteArray) (i : Nat) (st : List (Nat × Nat) × Nat) : List (Nat × Nat) × Nat :=
  if i = s.size ∨ byt s i = 32 then ((if st.2 < i then st.1 ++ [(st.2, i)] else st.1), i + 1) else st
/-- the words that are closed ahead of place k, and where the next one begins -/
def wdS (s : ByteArray) : Nat → List (Nat × Nat) × Nat
  | 0 => ([], 0)
  | k + 1 => wdStep s k (wdS s k)
def wordsB (s : ByteArray) : List ByteArray := (wdS s (s.size + 1)).1.map fun x => s.extract x.1 x.2
def blankP (r : Nat) : Bool := r == 32
theorem wdS_le (s : ByteArray) : ∀ k, (wdS s k).2 ≤ k
  | 0 => Nat.le_refl _
  | k + 1 => by
    have ih := wdS_le s k
    show (wdStep s k (wdS s k)).2 ≤ k + 1
    unfold wdStep
    split
    · exact Nat.le_refl _
    · omega
theorem wdS_in (s : ByteArray) : ∀ k, ∀ x ∈ (wdS s k).1, x.1 < x.2 ∧ x.2 < k
  | 0 => fun x hx => by cases hx
  | k + 1 => by
    have ih := wdS_in s k
    intro x hx
    have hx : x ∈ (wdStep s k (wdS s k)).1 := hx
    unfold wdStep at hx
    split at hx
    · dsimp only at hx
      split at hx
      · rcases List.mem_append.1 hx with h | h
        · have := ih x h; omega
        · simp only [List.mem_singleton] at h
          subst h
          dsimp only
          omega
      · have := ih x hx; omega
    · have := ih x hx; omega
theorem wdS_skip {s : ByteArray} {k : Nat} (h : ¬ (k = s.size ∨ byt s k = 32)) : wdS s (k + 1) = wdS s k := by
  show wdStep s k (wdS s k) = _
  unfold wdStep
  rw [if_neg h]
theorem wdS_cut {s : ByteArray} {k : Nat} (h : k = s.size ∨ byt s k = 32) : wdS s (k + 1) = ((if (wdS s k).2 < k then (wdS s k).1 ++ [((wdS s k).2, k)] else (wdS s k).1), k + 1) := by
  show wdStep s k (wdS s k) = _
  unfold wdStep
  rw [if_pos h]
theorem byt_get (s : ByteArray) (k : Nat) : byt s k = ((s.get! k).toNat : Int) := by
  unfold byt
  congr 2
  rw [ByteArray.get!.eq_def]
  cases s with
  | mk a =>
    simp only [List.getD_eq_getElem?_getD, Array.getElem?_toList]
    rw [Array.getElem!_eq_getD, Array.getD_eq_getD_getElem?]
    rfl
theorem width_in (s : ByteArray) (pos : Nat) (h : pos < s.size) : (Utf8.decode s pos).2 ≤ s.size - pos := by
  rw [Lib.decode_at]
  exact Lib.decodeN_le_n' _ _ _ _ _ (by omega)
theorem decodeN_wide (n b0 b1 b2 b3 : Nat) :
    ((Lib.decodeN n b0 b1 b2 b3).1 = 32 ↔ b0 = 32) ∧ (b0 = 32 → (Lib.decodeN n b0 b1 b2 b3).2 = 1) ∧ 1 ≤ (Lib.decodeN n b0 b1 b2 b3).2 ∧ (Lib.decodeN n b0 b1 b2 b3).2 ≤ 4 ∧
    (2 ≤ (Lib.decodeN n b0 b1 b2 b3).2 → b1 / 64 = 2) ∧ (3 ≤ (Lib.decodeN n b0 b1 b2 b3).2 → b2 / 64 = 2) ∧ (4 ≤ (Lib.decodeN n b0 b1 b2 b3).2 → b3 / 64 = 2) := by
  unfold Lib.decodeN
  repeat' split
  all_goals (refine ⟨⟨fun h => ?_, fun h => ?_⟩, fun h => ?_, ?_, ?_, fun h => ?_, fun h => ?_, fun h => ?_⟩ <;> (try dsimp only at h ⊢) <;> omega)
theorem rune_steps (s : ByteArray) (pos : Nat) (h : pos < s.size) :
    (blankP (Utf8.decode s pos).1 = true → byt s pos = 32 ∧ (Utf8.decode s pos).2 = 1) ∧
    (blankP (Utf8.decode s pos).1 = false → wdS s (pos + (Utf8.decode s pos).2) = wdS s pos) := by
  have hw := width_in s pos h
  rw [Lib.decode_at] at hw ⊢
  have hd := decodeN_wide (s.size - pos) (s.get! pos).toNat (s.get! (pos + 1)).toNat (s.get! (pos + 2)).toNat (s.get! (pos + 3)).toNat
  obtain ⟨h1, h2, h3, h4, h5, h6, h7⟩ := hd
  have g0 := byt_get s pos
  have g1 := byt_get s (pos + 1)
  have g2 := byt_get s (pos + 2)
  have g3 := byt_get s (pos + 3)
  generalize (s.get! pos).toNat = b0 at *
  generalize (s.get! (pos + 1)).toNat = b1 at *
  generalize (s.get! (pos + 2)).toNat = b2 at *
  generalize (s.get! (pos + 3)).toNat = b3 at *
  generalize Lib.decodeN (s.size - pos) b0 b1 b2 b3 = r at *
  refine ⟨fun hb => ?_, fun hb => ?_⟩
  · have h32 : r.1 = 32 := by simpa [blankP] using hb
    have hb0 := h1.1 h32
    exact ⟨by omega, h2 hb0⟩
  · have h32 : ¬ r.1 = 32 := by simpa [blankP] using hb
    have hb0 : ¬ b0 = 32 := fun e => h32 (h1.2 e)
    have s0 : wdS s (pos + 1) = wdS s pos := wdS_skip (by omega)
    have hr : r.2 = 1 ∨ r.2 = 2 ∨ r.2 = 3 ∨ r.2 = 4 := by omega
    rcases hr with e | e | e | e
    · rw [e]; exact s0
    · have s1 : wdS s (pos + 1 + 1) = wdS s (pos + 1) := wdS_skip (by have := h5 (by omega); omega)
      rw [e]; exact s1.trans s0
    · have s1 : wdS s (pos + 1 + 1) = wdS s (pos + 1) := wdS_skip (by have := h5 (by omega); omega)
      have s2 : wdS s (pos + 2 + 1) = wdS s (pos + 2) := wdS_skip (by have := h6 (by omega); omega)
      rw [e]; exact s2.trans (s1.trans s0)
    · have s1 : wdS s (pos + 1 + 1) = wdS s (pos + 1) := wdS_skip (by have := h5 (by omega); omega)
      have s2 : wdS s (pos + 2 + 1) = wdS s (pos + 2) := wdS_skip (by have := h6 (by omega); omega)
      have s3 : wdS s (pos + 3 + 1) = wdS s (pos + 3) := wdS_skip (by have := h7 (by omega); omega)
      rw [e]; exact s3.trans (s2.trans (s1.trans s0))
def openW (s : ByteArray) (pos : Nat) : Option Nat := if (wdS s pos).2 < pos then some (wdS s pos).2 else none
theorem open_some {s : ByteArray} {pos a : Nat} (h : openW s pos = some a) : (wdS s pos).2 = a ∧ a < pos := by
  unfold openW at h
  split at h
  · simp only [Option.some.injEq] at h; omega
  · cases h
theorem open_none {s : ByteArray} {pos : Nat} (h : openW s pos = none) : (wdS s pos).2 = pos := by
  have := wdS_le s pos
  unfold openW at h
  split at h
  · cases h
  · omega
theorem closes (s : ByteArray) : Lib.closeSpans s ((wdS s s.size).1, openW s s.size) = (wdS s (s.size + 1)).1 := by
  rw [wdS_cut (Or.inl rfl)]
  unfold Lib.closeSpans openW
  by_cases h : (wdS s s.size).2 < s.size
  · simp only [if_pos h]
  · simp only [if_neg h]
theorem spans_words (s : ByteArray) : ∀ f pos, s.size ≤ pos + f → pos ≤ s.size → Lib.closeSpans s (Lib.spansFromP blankP s f pos (openW s pos) (wdS s pos).1) = (wdS s (s.size + 1)).1
  | 0, pos, h, hp => by
    obtain rfl : pos = s.size := by omega
    exact closes s
  | f + 1, pos, h, hp => by
    by_cases hlt : pos < s.size
    · obtain ⟨hy, hn⟩ := rune_steps s pos hlt
      have hwi := width_in s pos hlt
      have hw1 : 1 ≤ (Utf8.decode s pos).2 := by rw [Lib.decode_at]; exact (decodeN_wide _ _ _ _ _).2.2.1
      have hle := wdS_le s pos
      unfold Lib.spansFromP
      rw [if_pos hlt]
      cases hb : blankP (Utf8.decode s pos).1
      · rw [if_neg (by simp)]
        have e := hn hb
        have ih := spans_words s f (pos + (Utf8.decode s pos).2) (by omega) (by omega)
        rw [e] at ih
        have eo : openW s (pos + (Utf8.decode s pos).2) = some (wdS s pos).2 := by unfold openW; rw [e, if_pos (by omega)]
        rw [eo] at ih
        cases ho : openW s pos with
        | none =>
          have := open_none ho
          rw [this] at ih
          exact ih
        | some a =>
          have := (open_some ho).1
          rw [this] at ih
          exact ih
      · rw [if_pos rfl]
        obtain ⟨h32, hw⟩ := hy hb
        rw [hw]
        have ih := spans_words s f (pos + 1) (by omega) (by omega)
        have e := wdS_cut (s := s) (k := pos) (Or.inr h32)
        have eo : openW s (pos + 1) = none := by unfold openW; rw [e, if_neg (by simp)]
        rw [eo, e] at ih
        cases ho : openW s pos with
        | none =>
          have := open_none ho
          rw [if_neg (by omega)] at ih
          exact ih
        | some a =>
          have := open_some ho
          rw [if_pos (by omega), this.1] at ih
          exact ih
    · obtain rfl : pos = s.size := by omega
      rw [Lib.spansFromP_end _ _ _ _ _ _ hlt]
      exact closes s
theorem words_runes (s : ByteArray) : Lib.goFieldsP blankP s = wordsB s := by
  unfold Lib.goFieldsP Lib.spansOfP wordsB
  have h := spans_words s s.size 0 (by omega) (by omega)
  have e : openW s 0 = none := rfl
  have e1 : (wdS s 0).1 = [] := rfl
  rw [e, e1] at h
  rw [h]
theorem wdS_len (s : ByteArray) : ∀ k, (wdS s k).1.length ≤ (wdS s k).2
  | 0 => Nat.le_refl _
  | k + 1 => by
    have ih := wdS_len s k
    have hl := wdS_le s k
    show (wdStep s k (wdS s k)).1.length ≤ (wdStep s k (wdS s k)).2
    unfold wdStep
    split
    · dsimp only
      split
      · rw [List.length_append, List.length_singleton]; omega
      · omega
    · exact ih
end Go.Proofs.YtneagomkohoceaaDoor
