/- The words of a text, as the specification cuts them at blanks, and that the library's way over runes gives the same. -/
import Derived.Test.YtneagomkohoceaaDoorBasec
import Derived.Lib.FieldsP
import Derived.Lib.ItoaNum
namespace Go.Proofs.YtneagomkohoceaaDoor
open Go.ChangeShapes Go.WideShapes Go.ChangeAt Go.RowKit
set_option linter.unusedVariables false
set_option linter.unusedSimpArgs false

def wdStep (s : ByteArray) (i : Nat) (st : List (Nat × Nat) × Nat) : List (Nat × Nat) × Nat :=
  if i = s.size ∨ byt s i = 32 then ((if st.2 < i then st.1 ++ [(st.2, i)] else st.1), i + 1) else st
/-- the words that are closed ahead of place k, and where the next one begins -/
def wdS (s : ByteArray) : Nat → List (Nat × Nat) × Nat
  | 0 => ([], 0)
  | k + 1 => wdStep s k (wdS s k)
def wordsB (s : ByteArray) : List ByteArray := (wdS s (s.size + 1)).1.map fun x => s.extract x.1 x.2
def blankP (r : Nat) : Bool := r == 32
theorem wdS_le (s : ByteArray) : ∀ k, (wdS s k).2 ≤ k
  | 0 => Nat.le_refl _
  | k + 1 => by
    have ih := wdS_le s k
    show (wdStep s k (wdS s k)).2 ≤ k + 1
    unfold wdStep
    split
    · exact Nat.le_refl _
    · omega
theorem wdS_in (s : ByteArray) : ∀ k, ∀ x ∈ (wdS s k).1, x.1 < x.2 ∧ x.2 < k
  | 0 => fun x hx => by cases hx
  | k + 1 => by
    have ih := wdS_in s k
    intro x hx
    have hx : x ∈ (wdStep s k (wdS s k)).1 := hx
    unfold wdStep at hx
    split at hx
    · dsimp only at hx
      split at hx
      · rcases List.mem_append.1 hx with h | h
        · have := ih x h; omega
        · simp only [List.mem_singleton] at h
          subst h
          dsimp only
          omega
      · have := ih x hx; omega
    · have := ih x hx; omega
theorem wdS_skip {s : ByteArray} {k : Nat} (h : ¬ (k = s.size ∨ byt s k = 32)) : wdS s (k + 1) = wdS s k := by
  show wdStep s k (wdS s k) = _
  unfold wdStep
  rw [if_neg h]
theorem wdS_cut {s : ByteArray} {k : Nat} (h : k = s.size ∨ byt s k = 32) : wdS s (k + 1) = ((if (wdS s k).2 < k then (wdS s k).1 ++ [((wdS s k).2, k)] else (wdS s k).1), k + 1) := by
  show wdStep s k (wdS s k) = _
  unfold wdStep
  rw [if_pos h]
theorem byt_get (s : ByteArray) (k : Nat) : byt s k = ((s.get! k).toNat : Int) := by
  unfold byt
  congr 2
  rw [ByteArray.get!.eq_def]
  cases s with
  | mk a =>
    simp only [List.getD_eq_getElem?_getD, Array.getElem?_toList]
    rw [Array.getElem!_eq_getD, Array.getD_eq_getD_getElem?]
    rfl
theorem width_in (s : ByteArray) (pos : Nat) (h : pos < s.size) : (Utf8.decode s pos).2 ≤ s.size - pos := by
  rw [Lib.decode_at]
  exact Lib.decodeN_le_n' _ _ _ _ _ (by omega)
theorem decodeN_wide (n b0 b1 b2 b3 : Nat) :
    ((Lib.decodeN n b0 b1 b2 b3).1 = 32 ↔ b0 = 32) ∧ (b0 = 32 → (Lib.decodeN n b0 b1 b2 b3).2 = 1) ∧ 1 ≤ (Lib.decodeN n b0 b1 b2 b3).2 ∧ (Lib.decodeN n b0 b1 b2 b3).2 ≤ 4 ∧
    (2 ≤ (Lib.decodeN n b0 b1 b2 b3).2 → b1 / 64 = 2) ∧ (3 ≤ (Lib.decodeN n b0 b1 b2 b3).2 → b2 / 64 = 2) ∧ (4 ≤ (Lib.decodeN n b0 b1 b2 b3).2 → b3 / 64 = 2) := by
  unfold Lib.decodeN
  repeat' split
  all_goals (refine ⟨⟨fun h => ?_, fun h => ?_⟩, fun h => ?_, ?_, ?_, fun h => ?_, fun h => ?_, fun h => ?_⟩ <;> (try dsimp only at h ⊢) <;> omega)
theorem rune_steps (s : ByteArray) (pos : Nat) (h : pos < s.size) :
    (blankP (Utf8.decode s pos).1 = true → byt s pos = 32 ∧ (Utf8.decode s pos).2 = 1) ∧
    (blankP (Utf8.decode s pos).1 = false → wdS s (pos + (Utf8.decode s pos).2) = wdS s pos) := by
  have hw := width_in s pos h
  rw [Lib.decode_at] at hw ⊢
  have hd := decodeN_wide (s.size - pos) (s.get! pos).toNat (s.get! (pos + 1)).toNat (s.get! (pos + 2)).toNat (s.get! (pos + 3)).toNat
  obtain ⟨h1, h2, h3, h4, h5, h6, h7⟩ := hd
  have g0 := byt_get s pos
  have g1 := byt_get s (pos + 1)
  have g2 := byt_get s (pos + 2)
  have g3 := byt_get s (pos + 3)
  generalize (s.get! pos).toNat = b0 at *
  generalize (s.get! (pos + 1)).toNat = b1 at *
  generalize (s.get! (pos + 2)).toNat = b2 at *
  generalize (s.get! (pos + 3)).toNat = b3 at *
  generalize Lib.decodeN (s.size - pos) b0 b1 b2 b3 = r at *
  refine ⟨fun hb => ?_, fun hb => ?_⟩
  · have h32 : r.1 = 32 := by simpa [blankP] using hb
    have hb0 := h1.1 h32
    exact ⟨by omega, h2 hb0⟩
  · have h32 : ¬ r.1 = 32 := by simpa [blankP] using hb
    have hb0 : ¬ b0 = 32 := fun e => h32 (h1.2 e)
    have s0 : wdS s (pos + 1) = wdS s pos := wdS_skip (by omega)
    have hr : r.2 = 1 ∨ r.2 = 2 ∨ r.2 = 3 ∨ r.2 = 4 := by omega
    rcases hr with e | e | e | e
    · rw [e]; exact s0
    · have s1 : wdS s (pos + 1 + 1) = wdS s (pos + 1) := wdS_skip (by have := h5 (by omega); omega)
      rw [e]; exact s1.trans s0
    · have s1 : wdS s (pos + 1 + 1) = wdS s (pos + 1) := wdS_skip (by have := h5 (by omega); omega)
      have s2 : wdS s (pos + 2 + 1) = wdS s (pos + 2) := wdS_skip (by have := h6 (by omega); omega)
      rw [e]; exact s2.trans (s1.trans s0)
    · have s1 : wdS s (pos + 1 + 1) = wdS s (pos + 1) := wdS_skip (by have := h5 (by omega); omega)
      have s2 : wdS s (pos + 2 + 1) = wdS s (pos + 2) := wdS_skip (by have := h6 (by omega); omega)
      have s3 : wdS s (pos + 3 + 1) = wdS s (pos + 3) := wdS_skip (by have := h7 (by omega); omega)
      rw [e]; exact s3.trans (s2.trans (s1.trans s0))
def openW (s : ByteArray) (pos : Nat) : Option Nat := if (wdS s pos).2 < pos then some (wdS s pos).2 else none
theorem open_some {s : ByteArray} {pos a : Nat} (h : openW s pos = some a) : (wdS s pos).2 = a ∧ a < pos := by
  unfold openW at h
  split at h
  · simp only [Option.some.injEq] at h; omega
  · cases h
theorem open_none {s : ByteArray} {pos : Nat} (h : openW s pos = none) : (wdS s pos).2 = pos := by
  have := wdS_le s pos
  unfold openW at h
  split at h
  · cases h
  · omega
theorem closes (s : ByteArray) : Lib.closeSpans s ((wdS s s.size).1, openW s s.size) = (wdS s (s.size + 1)).1 := by
  rw [wdS_cut (Or.inl rfl)]
  unfold Lib.closeSpans openW
  by_cases h : (wdS s s.size).2 < s.size
  · simp only [if_pos h]
  · simp only [if_neg h]
theorem spans_words (s : ByteArray) : ∀ f pos, s.size ≤ pos + f → pos ≤ s.size → Lib.closeSpans s (Lib.spansFromP blankP s f pos (openW s pos) (wdS s pos).1) = (wdS s (s.size + 1)).1
  | 0, pos, h, hp => by
    obtain rfl : pos = s.size := by omega
    exact closes s
  | f + 1, pos, h, hp => by
    by_cases hlt : pos < s.size
    · obtain ⟨hy, hn⟩ := rune_steps s pos hlt
      have hwi := width_in s pos hlt
      have hw1 : 1 ≤ (Utf8.decode s pos).2 := by rw [Lib.decode_at]; exact (decodeN_wide _ _ _ _ _).2.2.1
      have hle := wdS_le s pos
      unfold Lib.spansFromP
      rw [if_pos hlt]
      cases hb : blankP (Utf8.decode s pos).1
      · rw [if_neg (by simp)]
        have e := hn hb
        have ih := spans_words s f (pos + (Utf8.decode s pos).2) (by omega) (by omega)
        rw [e] at ih
        have eo : openW s (pos + (Utf8.decode s pos).2) = some (wdS s pos).2 := by unfold openW; rw [e, if_pos (by omega)]
        rw [eo] at ih
        cases ho : openW s pos with
        | none =>
          have := open_none ho
          rw [this] at ih
          exact ih
        | some a =>
          have := (open_some ho).1
          rw [this] at ih
          exact ih
      · rw [if_pos rfl]
        obtain ⟨h32, hw⟩ := hy hb
        rw [hw]
        have ih := spans_words s f (pos + 1) (by omega) (by omega)
        have e := wdS_cut (s := s) (k := pos) (Or.inr h32)
        have eo : openW s (pos + 1) = none := by unfold openW; rw [e, if_neg (by simp)]
        rw [eo, e] at ih
        cases ho : openW s pos with
        | none =>
          have := open_none ho
          rw [if_neg (by omega)] at ih
          exact ih
        | some a =>
          have := open_some ho
          rw [if_pos (by omega), this.1] at ih
          exact ih
    · obtain rfl : pos = s.size := by omega
      rw [Lib.spansFromP_end _ _ _ _ _ _ hlt]
      exact closes s
theorem words_runes (s : ByteArray) : Lib.goFieldsP blankP s = wordsB s := by
  unfold Lib.goFieldsP Lib.spansOfP wordsB
  have h := spans_words s s.size 0 (by omega) (by omega)
  have e : openW s 0 = none := rfl
  have e1 : (wdS s 0).1 = [] := rfl
  rw [e, e1] at h
  rw [h]
theorem wdS_len (s : ByteArray) : ∀ k, (wdS s k).1.length ≤ (wdS s k).2
  | 0 => Nat.le_refl _
  | k + 1 => by
    have ih := wdS_len s k
    have hl := wdS_le s k
    show (wdStep s k (wdS s k)).1.length ≤ (wdStep s k (wdS s k)).2
    unfold wdStep
    split
    · dsimp only
      split
      · rw [List.length_append, List.length_singleton]; omega
      · omega
    · exact ih
end Go.Proofs.YtneagomkohoceaaDoor

/- Numbers as texts: the digits of a number, the number that digits are, and that the one undoes the other. -/
namespace Go.Proofs.YtneagomkohoceaaDoor
open Go.ChangeShapes Go.WideShapes Go.ChangeAt Go.RowKit
set_option linter.unusedVariables false
set_option linter.unusedSimpArgs false

/-- what the first k signs of a text come to, taken as digits -/
def valS (s : ByteArray) : Nat → Int
  | 0 => 0
  | k + 1 => 10 * valS s k + (byt s k - 48)
def digS (s : ByteArray) (k : Nat) : Prop := ∀ i, i < k → 48 ≤ byt s i ∧ byt s i ≤ 57
/-- digits alone, one to eighteen, no needless nought ahead -/
def isNum (s : ByteArray) : Prop := 1 ≤ s.size ∧ s.size ≤ 18 ∧ (1 < s.size → byt s 0 ≠ 48) ∧ digS s s.size
theorem valS_bd {s : ByteArray} : ∀ k, digS s k → 0 ≤ valS s k ∧ valS s k < 10 ^ k
  | 0, _ => by simp [valS]
  | k + 1, h => by
    have ih := valS_bd k (fun i hi => h i (by omega))
    have hd := h k (by omega)
    simp only [valS, Int.pow_succ]
    omega
theorem pow18 {k : Nat} (h : k ≤ 18) : (10 : Int) ^ k ≤ 1000000000000000000 := by
  have : (10 : Nat) ^ k ≤ 10 ^ 18 := Nat.pow_le_pow_right (by decide) h
  have e : (10 : Nat) ^ 18 = 1000000000000000000 := by decide
  rw [e] at this
  have h2 : ((10 ^ k : Nat) : Int) ≤ ((1000000000000000000 : Nat) : Int) := Int.ofNat_le.2 this
  rw [Int.natCast_pow] at h2
  exact h2
theorem valS_lt {s : ByteArray} {k : Nat} (h : digS s k) (hk : k ≤ 18) : 0 ≤ valS s k ∧ valS s k < 1000000000000000000 := by
  have h1 := valS_bd k h
  have h2 := pow18 hk
  omega
theorem valS_pos {s : ByteArray} (h0 : byt s 0 ≠ 48) : ∀ k, 1 ≤ k → digS s k → 1 ≤ valS s k
  | 1, _, h => by
    have hd := h 0 (by omega)
    simp only [valS]
    omega
  | k + 2, _, h => by
    have ih := valS_pos h0 (k + 1) (by omega) (fun i hi => h i (by omega))
    have hd := h (k + 1) (by omega)
    rw [valS]
    omega
theorem byte_of {s : ByteArray} {k : Nat} (hk : k < s.size) (h : 48 ≤ byt s k ∧ byt s k ≤ 57) (d : Nat) (hd : (d : Int) = byt s k - 48) : s.data.toList.take (k + 1) = s.data.toList.take k ++ [UInt8.ofNat (48 + d)] := by
  have hl : k < s.data.toList.length := by simpa using hk
  rw [List.take_succ_eq_append_getElem hl]
  congr 2
  unfold byt at h hd
  rw [List.getD_eq_getElem?_getD, List.getElem?_eq_getElem hl] at h hd
  simp only [Option.getD_some] at h hd
  apply UInt8.toNat_inj.1
  rw [UInt8.toNat_ofNat']
  have := (s.data.toList[k]).toNat_lt
  omega
/-- the digits of what digits come to are these digits -/
theorem digits_back {s : ByteArray} (hn : 1 < s.size → byt s 0 ≠ 48) (hs : digS s s.size) : ∀ k, 1 ≤ k → k ≤ s.size → Go.Lib.decDigits (valS s k).toNat = s.data.toList.take k
  | 1, _, hk => by
    have hd := hs 0 (by omega)
    have e : valS s 1 = byt s 0 - 48 := by simp [valS]
    rw [Go.Lib.decDigits, dif_pos (by rw [e]; omega), byte_of (by omega) hd (valS s 1).toNat (by rw [e]; omega)]
    rfl
  | k + 2, _, hk => by
    have hd := hs (k + 1) (by omega)
    have ih := digits_back hn hs (k + 1) (by omega) (by omega)
    have hp := valS_pos (hn (by omega)) (k + 1) (by omega) (fun i hi => hs i (by omega))
    have e : valS s (k + 2) = 10 * valS s (k + 1) + (byt s (k + 1) - 48) := rfl
    rw [Go.Lib.decDigits, dif_neg (by rw [e]; omega)]
    have e1 : (valS s (k + 2)).toNat / 10 = (valS s (k + 1)).toNat := by rw [e]; omega
    rw [e1, ih, byte_of (by omega) hd ((valS s (k + 2)).toNat % 10) (by rw [e]; omega)]
theorem num_back {s : ByteArray} (h : isNum s) : (⟨(Go.Lib.decDigits (valS s s.size).toNat).toArray⟩ : ByteArray) = s := by
  rw [digits_back h.2.2.1 h.2.2.2 s.size h.1 (Nat.le_refl _)]
  have hl : s.data.toList.length = s.size := by simp
  rw [← hl, List.take_length]
theorem digS_snoc {s : ByteArray} {k : Nat} (h : digS s k) (hk : 48 ≤ byt s k ∧ byt s k ≤ 57) : digS s (k + 1) := fun i hi => by
  by_cases e : i = k
  · rw [e]; exact hk
  · exact h i (by omega)
theorem not_digS {s : ByteArray} {k n : Nat} (hk : k < n) (h : ¬ (48 ≤ byt s k ∧ byt s k ≤ 57)) : ¬ digS s n := fun hd => h (hd k hk)
instance isNumD (s : ByteArray) : Decidable (isNum s) := by unfold isNum digS; exact inferInstance
end Go.Proofs.YtneagomkohoceaaDoor

/- What spec.l01In answers: whether a number lies between two others; the world stays as it was. -/
namespace Go.Proofs.YtneagomkohoceaaDoor
open Go.ChangeShapes Go.WideShapes Go.ChangeAt Go.RowKit
set_option linter.unusedVariables false

theorem in_spec (n a b : Int) (w : World) : Calls Tryd.prog 58 #[.int .i64 n, .int .i64 a, .int .i64 b] w fun e w' => e = .returned (.bool (inB n a b)) ∧ w' = w := by
  go_enter Tryd.func58, Tryd.ntmps58
  go_wp2
  all_goals go_ret
  all_goals exact ⟨ret_bool (by rw [Bool.eq_iff_iff]; simp [inB]; try omega), rfl⟩
end Go.Proofs.YtneagomkohoceaaDoor
