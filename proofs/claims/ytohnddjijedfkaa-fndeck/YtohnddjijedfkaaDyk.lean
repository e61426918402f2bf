/- Plain facts of decks of tapes: pulses, their sums, where a run from the beginning comes to. -/
import Derived.Test.YtohnddjijedfkaaDhk
import Derived.Test.YtohnddjijedfkaaDnk
namespace Go.Proofs.Ytohnddjijedfkaa
open Go.ChangeShapes Go.WideShapes Go.ChangeAt Go.RowKit
set_option linter.unusedVariables false
set_option linter.unusedSimpArgs false

theorem pls_mem {F : Int} {D : ByteArray} {x : Int} (h : x ∈ plsB F D) : 1 ≤ x ∧ x ≤ 48 := by
  unfold plsB headL dbl at h
  rcases List.mem_append.1 h with h | h
  · rcases List.mem_append.1 h with h | h
    · have := List.eq_of_mem_replicate h
      omega
    · simp at h
      omega
  · obtain ⟨b, hb, hx⟩ := List.mem_flatMap.1 h
    obtain ⟨j, hj, e⟩ := List.getElem_of_mem hb
    rw [bitL_len] at hj
    have h1 := bitL_at (bytB F D) (8 * (bytB F D).size) j hj
    have h2 := bitN_lt (bytB F D) j
    have h3 : b = (bitN (bytB F D) j : Nat) := by
      rw [← h1, List.getD_eq_getElem?_getD, List.getElem?_eq_getElem (by rw [bitL_len]; exact hj), ← e]
      rfl
    have hx2 : x = pulB b := by simpa using hx
    unfold pulB at hx2
    omega
theorem sum_le {c : Int} (hc : 0 ≤ c) : ∀ {P : List Int}, (∀ x ∈ P, x ≤ c) → P.sum ≤ c * (P.length : Int)
  | [], _ => by simp
  | x :: P, h => by
    have h1 := h x (List.mem_cons_self ..)
    have h2 := sum_le hc (P := P) (fun y hy => h y (List.mem_cons_of_mem _ hy))
    rw [List.sum_cons, List.length_cons, Int.natCast_add, Int.mul_add]
    simp
    omega
theorem tpN_mem {l : List (Int × ByteArray)} : ∀ k, ∀ x ∈ tpN l k, 1 ≤ x ∧ x ≤ 200
  | 0, x, h => by cases h
  | k + 1, x, h => by
    rcases List.mem_append.1 (show x ∈ tpN l k ++ plsB (l.getD k bkz).1 (l.getD k bkz).2 ++ [200] from h) with h | h
    · rcases List.mem_append.1 h with h | h
      · exact tpN_mem k x h
      · have := pls_mem h
        omega
    · simp at h
      omega
theorem tpN_sum {l : List (Int × ByteArray)} (h : allL l = true) : ∀ k, k ≤ l.length → (tpN l k).sum ≤ 33320 * (k : Int)
  | 0, _ => by simp [tpN]
  | k + 1, hk => by
    have h1 := tpN_sum h k (by omega)
    have h2 := ((okB_iff _ _).1 (allL_at h (show k < l.length by omega))).2
    have h3 := pilN_le (l.getD k bkz).1
    have h4 := sum_le (c := 48) (by omega) (P := plsB (l.getD k bkz).1 (l.getD k bkz).2) (fun x hx => (pls_mem hx).2)
    rw [plsB_len] at h4
    show (tpN l k ++ plsB (l.getD k bkz).1 (l.getD k bkz).2 ++ [200]).sum ≤ _
    rw [List.sum_append, List.sum_append, show ([200] : List Int).sum = 200 from rfl]
    omega
theorem sumN_take (P : List Int) : ∀ k, k ≤ P.length → sumN P k = (P.take k).sum
  | 0, _ => by simp [sumN]
  | k + 1, hk => by
    show sumN P k + P.getD k 0 = _
    rw [sumN_take P k (by omega), List.take_succ_eq_append_getElem (by omega), List.sum_append, List.getD_eq_getElem?_getD, List.getElem?_eq_getElem (show k < P.length by omega)]
    simp
theorem sumN_all (P : List Int) : sumN P P.length = P.sum := by rw [sumN_take P _ (Nat.le_refl _), List.take_length]
theorem allP_of {P : List Int} (h : ∀ x ∈ P, 1 ≤ x ∧ x ≤ 1000) : allP P = true := List.all_eq_true.2 (fun x hx => in_yes (h x hx).1 (h x hx).2)
/-- the tape of up to three right blocks -/
theorem tape_facts {l : List (Int × ByteArray)} (h3 : l.length ≤ 3) (hok : ∀ x ∈ l, okB x.1 x.2 = true) :
    tp2 l = (tpN l l.length, 0) ∧ okPl (tpN l l.length) = true ∧ sumN (tpN l l.length) (tpN l l.length).length ≤ 99960 ∧ (tpN l l.length).length ≤ 2073 ∧ (l.length = 0 ↔ (tpN l l.length).length = 0) := by
  have hall : allL l = true := by
    unfold allL
    rw [List.all_eq_true.2 hok, decide_eq_true (by omega)]
    rfl
  have hlen := tpN_len hall l.length (Nat.le_refl _)
  have hsum := tpN_sum hall l.length (Nat.le_refl _)
  refine ⟨by unfold tp2; rw [if_neg (by omega), if_pos hall], ?_, ?_, by omega, ?_⟩
  · unfold okPl
    rw [allP_of (fun x hx => by have := tpN_mem _ x hx; omega), decide_eq_true (by omega)]
    rfl
  · rw [sumN_all]
    omega
  · constructor
    · intro h
      rw [h]
      rfl
    · intro h
      rcases Nat.eq_zero_or_pos l.length with h0 | h0
      · exact h0
      · obtain ⟨k, hk⟩ : ∃ k, l.length = k + 1 := ⟨l.length - 1, by omega⟩
        rw [hk] at h
        have : (tpN l k ++ plsB (l.getD k bkz).1 (l.getD k bkz).2 ++ [200]).length = 0 := h
        simp at this
/-- playing, at a pulse's beginning (or, behind the last, stopped) -/
def stD (T : List Int) (i : Nat) (lv : Bool) : Dk := ⟨T, (i : Int), if i < T.length then T.getD i 0 else 0, lv, decide (i < T.length)⟩
theorem stD_edge {T : List Int} {i : Nat} (h : i < T.length) (lv : Bool) : (stD T i lv).edge = stD T (i + 1) (!lv) := by
  have e1 : (stD T i lv).edge = ⟨T, (i : Int) + 1, if (i : Int) + 1 < (T.length : Int) then T.getD ((i : Int) + 1).toNat 0 else 0, !lv, decide ((i : Int) + 1 < (T.length : Int))⟩ := rfl
  rw [e1]
  unfold stD
  have e2 : ((i : Int) + 1).toNat = i + 1 := by omega
  rw [e2]
  by_cases hh : i + 1 < T.length
  · rw [if_pos (by omega), if_pos hh, decide_eq_true (by omega), decide_eq_true hh]
    rfl
  · rw [if_neg (by omega), if_neg hh, decide_eq_false (by omega), decide_eq_false hh]
    rfl
theorem stD_ok {T : List Int} (hT : okPl T = true) {i : Nat} (h : i ≤ T.length) (lv : Bool) : (stD T i lv).ok = true := by
  refine (Dk.ok_iff _).2 ⟨hT, ⟨by show (0 : Int) ≤ (i : Int); omega, by show (i : Int) ≤ (T.length : Int); omega⟩, ?_⟩
  by_cases hh : i < T.length
  · have hb := ((okPl_iff T).1 hT).1 i hh
    refine .inr ⟨by show ¬ (i : Int) = (T.length : Int); omega, ?_, ?_⟩
    · show 1 ≤ (if i < T.length then T.getD i 0 else 0)
      rw [if_pos hh]; exact hb.1
    · show (if i < T.length then T.getD i 0 else 0) ≤ T.getD (i : Int).toNat 0
      rw [if_pos hh, Int.toNat_natCast]
      exact Int.le_refl _
  · refine .inl ⟨by show (i : Int) = (T.length : Int); omega, ?_, ?_⟩
    · show (if i < T.length then T.getD i 0 else 0) = 0
      rw [if_neg hh]
    · show decide (i < T.length) = false
      exact decide_eq_false hh
theorem sumN_mono {T : List Int} (hT : okPl T = true) {i k : Nat} (h : i ≤ k) (hk : k ≤ T.length) : sumN T i ≤ sumN T k := by
  induction k with
  | zero =>
    obtain rfl : i = 0 := by omega
    exact Int.le_refl _
  | succ k ih =>
    by_cases e : i = k + 1
    · rw [e]; exact Int.le_refl _
    · have := ih (by omega) (by omega)
      have hb := ((okPl_iff T).1 hT).1 k (by omega)
      show sumN T i ≤ sumN T k + T.getD k 0
      omega
/-- a run from a pulse's beginning to another's -/
theorem run_to {T : List Int} (hT : okPl T = true) (k : Nat) (hk : k ≤ T.length) : ∀ (m i f : Nat) (lv : Bool) (e : Int), i + m = k → m < f → runD f (stD T i lv) (sumN T k - sumN T i) e = (stD T k (lv ^^ decide (m % 2 = 1)), e + (m : Int)) := by
  intro m
  induction m with
  | zero =>
    intro i f lv e hi hf
    obtain rfl : i = k := by omega
    obtain ⟨f, rfl⟩ : ∃ f', f = f' + 1 := ⟨f - 1, by omega⟩
    unfold runD
    rw [if_neg (fun h => by have := h.2; omega)]
    simp
  | succ m ih =>
    intro i f lv e hi hf
    obtain ⟨f, rfl⟩ : ∃ f', f = f' + 1 := ⟨f - 1, by omega⟩
    have hlt : i < T.length := by omega
    have hb := ((okPl_iff T).1 hT).1 i hlt
    have hm := sumN_mono hT (show i + 1 ≤ k by omega) hk
    have hs : sumN T (i + 1) = sumN T i + T.getD i 0 := rfl
    have hl : (stD T i lv).left = T.getD i 0 := if_pos hlt
    have hp : (stD T i lv).plays = true := decide_eq_true hlt
    unfold runD
    rw [if_pos ⟨hp, by omega⟩, if_neg (by rw [hl]; omega), stD_edge hlt, hl]
    have e1 : sumN T k - sumN T i - T.getD i 0 = sumN T k - sumN T (i + 1) := by omega
    rw [e1, ih (i + 1) f (!lv) (e + 1) (by omega) (by omega)]
    have e2 : (!lv ^^ decide (m % 2 = 1)) = (lv ^^ decide ((m + 1) % 2 = 1)) := by
      rcases Nat.mod_two_eq_zero_or_one m with h | h
      · have h2 : (m + 1) % 2 = 1 := by omega
        rw [h, h2]
        cases lv <;> rfl
      · have h2 : (m + 1) % 2 = 0 := by omega
        rw [h, h2]
        cases lv <;> rfl
    rw [e2]
    have e3 : e + 1 + (m : Int) = e + ((m + 1 : Nat) : Int) := by omega
    rw [e3]
/-- all of a tape's edges -/
theorem run_prefix {T : List Int} (hT : okPl T = true) {k : Nat} (hk : k ≤ T.length) : run2 (stD T 0 false) (sumN T k) = (stD T k (decide (k % 2 = 1)), (k : Int)) := by
  have h := run_to hT k hk k 0 (T.length + 1) false 0 (by omega) (by omega)
  rw [show sumN T k - sumN T 0 = sumN T k from Int.sub_zero _] at h
  show runD (T.length + 1) (stD T 0 false) (sumN T k) 0 = _
  rw [h]
  simp
/-- one T ahead of the last edge -/
theorem run_last {T : List Int} (hT : okPl T = true) (h0 : 0 < T.length) : run2 (stD T 0 false) (sumN T T.length - 1) = (⟨T, (T.length : Int) - 1, 1, decide ((T.length - 1) % 2 = 1), true⟩, (T.length : Int) - 1) := by
  obtain ⟨k, hk⟩ : ∃ k, T.length = k + 1 := ⟨T.length - 1, by omega⟩
  have hb := ((okPl_iff T).1 hT).1 k (by omega)
  have hs : sumN T T.length = sumN T k + T.getD k 0 := by rw [hk]; rfl
  have h1 := run_prefix hT (show k ≤ T.length by omega)
  have hsk := sumN_mono hT (Nat.zero_le k) (by omega)
  have hsk0 : (0 : Int) ≤ sumN T k := hsk
  have h2 := runD_two (T.length + 1) (stD T 0 false) (sumN T k) (T.getD k 0 - 1) (stD_ok hT (by omega) false) (by show (T.length : Int) - ((0 : Nat) : Int) < _; omega) hsk0 (by omega)
  have e1 : sumN T k + (T.getD k 0 - 1) = sumN T T.length - 1 := by omega
  rw [e1] at h2
  show runD (T.length + 1) (stD T 0 false) (sumN T T.length - 1) 0 = _
  rw [h2]
  have h1' : runD (T.length + 1) (stD T 0 false) (sumN T k) 0 = (stD T k (decide (k % 2 = 1)), (k : Int)) := h1
  rw [h1']
  have e2 : stD T k (decide (k % 2 = 1)) = ⟨T, (k : Int), T.getD k 0, decide (k % 2 = 1), true⟩ := by
    unfold stD
    rw [if_pos (by omega), decide_eq_true (show k < T.length by omega)]
  have e3 : runD (T.length + 1) ⟨T, (k : Int), T.getD k 0, decide (k % 2 = 1), true⟩ (T.getD k 0 - 1) 0 = (⟨T, (k : Int), 1, decide (k % 2 = 1), true⟩, 0) := by
    by_cases hp : 0 < T.getD k 0 - 1
    · unfold runD
      rw [if_pos ⟨rfl, hp⟩, if_pos (by show T.getD k 0 - 1 < T.getD k 0; omega)]
      show ((⟨T, (k : Int), T.getD k 0 - (T.getD k 0 - 1), decide (k % 2 = 1), true⟩ : Dk), (0 : Int)) = _
      rw [show T.getD k 0 - (T.getD k 0 - 1) = 1 by omega]
    · rw [runD_stop (fun h => hp h.2)]
      rw [show T.getD k 0 = 1 by omega]
  show ((runD (T.length + 1) (stD T k (decide (k % 2 = 1))) (T.getD k 0 - 1) 0).1, (k : Int) + (runD (T.length + 1) (stD T k (decide (k % 2 = 1))) (T.getD k 0 - 1) 0).2) = _
  rw [e2, e3]
  have e4 : (T.length : Int) - 1 = (k : Int) := by omega
  have e5 : T.length - 1 = k := by omega
  rw [e4, e5, Int.add_zero]
/-- the last edge -/
theorem run_end {T : List Int} (h0 : 0 < T.length) (lv : Bool) : run2 ⟨T, (T.length : Int) - 1, 1, lv, true⟩ 1 = (stD T T.length (!lv), 1) := by
  show runD (T.length + 1) ⟨T, (T.length : Int) - 1, 1, lv, true⟩ 1 0 = _
  have e1 : (Dk.mk T ((T.length : Int) - 1) 1 lv true).edge = stD T T.length (!lv) := by
    have e : (Dk.mk T ((T.length : Int) - 1) 1 lv true).edge = ⟨T, (T.length : Int) - 1 + 1, if (T.length : Int) - 1 + 1 < (T.length : Int) then T.getD ((T.length : Int) - 1 + 1).toNat 0 else 0, !lv, decide ((T.length : Int) - 1 + 1 < (T.length : Int))⟩ := rfl
    rw [e]
    unfold stD
    rw [if_neg (by omega), if_neg (by omega), decide_eq_false (by omega), decide_eq_false (by omega), show (T.length : Int) - 1 + 1 = (T.length : Int) by omega]
  obtain ⟨k, hk⟩ : ∃ k, T.length = k + 1 := ⟨T.length - 1, by omega⟩
  unfold runD
  rw [if_pos ⟨rfl, by omega⟩, if_neg (by show ¬ (1 : Int) < 1; omega), e1]
  show runD T.length (stD T T.length (!lv)) (1 - 1) (0 + 1) = _
  rw [hk]
  unfold runD
  rw [if_neg (fun h => by have := h.2; omega)]
  rfl
end Go.Proofs.Ytohnddjijedfkaa
