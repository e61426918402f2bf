/- Words of a text that is put together of words with single blanks between; digits read back: plain facts. -/
import Derived.Test.YtneagomkohoceaaDoorWoc
import Derived.Test.YtneagomkohoceaaDoorNuc
import Derived.Test.YtneagomkohoceaaDoorIgc
import Derived.Lib.Join
namespace Go.Proofs.YtneagomkohoceaaDoor
open Go.ChangeShapes Go.WideShapes Go.ChangeAt Go.RowKit
set_option linter.unusedVariables false
set_option linter.unusedSimpArgs false

/-- a number below a thousand, its digits written out -/
def dg3 (n : Nat) : List UInt8 := if n < 10 then [UInt8.ofNat (48 + n)] else if n < 100 then [UInt8.ofNat (48 + n / 10), UInt8.ofNat (48 + n % 10)] else [UInt8.ofNat (48 + n / 100), UInt8.ofNat (48 + n / 10 % 10), UInt8.ofNat (48 + n % 10)]
theorem dg3_eq (n : Nat) (h : n < 1000) : Go.Lib.decDigits n = dg3 n := by
  unfold dg3
  by_cases h1 : n < 10
  · rw [if_pos h1, Go.Lib.decDigits, dif_pos h1]
  · rw [if_neg h1, Go.Lib.decDigits.eq_def n, dif_neg h1]
    by_cases h2 : n < 100
    · rw [if_pos h2, Go.Lib.decDigits, dif_pos (by omega)]
      rfl
    · rw [if_neg h2, Go.Lib.decDigits.eq_def (n / 10), dif_neg (by omega), Go.Lib.decDigits, dif_pos (by omega), Nat.div_div_eq_div_mul]
      rfl
def numOK (n : Nat) : Bool :=
  let s : ByteArray := ⟨(dg3 n).toArray⟩
  decide (1 ≤ s.size) && decide (s.size ≤ 18) && (decide (s.size ≤ 1) || decide (byt s 0 ≠ 48)) && ((List.range s.size).all fun i => decide (48 ≤ byt s i ∧ byt s i ≤ 57)) && decide (valS s s.size = n) && ((dg3 n).all fun b => b != 32)
set_option maxRecDepth 100000 in
theorem numOK_all : ∀ n, n < 256 → numOK n = true := by decide +kernel
theorem num_of (n : Nat) (h : n < 256) : isNum (digB n) ∧ valS (digB n) (digB n).size = n ∧ ∀ b ∈ (digB n).data.toList, b ≠ 32 := by
  have e : digB n = ⟨(dg3 n).toArray⟩ := by unfold digB; rw [dg3_eq n (by omega)]
  have hn := numOK_all n h
  rw [e]
  unfold numOK at hn
  simp only [Bool.and_eq_true, Bool.or_eq_true, decide_eq_true_iff, List.all_eq_true, List.mem_range, bne_iff_ne] at hn
  obtain ⟨⟨⟨⟨⟨h1, h2⟩, h3⟩, h4⟩, h5⟩, h6⟩ := hn
  exact ⟨⟨h1, h2, fun hs => h3.resolve_left (by omega), fun i hi => h4 i hi⟩, h5, fun b hb => h6 b hb⟩
/-- a word from place p on, a blank or the end behind it -/
theorem wd_word {s : ByteArray} {p : Nat} {acc : List (Nat × Nat)} (h : wdS s p = (acc, p)) (m : Nat) (hm : 0 < m) (hin : ∀ i, i < m → p + i ≠ s.size ∧ byt s (p + i) ≠ 32) (hend : p + m = s.size ∨ byt s (p + m) = 32) : wdS s (p + m + 1) = (acc ++ [(p, p + m)], p + m + 1) := by
  have hs : ∀ i, i ≤ m → wdS s (p + i) = (acc, p) := by
    intro i
    induction i with
    | zero => intro _; exact h
    | succ i ih =>
      intro hi
      have := ih (by omega)
      obtain ⟨a, b⟩ := hin i (by omega)
      show wdS s (p + i + 1) = _
      rw [wdS_skip (by rintro (h | h); exact a h; exact b h), this]
  have hl := hs m (Nat.le_refl _)
  rw [wdS_cut hend, hl]
  rw [if_pos (show p < p + m by omega)]
theorem wd_blank {s : ByteArray} {p : Nat} {acc : List (Nat × Nat)} (h : wdS s p = (acc, p)) (hb : p = s.size ∨ byt s p = 32) : wdS s (p + 1) = (acc, p + 1) := by
  rw [wdS_cut hb, h]
  simp
def flatW : List (List UInt8) → List UInt8
  | [] => []
  | w :: ws => w ++ [32] ++ flatW ws
theorem byt_list {s : ByteArray} {i : Nat} {b : UInt8} (h : s.data.toList[i]? = some b) : byt s i = (b.toNat : Int) := by
  unfold byt
  rw [List.getD_eq_getElem?_getD, h]
  rfl
theorem ext_list {s : ByteArray} {pre w rest : List UInt8} (h : s.data.toList = pre ++ w ++ rest) : s.extract pre.length (pre.length + w.length) = ⟨w.toArray⟩ := by
  apply ByteArray.ext
  apply Array.ext'
  rw [ByteArray.data_extract, Array.toList_extract, h, List.extract_eq_take_drop, List.append_assoc, List.drop_left, Nat.add_sub_cancel_left, List.take_left]
theorem words_go {s : ByteArray} : ∀ (ws : List (List UInt8)) (pre : List UInt8) (acc : List (Nat × Nat)), s.data.toList = pre ++ flatW ws → wdS s pre.length = (acc, pre.length) → (∀ w ∈ ws, w ≠ [] ∧ ∀ b ∈ w, b ≠ 32) →
    ∃ L, wdS s s.size = (acc ++ L, s.size) ∧ L.map (fun x => s.extract x.1 x.2) = ws.map fun w => (⟨w.toArray⟩ : ByteArray)
  | [], pre, acc, hs, h, _ => by
    have e : s.size = pre.length := by
      have h9 := congrArg List.length hs
      rw [show flatW [] = [] from rfl, List.append_nil] at h9
      exact h9
    exact ⟨[], by rw [e, h, List.append_nil], rfl⟩
  | w :: ws, pre, acc, hs, h, hw => by
    obtain ⟨hne, hnb⟩ := hw w (by simp)
    have hs2 : s.data.toList = pre ++ w ++ ([32] ++ flatW ws) := by rw [hs]; simp [flatW]
    have hsz : s.size = pre.length + w.length + 1 + (flatW ws).length := by
      have h9 := congrArg List.length hs2
      rw [List.length_append, List.length_append, List.length_append] at h9
      have e2 : s.size = s.data.toList.length := rfl
      have e3 : ([32] : List UInt8).length = 1 := rfl
      omega
    have hm : 0 < w.length := List.length_pos_iff.2 hne
    have hin : ∀ i, i < w.length → pre.length + i ≠ s.size ∧ byt s (pre.length + i) ≠ 32 := fun i hi => by
      refine ⟨by omega, ?_⟩
      have e1 : s.data.toList[pre.length + i]? = some w[i] := by
        rw [hs2, List.getElem?_append_left (by simp; omega), List.getElem?_append_right (by omega)]
        simp [hi]
      rw [byt_list e1]
      have := hnb _ (List.getElem_mem hi)
      intro h9
      apply this
      apply UInt8.toNat_inj.1
      have : (w[i]).toNat = 32 := by omega
      rw [this]
      rfl
    have hend : byt s (pre.length + w.length) = 32 := by
      have e1 : s.data.toList[pre.length + w.length]? = some 32 := by
        rw [hs2, List.getElem?_append_right (by simp)]
        simp
      rw [byt_list e1]
      rfl
    have h1 := wd_word h w.length hm hin (.inr hend)
    have hpre : (pre ++ w ++ [32]).length = pre.length + w.length + 1 := by simp; omega
    obtain ⟨L, hL1, hL2⟩ := words_go (s := s) ws (pre ++ w ++ [32]) (acc ++ [(pre.length, pre.length + w.length)]) (by rw [hs2]; simp) (by rw [hpre]; exact h1) (fun x hx => hw x (by simp [hx]))
    refine ⟨(pre.length, pre.length + w.length) :: L, by rw [hL1]; simp, ?_⟩
    rw [List.map_cons, List.map_cons, hL2, ext_list hs2]
/-- the words of a text of words, two blanks ahead and one behind each -/
theorem words_flat (ws : List (List UInt8)) (hw : ∀ w ∈ ws, w ≠ [] ∧ ∀ b ∈ w, b ≠ 32) : wordsB ⟨([32, 32] ++ flatW ws).toArray⟩ = ws.map fun w => (⟨w.toArray⟩ : ByteArray) := by
  have b0 : byt ⟨([32, 32] ++ flatW ws).toArray⟩ 0 = 32 := byt_list (b := 32) (by simp)
  have b1 : byt ⟨([32, 32] ++ flatW ws).toArray⟩ 1 = 32 := byt_list (b := 32) (by simp)
  have h0 : wdS ⟨([32, 32] ++ flatW ws).toArray⟩ 0 = ([], 0) := rfl
  have h1 := wd_blank h0 (.inr b0)
  have h2 := wd_blank h1 (.inr b1)
  obtain ⟨L, hL1, hL2⟩ := words_go (s := ⟨([32, 32] ++ flatW ws).toArray⟩) ws [32, 32] [] (by simp) h2 hw
  have h3 := wd_blank hL1 (.inl rfl)
  unfold wordsB
  rw [h3]
  exact hL2
/-- words with single blanks between, and one behind -/
theorem join_flat : ∀ (ws : List (List UInt8)), ws ≠ [] → Go.Lib.join ws [32] ++ [32] = flatW ws
  | [], h => absurd rfl h
  | [w], _ => by simp [flatW, Go.Lib.join_one]
  | w :: x :: ws, _ => by
    have ih := join_flat (x :: ws) (by simp)
    rw [Go.Lib.join_cons] at ih ⊢
    show _ = w ++ [32] ++ flatW (x :: ws)
    rw [← ih]
    simp [Go.Lib.joinTail]
end Go.Proofs.YtneagomkohoceaaDoor
