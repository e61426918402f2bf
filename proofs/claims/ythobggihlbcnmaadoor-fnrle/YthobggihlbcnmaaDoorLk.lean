/- The runs of a text, as plain lists: what is told of each of them, one behind the other, is the text compressed. -/
import Derived.Test.YthobggihlbcnmaaDoorLg
import Derived.Test.YthobggihlbcnmaaDoorLi
namespace Go.Proofs.YthobggihlbcnmaaDoor
open Go.ChangeShapes Go.WideShapes Go.ChangeAt Go.RowKit
set_option linter.unusedVariables false
set_option linter.unusedSimpArgs false

theorem runH_some : ∀ (f n : Nat) (b : Int) (L : List Int), n ≤ f → L.head? ≠ some b → runH f b (List.replicate n b ++ L) = n
  | 0, n, b, L, h, _ => by
    obtain rfl : n = 0 := by omega
    rfl
  | f + 1, 0, b, [], h, _ => rfl
  | f + 1, 0, b, x :: L, h, hh => by
    have : x ≠ b := fun e => hh (by rw [e]; rfl)
    show (if x = b then _ else 0) = 0
    rw [if_neg this]
  | f + 1, n + 1, b, L, h, hh => by
    rw [List.replicate_succ, List.cons_append]
    show (if b = b then _ else 0) = n + 1
    rw [if_pos rfl, runH_some f n b L (by omega) hh]
theorem cmpE_short : ∀ (n : Nat) (b : Int) (L : List Int), n ≤ 4 → b ≠ 237 → L.head? ≠ some b → cmpE (List.replicate n b ++ L) = List.replicate n b ++ cmpE L
  | 0, b, L, _, _, _ => rfl
  | n + 1, b, L, h, hb, hh => by
    have hr := runH_some 255 (n + 1) b L (by omega) hh
    rw [List.replicate_succ, List.cons_append] at hr ⊢
    rw [cmpE_one (by rw [hr]; omega) hb, cmpE_short n b L (by omega) hb hh]
    rfl
/-- behind a run of fewer than 255 stands another byte, or none -/
theorem runT_head {t : ByteArray} {i : Nat} (h : runT t i < 255) : ((bts t).drop (i + runT t i)).head? ≠ some (byt t i) := by
  have key : ∀ (f : Nat) (b : Int) (L : List Int), runH f b L < f → (L.drop (runH f b L)).head? ≠ some b := by
    intro f
    induction f with
    | zero => intro b L h; omega
    | succ f ih =>
      intro b L h
      cases L with
      | nil => simp [runH]
      | cons x L =>
        by_cases hx : x = b
        · have e : runH (f + 1) b (x :: L) = runH f b L + 1 := by
            show (if x = b then _ else 0) = _
            rw [if_pos hx]
          rw [e] at h ⊢
          rw [List.drop_succ_cons]
          exact ih b L (by omega)
        · have e : runH (f + 1) b (x :: L) = 0 := by
            show (if x = b then _ else 0) = _
            rw [if_neg hx]
          rw [e, List.drop_zero]
          intro h2
          exact hx (Option.some.inj h2)
  have := key 255 (byt t i) ((bts t).drop i) h
  rw [List.drop_drop] at this
  exact this
/-- what is still to come: behind a lone mark the next byte stands for itself -/
def restR (t : ByteArray) (i : Nat) (fl : Bool) : List Int := if fl = true then ((bts t).drop i).take 1 ++ cmpE ((bts t).drop (i + 1)) else cmpE ((bts t).drop i)
def moN (fl : Bool) : Nat := if fl = true then 1 else 255
def runN (t : ByteArray) (i : Nat) (fl : Bool) : Nat := if fl = true then 1 else runT t i
theorem pkL_len (b : Int) {n : Nat} (h : 1 ≤ n) : (pkL b n).length ≤ 4 * n := by
  unfold pkL
  split
  · simp; omega
  · simp; omega
theorem run_found {t : ByteArray} {i m : Nat} {fl : Bool} (hi : i < t.size) (hm : m = min (moN fl) (t.size - i)) : runH m (byt t i) ((bts t).drop i) = runN t i fl := by
  unfold runN moN at *
  cases fl
  · simp only [Bool.false_eq_true, if_false] at hm ⊢
    unfold runT
    rw [← runH_min 255, List.length_drop, bts_len, hm]
  · simp only [if_true] at hm ⊢
    obtain rfl : m = 1 := by omega
    rw [bts_drop t hi]
    show (if byt t i = byt t i then _ else 0) = 1
    rw [if_pos rfl]
    rfl
theorem run_next {t : ByteArray} {i : Nat} {fl : Bool} (hi : i < t.size) (hfl : fl = true → byt t i ≠ 237) :
    restR t i fl = pkL (byt t i) (runN t i fl) ++ restR t (i + runN t i fl) (decide (byt t i = 237 ∧ runN t i fl = 1)) ∧ (decide (byt t i = 237 ∧ runN t i fl = 1) = true → i + runN t i fl < t.size → byt t (i + runN t i fl) ≠ 237) ∧ 1 ≤ runN t i fl ∧ runN t i fl ≤ 255 ∧ i + runN t i fl ≤ t.size := by
  cases fl
  · have hR : runN t i false = runT t i := rfl
    obtain ⟨r1, r2, r3⟩ := runT_bd t i hi
    rw [hR]
    refine ⟨?_, ?_, r1, r2, r3⟩
    · show cmpE ((bts t).drop i) = _
      by_cases h1 : 5 ≤ runT t i ∨ (byt t i = 237 ∧ 2 ≤ runT t i)
      · have hp : pkB (byt t i) (runT t i) = true := by
          unfold pkB
          split
          · exact decide_eq_true (by omega)
          · exact decide_eq_true (by omega)
        rw [cmpT_run hi h1, decide_eq_false (by omega)]
        unfold pkL
        rw [if_pos hp]
        rfl
      · have hp : pkB (byt t i) (runT t i) = false := by
          unfold pkB
          split
          · exact decide_eq_false (by omega)
          · exact decide_eq_false (by omega)
        have hpl : pkL (byt t i) (runT t i) = List.replicate (runT t i) (byt t i) := by unfold pkL; rw [if_neg (by rw [hp]; simp)]
        rw [hpl]
        by_cases hb : byt t i = 237
        · have h1' : runT t i = 1 := by omega
          rw [decide_eq_true ⟨hb, h1'⟩, h1']
          show _ = [byt t i] ++ (((bts t).drop (i + 1)).take 1 ++ cmpE ((bts t).drop (i + 1 + 1)))
          by_cases hl : i + 1 < t.size
          · rw [cmpT_two hl hb (by omega), bts_drop t hl, hb]
            rfl
          · rw [cmpT_last (by omega) hb, List.drop_eq_nil_of_le (by rw [bts_len]; omega), List.drop_eq_nil_of_le (by rw [bts_len]; omega), hb]
            rfl
        · rw [decide_eq_false (fun h => hb h.1)]
          have hh := runT_head (t := t) (i := i) (by omega)
          have hrep := runH_rep 255 (byt t i) ((bts t).drop i)
          rw [List.drop_drop] at hrep
          have := cmpE_short (runT t i) (byt t i) ((bts t).drop (i + runT t i)) (by omega) hb hh
          have e : List.replicate (runT t i) (byt t i) ++ (bts t).drop (i + runT t i) = (bts t).drop i := hrep.symm
          rw [e] at this
          exact this
    · intro h hl
      obtain ⟨hb, h1⟩ := of_decide_eq_true h
      have hh := runT_head (t := t) (i := i) (by omega)
      rw [bts_drop t hl, hb] at hh
      intro e
      exact hh (by rw [e]; rfl)
  · have hb := hfl rfl
    have hR : runN t i true = 1 := rfl
    rw [hR, decide_eq_false (fun h => hb h.1)]
    refine ⟨?_, fun h => (by cases h), by omega, by omega, by omega⟩
    have hp : pkL (byt t i) 1 = [byt t i] := by
      unfold pkL pkB
      rw [if_neg hb]
      rfl
    rw [hp]
    show ((bts t).drop i).take 1 ++ cmpE ((bts t).drop (i + 1)) = [byt t i] ++ cmpE ((bts t).drop (i + 1))
    rw [bts_drop t hi]
    rfl
end Go.Proofs.YthobggihlbcnmaaDoor
