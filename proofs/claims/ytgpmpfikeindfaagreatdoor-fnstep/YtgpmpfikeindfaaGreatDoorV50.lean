/- Runs, as plain lists of bytes: how they are compressed and expanded; what is compressed is expanded to what it was. -/
import Derived.Test.YtgpmpfikeindfaaGreatDoorV00
import Derived.Deep.QuietTactic
import Derived.BigQuiet
import Derived.OwnWalk
import Derived.Deep.AppendLies
import Derived.Deep.DeepCutAuto
import Derived.Lib.ConvBytes
namespace Go.Proofs.YtgpmpfikeindfaaGreatDoor
set_option linter.unusedVariables false
set_option linter.unusedSimpArgs false

/-- how often b stands at the beginning, at most f times -/
def runH : Nat → Int → List Int → Nat
  | 0, _, _ => 0
  | _ + 1, _, [] => 0
  | f + 1, b, x :: L => if x = b then runH f b L + 1 else 0
theorem runH_le : ∀ (f : Nat) (b : Int) (L : List Int), runH f b L ≤ f ∧ runH f b L ≤ L.length
  | 0, _, _ => ⟨Nat.le_refl _, Nat.zero_le _⟩
  | f + 1, b, [] => ⟨Nat.zero_le _, Nat.le_refl _⟩
  | f + 1, b, x :: L => by
    unfold runH
    split
    · have := runH_le f b L
      exact ⟨by omega, by simp; omega⟩
    · exact ⟨Nat.zero_le _, Nat.zero_le _⟩
theorem runH_rep : ∀ (f : Nat) (b : Int) (L : List Int), L = List.replicate (runH f b L) b ++ L.drop (runH f b L)
  | 0, _, _ => rfl
  | f + 1, b, [] => rfl
  | f + 1, b, x :: L => by
    unfold runH
    split
    · rename_i h
      rw [List.replicate_succ, List.drop_succ_cons, List.cons_append, ← runH_rep f b L, h]
    · rfl
theorem runH_pos {f : Nat} {b : Int} {L : List Int} : 1 ≤ runH (f + 1) b (b :: L) := by
  unfold runH
  rw [if_pos rfl]
  omega
/-- compressed: f rounds are enough -/
def cmpL : Nat → List Int → List Int
  | 0, _ => []
  | _ + 1, [] => []
  | f + 1, b :: L =>
    if 5 ≤ runH 255 b (b :: L) ∨ (b = 237 ∧ 2 ≤ runH 255 b (b :: L)) then [237, 237, (runH 255 b (b :: L) : Int), b] ++ cmpL f ((b :: L).drop (runH 255 b (b :: L)))
    else if b = 237 then (match L with | [] => [b] | c :: M => b :: c :: cmpL f M) else b :: cmpL f L
theorem cmpL_cons (f : Nat) (b : Int) (L : List Int) : cmpL (f + 1) (b :: L) = if 5 ≤ runH 255 b (b :: L) ∨ (b = 237 ∧ 2 ≤ runH 255 b (b :: L)) then [237, 237, (runH 255 b (b :: L) : Int), b] ++ cmpL f ((b :: L).drop (runH 255 b (b :: L))) else if b = 237 then (match L with | [] => [b] | c :: M => b :: c :: cmpL f M) else b :: cmpL f L := rfl
/-- expanded to n bytes: f rounds are enough -/
def expL (n : Nat) : Nat → List Int → List Int → List Int × Int
  | 0, _, out => if out.length = n then (out, 0) else ([], 8)
  | _ + 1, [], out => if out.length = n then (out, 0) else ([], 8)
  | f + 1, x :: L, out =>
    if x = 237 ∧ L.head? = some 237 then
      (match L with
        | _ :: k :: b :: M => if n < (out ++ List.replicate k.toNat b).length then ([], 8) else expL n f M (out ++ List.replicate k.toNat b)
        | _ => ([], 9))
    else if n < (out ++ [x]).length then ([], 8) else expL n f L (out ++ [x])
theorem expL_nil (n f : Nat) (out : List Int) : expL n f [] out = if out.length = n then (out, 0) else ([], 8) := by cases f <;> rfl
theorem expL_cons (n f : Nat) (x : Int) (L out : List Int) : expL n (f + 1) (x :: L) out = (if x = 237 ∧ L.head? = some 237 then
      (match L with
        | _ :: k :: b :: M => if n < (out ++ List.replicate k.toNat b).length then ([], 8) else expL n f M (out ++ List.replicate k.toNat b)
        | _ => ([], 9))
    else if n < (out ++ [x]).length then ([], 8) else expL n f L (out ++ [x])) := rfl
/-- enough rounds are enough -/
theorem expL_more (n : Nat) : ∀ (f g : Nat) (L out : List Int), L.length ≤ f → L.length ≤ g → expL n f L out = expL n g L out
  | 0, g, L, out, hf, _ => by
    obtain rfl : L = [] := List.length_eq_zero_iff.1 (by omega)
    rw [expL_nil, expL_nil]
  | f + 1, g, [], out, _, _ => by rw [expL_nil, expL_nil]
  | f + 1, g, x :: L, out, hf, hg => by
    simp only [List.length_cons] at hf hg
    obtain ⟨g, rfl⟩ : ∃ g', g = g' + 1 := ⟨g - 1, by omega⟩
    rw [expL_cons, expL_cons]
    by_cases h : x = 237 ∧ L.head? = some 237
    · rw [if_pos h, if_pos h]
      match L, hf, hg with
      | _ :: k :: b :: M, hf, hg =>
        simp only [List.length_cons] at hf hg
        show (if _ then _ else _) = (if _ then _ else _)
        rw [expL_more n f g M _ (by omega) (by omega)]
      | [], _, _ => rfl
      | [_], _, _ => rfl
      | [_, _], _, _ => rfl
    · rw [if_neg h, if_neg h, expL_more n f g L _ (by omega) (by omega)]
def expE (n : Nat) (L out : List Int) : List Int × Int := expL n L.length L out
theorem expE_nil (n : Nat) (out : List Int) : expE n [] out = if out.length = n then (out, 0) else ([], 8) := rfl
theorem expE_cons (n : Nat) (x : Int) (L out : List Int) (h : ¬ (x = 237 ∧ L.head? = some 237)) : expE n (x :: L) out = if n < out.length + 1 then ([], 8) else expE n L (out ++ [x]) := by
  show expL n (L.length + 1) (x :: L) out = _
  rw [expL_cons, if_neg h, List.length_append]
  rfl
theorem expE_run (n : Nat) (k b : Int) (M out : List Int) : expE n (237 :: 237 :: k :: b :: M) out = if n < out.length + k.toNat then ([], 8) else expE n M (out ++ List.replicate k.toNat b) := by
  show expL n ((237 :: k :: b :: M).length + 1) (237 :: 237 :: k :: b :: M) out = _
  rw [expL_cons, if_pos ⟨rfl, rfl⟩]
  show (if n < (out ++ List.replicate k.toNat b).length then _ else expL n (237 :: k :: b :: M).length M (out ++ List.replicate k.toNat b)) = _
  rw [expL_more n _ M.length M _ (by simp; omega) (Nat.le_refl _), List.length_append, List.length_replicate]
  rfl
theorem expE_cut (n : Nat) (L out : List Int) (h : L.length < 2) : expE n (237 :: 237 :: L) out = ([], 9) := by
  show expL n ((237 :: L).length + 1) (237 :: 237 :: L) out = _
  rw [expL_cons, if_pos ⟨rfl, rfl⟩]
  match L, h with
  | [], _ => rfl
  | [_], _ => rfl
/-- what is compressed is expanded to what it was -/
theorem exp_cmp (n : Nat) : ∀ (f : Nat) (L out : List Int), L.length ≤ f → out.length + L.length ≤ n → expE n (cmpL f L) out = if (out ++ L).length = n then (out ++ L, 0) else ([], 8)
  | 0, L, out, hf, _ => by
    obtain rfl : L = [] := List.length_eq_zero_iff.1 (by omega)
    show expE n [] out = _
    rw [expE_nil, List.append_nil]
  | f + 1, [], out, _, _ => by
    show expE n [] out = _
    rw [expE_nil, List.append_nil]
  | f + 1, b :: L, out, hf, hn => by
    simp only [List.length_cons] at hf hn
    have hle := runH_le 255 b (b :: L)
    have hpos : 1 ≤ runH 255 b (b :: L) := runH_pos
    have hrep := runH_rep 255 b (b :: L)
    simp only [List.length_cons] at hle
    rw [cmpL_cons]
    by_cases hr : 5 ≤ runH 255 b (b :: L) ∨ (b = 237 ∧ 2 ≤ runH 255 b (b :: L))
    · rw [if_pos hr]
      have hr2 : 2 ≤ runH 255 b (b :: L) := by omega
      obtain ⟨m, hm⟩ : ∃ m, runH 255 b (b :: L) = m := ⟨_, rfl⟩
      rw [hm] at hle hrep hr2 ⊢
      obtain ⟨R, hR⟩ : ∃ R, (b :: L).drop m = R := ⟨_, rfl⟩
      have hRl : R.length = L.length + 1 - m := by rw [← hR, List.length_drop, List.length_cons]
      rw [hR] at hrep ⊢
      have ek : ((m : Nat) : Int).toNat = m := by omega
      show expE n (237 :: 237 :: (m : Int) :: b :: cmpL f R) out = _
      rw [expE_run, ek, if_neg (by omega), exp_cmp n f R (out ++ List.replicate m b) (by omega) (by rw [List.length_append, List.length_replicate]; omega), List.append_assoc, ← hrep]
    · rw [if_neg hr]
      by_cases hb : b = 237
      · rw [if_pos hb]
        have hr1 : runH 255 b (b :: L) = 1 := by
          have : ¬ (b = 237 ∧ 2 ≤ runH 255 b (b :: L)) := fun h => hr (.inr h)
          have : ¬ 2 ≤ runH 255 b (b :: L) := fun h => this ⟨hb, h⟩
          omega
        match L, hf, hn, hr1 with
        | [], _, hn, _ =>
          show expE n [b] out = _
          rw [expE_cons n b [] out (fun h => by cases h.2), if_neg (by simp at hn; omega), expE_nil]
        | c :: M, hf, hn, hr1 =>
          simp only [List.length_cons] at hf hn
          have hc : c ≠ b := by
            intro hc
            have : runH 255 b (b :: c :: M) = runH 254 b (c :: M) + 1 := by
              show (if b = b then runH 254 b (c :: M) + 1 else 0) = _
              rw [if_pos rfl]
            have h2 : runH 254 b (c :: M) = runH 253 b M + 1 := by
              show (if c = b then runH 253 b M + 1 else 0) = _
              rw [if_pos hc]
            omega
          show expE n (b :: c :: cmpL f M) out = _
          rw [expE_cons n b _ out (fun h => hc (by have := h.2; simp at this; rw [this, hb])), if_neg (by omega), expE_cons n c _ _ (fun h => hc (by rw [h.1, hb])), if_neg (by simp; omega), exp_cmp n f M _ (by omega) (by simp; omega)]
          simp
      · rw [if_neg hb, expE_cons n b _ out (fun h => hb h.1), if_neg (by omega), exp_cmp n f L _ (by omega) (by simp; omega)]
        simp
/-- not longer than twice -/
theorem cmp_len : ∀ (f : Nat) (L : List Int), (cmpL f L).length ≤ 2 * L.length
  | 0, L => Nat.zero_le _
  | f + 1, [] => Nat.zero_le _
  | f + 1, b :: L => by
    have hle := runH_le 255 b (b :: L)
    simp only [List.length_cons] at hle
    rw [cmpL_cons]
    by_cases hr : 5 ≤ runH 255 b (b :: L) ∨ (b = 237 ∧ 2 ≤ runH 255 b (b :: L))
    · rw [if_pos hr]
      have := cmp_len f ((b :: L).drop (runH 255 b (b :: L)))
      rw [List.length_drop] at this
      simp only [List.length_append, List.length_cons, List.length_nil] at this ⊢
      omega
    · rw [if_neg hr]
      by_cases hb : b = 237
      · rw [if_pos hb]
        match L with
        | [] => simp
        | c :: M =>
          have := cmp_len f M
          simp only [List.length_cons]
          omega
      · rw [if_neg hb]
        have := cmp_len f L
        simp only [List.length_cons]
        omega
end Go.Proofs.YtgpmpfikeindfaaGreatDoor

/- Runs at a place of a text: the specification. -/
namespace Go.Proofs.YtgpmpfikeindfaaGreatDoor
open Go.ChangeShapes Go.WideShapes Go.ChangeAt Go.RowKit
set_option linter.unusedVariables false
set_option linter.unusedSimpArgs false

/-- a text's bytes as numbers -/
def bts (t : ByteArray) : List Int := t.data.toList.map fun b => (b.toNat : Int)
theorem bts_len (t : ByteArray) : (bts t).length = t.size := by simp [bts]
theorem bts_at (t : ByteArray) {k : Nat} (h : k < t.size) : (bts t)[k]? = some (byt t k) := by
  have h' : k < t.data.toList.length := by simpa using h
  unfold bts byt
  rw [List.getElem?_map, List.getElem?_eq_getElem h', List.getD_eq_getElem?_getD, List.getElem?_eq_getElem h']
  rfl
theorem bts_drop (t : ByteArray) {k : Nat} (h : k < t.size) : (bts t).drop k = byt t k :: (bts t).drop (k + 1) := by
  have h' : k < (bts t).length := by rw [bts_len]; exact h
  rw [List.drop_eq_getElem_cons h']
  have := bts_at t h
  rw [List.getElem?_eq_getElem h'] at this
  rw [Option.some.inj this]
theorem bts_all (t : ByteArray) : ∀ x ∈ bts t, 0 ≤ x ∧ x ≤ 255 := by
  intro x hx
  obtain ⟨b, _, rfl⟩ := List.mem_map.1 hx
  have := b.toNat_lt
  omega
theorem str_bts (t : ByteArray) : strOfNums (bts t) = t := by
  have e : (strOfNums (bts t)).data = t.data := by
    apply Array.ext'
    rw [strOfNums_data]
    unfold bts
    rw [List.map_map]
    conv => rhs; rw [← List.map_id t.data.toList]
    apply List.map_congr_left
    intro b _
    simp
  cases h : strOfNums (bts t)
  cases t
  rw [h] at e
  exact congrArg ByteArray.mk e
theorem bts_str {xs : List Int} (h : ∀ x ∈ xs, 0 ≤ x ∧ x ≤ 255) : bts (strOfNums xs) = xs := by
  unfold bts
  rw [strOfNums_data, List.map_map]
  conv => rhs; rw [← List.map_id xs]
  apply List.map_congr_left
  intro x hx
  have := h x hx
  simp
  omega
/-- the run at a place -/
def runT (t : ByteArray) (i : Nat) : Nat := runH 255 (byt t i) ((bts t).drop i)
theorem runT_go {t : ByteArray} {i n : Nat} (hn : n < 255) (h : i + n < t.size) (he : byt t (i + n) = byt t i) : runH (255 - n) (byt t i) ((bts t).drop (i + n)) = runH (255 - (n + 1)) (byt t i) ((bts t).drop (i + (n + 1))) + 1 := by
  rw [bts_drop t h]
  obtain ⟨f, hf⟩ : ∃ f, 255 - n = f + 1 := ⟨254 - n, by omega⟩
  have e : 255 - (n + 1) = f := by omega
  rw [hf, e]
  show (if byt t (i + n) = byt t i then _ else _) = _
  rw [if_pos he]
  rfl
theorem runT_stop {t : ByteArray} {i n : Nat} (h : ¬ n < 255 ∨ ¬ i + n < t.size ∨ (i + n < t.size ∧ byt t (i + n) ≠ byt t i)) : runH (255 - n) (byt t i) ((bts t).drop (i + n)) = 0 := by
  rcases h with h | h | ⟨h1, h2⟩
  · rw [show 255 - n = 0 by omega]
    rfl
  · rw [List.drop_eq_nil_of_le (by rw [bts_len]; omega)]
    cases (255 - n) <;> rfl
  · rw [bts_drop t h1]
    cases (255 - n) with
    | zero => rfl
    | succ f =>
      show (if byt t (i + n) = byt t i then _ else _) = _
      rw [if_neg h2]
theorem runT_bd (t : ByteArray) (i : Nat) (h : i < t.size) : 1 ≤ runT t i ∧ runT t i ≤ 255 ∧ i + runT t i ≤ t.size := by
  have h1 := runH_le 255 (byt t i) ((bts t).drop i)
  rw [List.length_drop, bts_len] at h1
  refine ⟨?_, h1.1, by unfold runT; omega⟩
  unfold runT
  rw [bts_drop t h]
  exact runH_pos
end Go.Proofs.YtgpmpfikeindfaaGreatDoor

/- Runs compressed: the specification. -/
namespace Go.Proofs.YtgpmpfikeindfaaGreatDoor
open Go.ChangeShapes Go.WideShapes Go.ChangeAt Go.RowKit
set_option linter.unusedVariables false
set_option linter.unusedSimpArgs false

theorem cmpL_more : ∀ (f g : Nat) (L : List Int), L.length ≤ f → L.length ≤ g → cmpL f L = cmpL g L
  | 0, g, L, hf, _ => by
    obtain rfl : L = [] := List.length_eq_zero_iff.1 (by omega)
    cases g <;> rfl
  | f + 1, g, [], _, _ => by cases g <;> rfl
  | f + 1, g, b :: L, hf, hg => by
    simp only [List.length_cons] at hf hg
    obtain ⟨g, rfl⟩ : ∃ g', g = g' + 1 := ⟨g - 1, by omega⟩
    rw [cmpL_cons, cmpL_cons]
    have hpos : 1 ≤ runH 255 b (b :: L) := runH_pos
    rw [cmpL_more f g ((b :: L).drop (runH 255 b (b :: L))) (by rw [List.length_drop, List.length_cons]; omega) (by rw [List.length_drop, List.length_cons]; omega), cmpL_more f g L (by omega) (by omega)]
    match L, hf, hg with
    | [], _, _ => rfl
    | c :: M, hf, hg =>
      simp only [List.length_cons] at hf hg
      show (if _ then _ else if b = 237 then b :: c :: cmpL f M else _) = (if _ then _ else if b = 237 then b :: c :: cmpL g M else _)
      rw [cmpL_more f g M (by omega) (by omega)]
def cmpE (L : List Int) : List Int := cmpL L.length L
theorem cmpE_nil : cmpE [] = [] := rfl
theorem cmpE_run {b : Int} {L : List Int} (h : 5 ≤ runH 255 b (b :: L) ∨ (b = 237 ∧ 2 ≤ runH 255 b (b :: L))) : cmpE (b :: L) = [237, 237, (runH 255 b (b :: L) : Int), b] ++ cmpE ((b :: L).drop (runH 255 b (b :: L))) := by
  have hpos : 1 ≤ runH 255 b (b :: L) := runH_pos
  show cmpL (L.length + 1) (b :: L) = _
  rw [cmpL_cons, if_pos h]
  unfold cmpE
  rw [cmpL_more L.length ((b :: L).drop (runH 255 b (b :: L))).length _ (by rw [List.length_drop, List.length_cons]; omega) (Nat.le_refl _)]
theorem cmpE_two {c : Int} {M : List Int} (h : ¬ (5 ≤ runH 255 237 (237 :: c :: M) ∨ 2 ≤ runH 255 237 (237 :: c :: M))) : cmpE (237 :: c :: M) = [237, c] ++ cmpE M := by
  show cmpL ((c :: M).length + 1) (237 :: c :: M) = _
  rw [cmpL_cons, if_neg (fun hh => h (by rcases hh with hh | hh; exact .inl hh; exact .inr hh.2)), if_pos rfl]
  unfold cmpE
  show 237 :: c :: cmpL (c :: M).length M = _
  rw [cmpL_more (c :: M).length M.length M (by simp) (Nat.le_refl _)]
  rfl
theorem cmpE_last : cmpE [237] = [237] := by decide
theorem cmpE_one {b : Int} {L : List Int} (h : ¬ 5 ≤ runH 255 b (b :: L)) (hb : b ≠ 237) : cmpE (b :: L) = [b] ++ cmpE L := by
  show cmpL (L.length + 1) (b :: L) = _
  rw [cmpL_cons, if_neg (fun hh => by rcases hh with hh | hh; exact h hh; exact hb hh.1), if_neg hb]
  rfl
theorem cmpE_len (L : List Int) : (cmpE L).length ≤ 2 * L.length := cmp_len _ _
/-- at a place of a text -/
theorem cmpT_run {t : ByteArray} {i : Nat} (hi : i < t.size) (h : 5 ≤ runT t i ∨ (byt t i = 237 ∧ 2 ≤ runT t i)) : cmpE ((bts t).drop i) = [237, 237, (runT t i : Int), byt t i] ++ cmpE ((bts t).drop (i + runT t i)) := by
  have e : runT t i = runH 255 (byt t i) (byt t i :: (bts t).drop (i + 1)) := by unfold runT; rw [bts_drop t hi]
  have h2 : (bts t).drop (i + runT t i) = (byt t i :: (bts t).drop (i + 1)).drop (runT t i) := by rw [← bts_drop t hi, List.drop_drop]
  rw [h2, bts_drop t hi, e]
  rw [e] at h
  exact cmpE_run h
theorem cmpT_one {t : ByteArray} {i : Nat} (hi : i < t.size) (h : ¬ 5 ≤ runT t i) (hb : byt t i ≠ 237) : cmpE ((bts t).drop i) = [byt t i] ++ cmpE ((bts t).drop (i + 1)) := by
  have e : runT t i = runH 255 (byt t i) (byt t i :: (bts t).drop (i + 1)) := by unfold runT; rw [bts_drop t hi]
  rw [bts_drop t hi]
  rw [e] at h
  exact cmpE_one h hb
theorem cmpT_two {t : ByteArray} {i : Nat} (hi : i + 1 < t.size) (hb : byt t i = 237) (h : ¬ 2 ≤ runT t i) : cmpE ((bts t).drop i) = [237, byt t (i + 1)] ++ cmpE ((bts t).drop (i + 1 + 1)) := by
  have e : runT t i = runH 255 (byt t i) (byt t i :: (bts t).drop (i + 1)) := by unfold runT; rw [bts_drop t (by omega)]
  rw [bts_drop t (show i < t.size by omega), bts_drop t hi, hb]
  rw [e, bts_drop t hi, hb] at h
  exact cmpE_two (fun hh => h (by rcases hh with hh | hh <;> omega))
theorem cmpT_last {t : ByteArray} {i : Nat} (hi : i + 1 = t.size) (hb : byt t i = 237) : cmpE ((bts t).drop i) = [237] := by
  rw [bts_drop t (by omega), hb, List.drop_eq_nil_of_le (by rw [bts_len]; omega)]
  exact cmpE_last
/-- a row of bytes that grows -/
structure GrowB (w W : World) (v : Value) (l : List Int) : Prop where
  own : W.ownsRow w.heap.size 5 1 v l.length (l.map (Value.int .u8))
  bel : Below w.heap.size w W
theorem GrowB.form {w W : World} {v : Value} {l : List Int} (h : GrowB w W v l) : ∃ oa cap, v = .slice oa l.length cap := by
  obtain ⟨_, ⟨h1, h0⟩ | ⟨g, cap, _, h1, _⟩⟩ := h.own
  · exact ⟨none, 0, by rw [h1, h0]⟩
  · exact ⟨_, _, h1⟩
theorem GrowB.drewN {w W : World} {v : Value} {l : List Int} (h : GrowB w W v l) (n : Nat) : GrowB w (W.drewN n) v l := ⟨h.own, h.bel.trans ⟨rfl, rfl, rfl, Nat.le_refl _, fun _ _ => rfl⟩⟩
theorem GrowB.app {w W W' : World} {v v' : Value} {l : List Int} {o : Obj} (h : GrowB w W v l) (xs : List Int) (ho : W'.ownsRow w.heap.size 5 1 v' (l.length + xs.length) (l.map (Value.int .u8) ++ xs.map (Value.int .u8))) (hg : (W.alloc o).grownBy W' v.ownBlock) : GrowB w W' v' (l ++ xs) := by
  have hsz := h.bel.size
  refine ⟨by rw [List.length_append, List.map_append]; exact ho, ?_⟩
  exact (h.bel.alloc (by omega) _).grown hg (by simp; omega) (fun g hg => (h.own.lt g hg).1)
theorem GrowB.nil (w : World) : GrowB w (w.alloc (.cells #[] 5)) (.slice (some ⟨w.heap.size, 0, none⟩) 0 0) [] := ⟨World.ownsRow_lit w #[] 0 (Nat.le_refl _) (by decide) rfl, (Below.refl _ _).alloc (Nat.le_refl _) _⟩
end Go.Proofs.YtgpmpfikeindfaaGreatDoor

/- Runs expanded: the specification. -/
namespace Go.Proofs.YtgpmpfikeindfaaGreatDoor
open Go.ChangeShapes Go.WideShapes Go.ChangeAt Go.RowKit
set_option linter.unusedVariables false
set_option linter.unusedSimpArgs false

theorem drop_head {t : ByteArray} {k : Nat} (h : k < t.size) : ((bts t).drop k).head? = some (byt t k) := by rw [bts_drop t h]; rfl
theorem drop_head_no {t : ByteArray} {k : Nat} (h : ¬ k < t.size) : ((bts t).drop k).head? = none := by rw [List.drop_eq_nil_of_le (by rw [bts_len]; omega)]; rfl
theorem expT_run {t : ByteArray} {n i : Nat} {A : List Int} (h : i + 3 < t.size) (h0 : byt t i = 237) (h1 : byt t (i + 1) = 237) :
    expE n ((bts t).drop i) A = if n < A.length + (byt t (i + 2)).toNat then ([], 8) else expE n ((bts t).drop (i + 4)) (A ++ List.replicate (byt t (i + 2)).toNat (byt t (i + 3))) := by
  rw [bts_drop t (show i < t.size by omega), bts_drop t (show i + 1 < t.size by omega), bts_drop t (show i + 1 + 1 < t.size by omega), bts_drop t (show i + 1 + 1 + 1 < t.size by omega), h0, h1, expE_run]
theorem expT_cut {t : ByteArray} {n i : Nat} {A : List Int} (h : i + 1 < t.size) (h3 : ¬ i + 3 < t.size) (h0 : byt t i = 237) (h1 : byt t (i + 1) = 237) : expE n ((bts t).drop i) A = ([], 9) := by
  rw [bts_drop t (show i < t.size by omega), bts_drop t h, h0, h1]
  exact expE_cut n _ A (by rw [List.length_drop, bts_len]; omega)
theorem expT_one {t : ByteArray} {n i : Nat} {A : List Int} (h : i < t.size) (hn : ¬ (i + 1 < t.size ∧ byt t i = 237 ∧ byt t (i + 1) = 237)) :
    expE n ((bts t).drop i) A = if n < A.length + 1 then ([], 8) else expE n ((bts t).drop (i + 1)) (A ++ [byt t i]) := by
  rw [bts_drop t h]
  refine expE_cons n _ _ A (fun hh => hn ?_)
  by_cases h1 : i + 1 < t.size
  · rw [drop_head h1] at hh
    exact ⟨h1, hh.1, Option.some.inj hh.2⟩
  · rw [drop_head_no h1] at hh
    cases hh.2
theorem expT_end {t : ByteArray} {n : Nat} {A : List Int} : expE n ((bts t).drop t.size) A = if A.length = n then (A, 0) else ([], 8) := by
  rw [List.drop_eq_nil_of_le (by rw [bts_len]; exact Nat.le_refl _)]
  rfl
abbrev exS (r : List Int × Int) : Value := .tuple #[.string (strOfNums r.1), .int .i64 r.2]
theorem exS_no (c : Int) : exS ([], c) = .tuple #[.string ⟨#[]⟩, .int .i64 c] := rfl
end Go.Proofs.YtgpmpfikeindfaaGreatDoor

/- Compress, Expand, RunAt: the specification; the plain facts of the law of runs. -/
namespace Go.Proofs.YtgpmpfikeindfaaGreatDoor
open Go.ChangeShapes Go.WideShapes Go.ChangeAt Go.RowKit
set_option linter.unusedVariables false
set_option linter.unusedSimpArgs false

abbrev eS0 : ByteArray := ⟨#[]⟩
def cmp2 (t : ByteArray) : ByteArray × Int := if 65536 < t.size then (eS0, 2) else if 4096 < t.size then (eS0, 8) else (strOfNums (cmpE (bts t)), 0)
def exp2 (t : ByteArray) (n : Int) : ByteArray × Int := if 65536 < t.size then (eS0, 2) else if inB n 0 4096 = true then (strOfNums (expE n.toNat (bts t) []).1, (expE n.toNat (bts t) []).2) else (eS0, 4)
def rat2 (t : ByteArray) (i : Int) : Int × Int := if 65536 < t.size then (0, 2) else if inB i 0 ((t.size : Int) - 1) = true then ((runT t i.toNat : Nat), 0) else (0, 4)
theorem cmpL_all : ∀ (f : Nat) (L : List Int), (∀ x ∈ L, 0 ≤ x ∧ x ≤ 255) → ∀ x ∈ cmpL f L, 0 ≤ x ∧ x ≤ 255
  | 0, L, _, x, h => by cases h
  | f + 1, [], _, x, h => by cases h
  | f + 1, b :: L, hL, x, h => by
    have hb := hL b (List.mem_cons_self ..)
    have hLL : ∀ y ∈ L, 0 ≤ y ∧ y ≤ 255 := fun y hy => hL y (List.mem_cons_of_mem _ hy)
    have hle := runH_le 255 b (b :: L)
    rw [cmpL_cons] at h
    by_cases hr : 5 ≤ runH 255 b (b :: L) ∨ (b = 237 ∧ 2 ≤ runH 255 b (b :: L))
    · rw [if_pos hr] at h
      rcases List.mem_append.1 h with h | h
      · simp at h
        omega
      · exact cmpL_all f _ (fun y hy => hL y (List.mem_of_mem_drop hy)) x h
    · rw [if_neg hr] at h
      by_cases hb2 : b = 237
      · rw [if_pos hb2] at h
        match L, hLL, h with
        | [], _, h =>
          simp at h
          omega
        | c :: M, hLL, h =>
          rcases List.mem_cons.1 h with rfl | h
          · exact hb
          rcases List.mem_cons.1 h with rfl | h
          · exact hLL _ (List.mem_cons_self ..)
          · exact cmpL_all f M (fun y hy => hLL y (List.mem_cons_of_mem _ hy)) x h
      · rw [if_neg hb2] at h
        rcases List.mem_cons.1 h with rfl | h
        · exact hb
        · exact cmpL_all f L hLL x h
theorem get_dropL (s : ByteArray) (i : Nat) (h : i < s.size) : s.data.toList.drop i = s.get! i :: s.data.toList.drop (i + 1) := by
  have hl : i < s.data.toList.length := by simpa using h
  rw [List.drop_eq_getElem_cons hl]
  congr 1
  have : s.get! i = s.data[i]! := rfl
  rw [this, getElem!_pos s.data i (by simpa using h)]
  simp
theorem loop_listL (s : ByteArray) : ∀ n i r, s.size - i = n → ByteArray.toList.loop s i r = r.reverse ++ s.data.toList.drop i
  | 0, i, r, h => by
    rw [ByteArray.toList.loop, if_neg (by omega), List.drop_eq_nil_of_le (by simp; omega), List.append_nil]
  | n + 1, i, r, h => by
    rw [ByteArray.toList.loop, if_pos (by omega), loop_listL s n (i + 1) _ (by omega), get_dropL s i (by omega)]
    simp
theorem bl_listL (s : ByteArray) : s.toList = s.data.toList := by
  unfold ByteArray.toList
  rw [loop_listL s _ 0 [] rfl]
  simp
/-- what the law of runs asks of a text -/
theorem rle_facts {t : ByteArray} (ht : t.size ≤ 4000) : ∃ x, cmp2 t = (x, 0) ∧ x.size ≤ 2 * t.size ∧ exp2 x (t.size : Int) = (t, 0) ∧ ∃ y, exp2 x ((t.size : Int) + 1) = (y, 8) := by
  have hall := cmpL_all (bts t).length (bts t) (bts_all t)
  have hb : bts (strOfNums (cmpE (bts t))) = cmpE (bts t) := bts_str hall
  have hlen : (strOfNums (cmpE (bts t))).size ≤ 2 * t.size := by
    rw [strOfNums_size]
    have := cmpE_len (bts t)
    rw [bts_len] at this
    exact this
  refine ⟨strOfNums (cmpE (bts t)), by unfold cmp2; rw [if_neg (by omega), if_neg (by omega)], hlen, ?_, eS0, ?_⟩
  · unfold exp2
    rw [if_neg (by omega), if_pos (in_yes (by omega) (by omega)), hb, Int.toNat_natCast]
    have h := exp_cmp t.size (bts t).length (bts t) [] (Nat.le_refl _) (by rw [bts_len]; simp)
    have h2 : expE t.size (cmpE (bts t)) [] = (bts t, 0) := by
      unfold cmpE
      rw [h, if_pos (by rw [List.nil_append, bts_len]), List.nil_append]
    rw [h2]
    show (strOfNums (bts t), (0 : Int)) = _
    rw [str_bts]
  · unfold exp2
    have e1 : ((t.size : Int) + 1).toNat = t.size + 1 := by omega
    rw [if_neg (by omega), if_pos (in_yes (by omega) (by omega)), hb, e1]
    have h := exp_cmp (t.size + 1) (bts t).length (bts t) [] (Nat.le_refl _) (by rw [bts_len]; simp)
    have h2 : expE (t.size + 1) (cmpE (bts t)) [] = ([], 8) := by
      unfold cmpE
      rw [h, if_neg (by rw [List.nil_append, bts_len]; omega)]
    rw [h2]
    rfl
theorem rat_facts {t : ByteArray} {k : Nat} (ht : t.size ≤ 4000) (hk : k < t.size) : ∃ n : Nat, rat2 t (k : Int) = ((n : Int), 0) ∧ 1 ≤ n ∧ n ≤ 255 ∧ k + n ≤ t.size ∧ byt t (k + n - 1) = byt t k := by
  obtain ⟨h1, h2, h3⟩ := runT_bd t k hk
  refine ⟨runT t k, by unfold rat2; rw [if_neg (by omega), if_pos (in_yes (by omega) (by omega)), Int.toNat_natCast], h1, h2, h3, ?_⟩
  have hr := runH_rep 255 (byt t k) ((bts t).drop k)
  have hg : ((bts t).drop k)[runT t k - 1]? = some (byt t k) := by
    rw [hr]
    show (List.replicate (runT t k) (byt t k) ++ _)[runT t k - 1]? = _
    rw [List.getElem?_append_left (by rw [List.length_replicate]; omega), List.getElem?_replicate, if_pos (by omega)]
  rw [List.getElem?_drop] at hg
  have e : k + (runT t k - 1) = k + runT t k - 1 := by omega
  rw [e, bts_at t (by omega)] at hg
  exact Option.some.inj hg
end Go.Proofs.YtgpmpfikeindfaaGreatDoor

/- How many bytes of a row are as its first one: the program; RunAt. -/
namespace Go.Proofs.YtgpmpfikeindfaaGreatDoor
open Go.ChangeShapes Go.WideShapes Go.ChangeAt Go.RowKit
set_option linter.unusedVariables false
set_option linter.unusedSimpArgs false

/-- a block holds the bytes of a text, and perhaps more behind them -/
def CellsT (W : World) (B : Nat) (t : ByteArray) : Prop := ∀ j, j < t.size → W.cell? ⟨B, j, none⟩ = some (.int .u8 (byt t j))
theorem CellsT.same {W W' : World} {B : Nat} {t : ByteArray} (h : CellsT W B t) (e : W'.heap[B]? = W.heap[B]?) : CellsT W' B t := fun j hj => (World.cell?_of_block (a := ⟨B, j, none⟩) e).trans (h j hj)
theorem runM_go {t : ByteArray} {b : Int} {M i n : Nat} (hn : n < M) (h : i + n < t.size) (he : byt t (i + n) = b) : runH (M - n) b ((bts t).drop (i + n)) = runH (M - (n + 1)) b ((bts t).drop (i + (n + 1))) + 1 := by
  rw [bts_drop t h]
  obtain ⟨f, hf⟩ : ∃ f, M - n = f + 1 := ⟨M - n - 1, by omega⟩
  have e : M - (n + 1) = f := by omega
  rw [hf, e]
  show (if byt t (i + n) = b then _ else _) = _
  rw [if_pos he]
  rfl
theorem runM_stop {t : ByteArray} {b : Int} {M i n : Nat} (h : ¬ n < M ∨ (i + n < t.size ∧ byt t (i + n) ≠ b)) : runH (M - n) b ((bts t).drop (i + n)) = 0 := by
  rcases h with h | ⟨h1, h2⟩
  · rw [show M - n = 0 by omega]
    rfl
  · rw [bts_drop t h1]
    cases (M - n) with
    | zero => rfl
    | succ f =>
      show (if byt t (i + n) = b then _ else _) = _
      rw [if_neg h2]
/-- no more than the list has -/
theorem runH_min : ∀ (f : Nat) (b : Int) (L : List Int), runH (min f L.length) b L = runH f b L
  | 0, b, L => by simp
  | f + 1, b, [] => by simp [runH]
  | f + 1, b, x :: L => by
    have e : min (f + 1) (x :: L).length = min f L.length + 1 := by simp
    rw [e]
    show (if x = b then runH (min f L.length) b L + 1 else 0) = (if x = b then runH f b L + 1 else 0)
    rw [runH_min f b L]
theorem byt_extract (t : ByteArray) {i e j : Nat} (h : i + j < e) (he : e ≤ t.size) : byt (t.extract i e) j = byt t (i + j) := by
  unfold byt
  simp only [ByteArray.data_extract, Array.toList_extract, List.extract_eq_take_drop]
  rw [List.getD_eq_getElem?_getD, List.getD_eq_getElem?_getD, List.getElem?_take, if_pos (by omega), List.getElem?_drop]
theorem bts_extract (t : ByteArray) (i e : Nat) : bts (t.extract i e) = ((bts t).drop i).take (e - i) := by
  unfold bts
  simp only [ByteArray.data_extract, Array.toList_extract, List.extract_eq_take_drop, List.map_take, List.map_drop]
/-- the world behind '[]byte(s)' and what it holds -/
theorem convT (s : ByteArray) (w : World) : ∃ cp w2, (convert 9 22 (.string s)).run Tryz.prog w = .ok (.slice (some ⟨w.heap.size, 0, none⟩) s.size cp) w2 ∧ s.size ≤ cp ∧ CellsT w2 w.heap.size s ∧ w2.heap.size = w.heap.size + 1 ∧ Below w.heap.size w w2 := by
  have h := Lib.run_convert_string_bytes (P := Tryz.prog) w 9 22 5 s Tryz.underlying9 Tryz.underlying22 Tryz.underlying5
  refine ⟨_, _, h, ?_, fun i hi => ?_, ?_, ?_⟩
  · exact grownCap_ge _ _ _ _
  · have := Lib.bytesWorld_cell w 5 s i hi
    rw [this]
    rfl
  · rw [Lib.bytesWorld_size]
  · refine ⟨rfl, rfl, rfl, ?_, fun k hk => ?_⟩
    · rw [Lib.bytesWorld_size]; omega
    · rw [Lib.bytesWorld_at_old _ _ _ _ hk]
theorem withinL_impl (n a b : Int) (w : World) : Calls Tryz.prog 33 #[.int .i64 n, .int .i64 a, .int .i64 b] w fun e w' => e = .returned (.bool (inB n a b)) ∧ w' = w := by
  unfold inB
  by_cases h0 : a ≤ n
  · by_cases h1 : n ≤ b
    · rw [decide_eq_true ⟨h0, h1⟩]
      go_enter Tryz.func33, Tryz.ntmps33
      go_wp2
      go_ret
      exact ⟨rfl, rfl⟩
    · rw [decide_eq_false (fun h => h1 h.2)]
      go_enter Tryz.func33, Tryz.ntmps33
      go_wp2
      go_ret
      exact ⟨rfl, rfl⟩
  · rw [decide_eq_false (fun h => h0 h.1)]
    go_enter Tryz.func33, Tryz.ntmps33
    go_wp2
    go_ret
    exact ⟨rfl, rfl⟩
end Go.Proofs.YtgpmpfikeindfaaGreatDoor
