/- Small facts that the other texts of this seat share: equal results, the bytes of a text as numbers, worlds that only grow. -/
import Derived.Test.YtghcagibdcblnaaGreatDoorRows
import Derived.WalkKit
import Derived.ProofKit
import Derived.Below
import Derived.Laws.BytesArg
import Derived.OwnWalk
import Derived.KernelRfl
namespace Go.Proofs.YtghcagibdcblnaaGreatDoor
open Go.ChangeShapes Go.WideShapes Go.ChangeAt Go.RowKit
set_option linter.unusedVariables false

theorem ret_bool {a b : Bool} (h : a = b) : Ending.returned (.bool a) = .returned (.bool b) := by rw [h]
theorem ret_int {k : IntKind} {a b : Int} (h : a = b) : Ending.returned (.int k a) = .returned (.int k b) := by rw [h]
theorem ret_str {a b : ByteArray} (h : a = b) : Ending.returned (.string a) = .returned (.string b) := by rw [h]
theorem ret_val {a b : Value} (h : a = b) : Ending.returned a = .returned b := by rw [h]

/-- the k-th byte of a text, as a number -/
def byt (s : ByteArray) (k : Nat) : Int := ((s.data.toList.getD k 0).toNat : Int)
theorem byt_eq (s : ByteArray) (k : Nat) (h : k < s.size) : ((s[k]'h).toNat : Int) = byt s k := by
  have h' : k < s.data.toList.length := by simpa using h
  simp [byt, List.getD_eq_getElem?_getD, List.getElem?_eq_getElem h']
  rfl
theorem byt_bd (s : ByteArray) (k : Nat) : 0 ≤ byt s k ∧ byt s k ≤ 255 := by
  unfold byt
  have := (s.data.toList.getD k 0).toNat_lt
  omega

/-- a text's byte at an index that is known to lie in it -/
theorem run_idx (s : ByteArray) (i : Int) (k : Nat) (hi : i = (k : Int)) (h : k < s.size) (w : World) : (Instr.index 9 (.string s) (.int .i64 i)).run Tryz.prog w = .ok (.int .u8 (byt s k)) w := by
  subst hi
  rw [run_index_string w 9 s .i64 _ Tryz.underlying9, dif_pos ⟨by omega, by omega⟩]
  have := byt_eq s k h
  simp only [Int.toNat_natCast]
  rw [this]

theorem infoU8 : (Tryz.prog.info? 5).map (fun i => (i.zero, i.size, i.bytes)) = some (some (.int .u8 0), 1, 1) := by kernel_rfl

theorem own_string {w : World} {base : Nat} {v : Value} {n : Nat} {xs : List Int} (h : w.ownsRow base 5 1 v n (xs.map (Value.int .u8))) :
    (convert 22 9 v).run Tryz.prog w = .ok (.string (strOfNums xs)) w := by
  have h' := h
  obtain ⟨hl, ⟨rfl, rfl⟩ | ⟨g, cap, cur, rfl, hb, hh, hn, hm, hs, ht⟩⟩ := h
  · have : xs = [] := by simpa using hl
    subst this
    exact run_convert_bytes_nil _ 22 5 Tryz.underlying22 Tryz.underlying5 0 0 9 Tryz.underlying9
  · have hx : xs.length = n := by simpa using hl
    exact run_convert_bytes_arg _ 22 5 Tryz.underlying22 Tryz.underlying5 g 0 n cap xs hx (fun i hi => by
      rw [Nat.zero_add, h'.cellAt i (by omega)]
      simp [List.getD_eq_getElem?_getD, List.getElem?_eq_getElem (show i < xs.length by omega)]) 9 Tryz.underlying9

theorem new_trans {a b c : World} (h : Below a.heap.size a b) (k : Below b.heap.size b c) : Below a.heap.size a c := h.trans (k.mono h.size)

/-- behind a call that only makes new blocks every old cell and every old mark reads as before: two rules for the walk -/
theorem bcell {W w1 : World} (hb : Below W.heap.size W w1) : (∀ b o, b < W.heap.size → w1.cell? ⟨b, o, none⟩ = W.cell? ⟨b, o, none⟩) ∧ (∀ b o, b < W.heap.size → w1.frozen? ⟨b, o, none⟩ = W.frozen? ⟨b, o, none⟩) :=
  ⟨fun b o h => hb.cell (p := ⟨b, o, none⟩) h, fun b o h => hb.frozen (p := ⟨b, o, none⟩) h⟩

/-- the test that a number lies between two others -/
def inB (n a b : Int) : Bool := decide (a ≤ n ∧ n ≤ b)
theorem in_yes {n a b : Int} (h0 : a ≤ n) (h1 : n ≤ b) : inB n a b = true := by simp [inB, h0, h1]
theorem in_no {n a b : Int} (h : ¬ (a ≤ n ∧ n ≤ b)) : inB n a b = false := by unfold inB; exact decide_eq_false h

theorem vars1_form {H : Type} {enc : TypeId × Value → H} {P : Program} {w : World} {sp : Nat → Bool} {n : String} {gs : List (DataW H)} {ps : List MemPlace} (h : DataW.TrodVars enc P w sp [n] gs ps) : ∃ g, gs = [g] := by
  match gs, h with
  | [g], _ => exact ⟨g, rfl⟩
  | [], h => exact h.elim
  | _ :: _ :: _, ⟨_, _, _, _, _, _, _, _, _, _, h, _⟩ => exact h.elim
theorem vars3_form {H : Type} {enc : TypeId × Value → H} {P : Program} {w : World} {sp : Nat → Bool} {n m l : String} {gs : List (DataW H)} {ps : List MemPlace} (h : DataW.TrodVars enc P w sp [n, m, l] gs ps) : ∃ a b c, gs = [a, b, c] := by
  match gs, h with
  | [], h => exact h.elim
  | a :: gs, ⟨_, _, _, _, _, _, _, _, _, _, h, _⟩ =>
    match gs, h with
    | [], h => exact h.elim
    | b :: gs, ⟨_, _, _, _, _, _, _, _, _, _, h, _⟩ =>
      obtain ⟨c, rfl⟩ := vars1_form h
      exact ⟨a, b, c, rfl⟩
end Go.Proofs.YtghcagibdcblnaaGreatDoor

/- Runs, as plain lists of bytes: how they are compressed and expanded; what is compressed is expanded to what it was. -/
namespace Go.Proofs.YtghcagibdcblnaaGreatDoor
set_option linter.unusedVariables false
set_option linter.unusedSimpArgs false

/-- how often b stands at the beginning, at most f times -/
def runH : Nat → Int → List Int → Nat
  | 0, _, _ => 0
  | _ + 1, _, [] => 0
  | f + 1, b, x :: L => if x = b then runH f b L + 1 else 0
theorem runH_le : ∀ (f : Nat) (b : Int) (L : List Int), runH f b L ≤ f ∧ runH f b L ≤ L.length
  | 0, _, _ => ⟨Nat.le_refl _, Nat.zero_le _⟩
  | f + 1, b, [] => ⟨Nat.zero_le _, Nat.le_refl _⟩
  | f + 1, b, x :: L => by
    unfold runH
    split
    · have := runH_le f b L
      exact ⟨by omega, by simp; omega⟩
    · exact ⟨Nat.zero_le _, Nat.zero_le _⟩
theorem runH_rep : ∀ (f : Nat) (b : Int) (L : List Int), L = List.replicate (runH f b L) b ++ L.drop (runH f b L)
  | 0, _, _ => rfl
  | f + 1, b, [] => rfl
  | f + 1, b, x :: L => by
    unfold runH
    split
    · rename_i h
      rw [List.replicate_succ, List.drop_succ_cons, List.cons_append, ← runH_rep f b L, h]
    · rfl
theorem runH_pos {f : Nat} {b : Int} {L : List Int} : 1 ≤ runH (f + 1) b (b :: L) := by
  unfold runH
  rw [if_pos rfl]
  omega
/-- compressed: f rounds are enough -/
def cmpL : Nat → List Int → List Int
  | 0, _ => []
  | _ + 1, [] => []
  | f + 1, b :: L =>
    if 5 ≤ runH 255 b (b :: L) ∨ (b = 237 ∧ 2 ≤ runH 255 b (b :: L)) then [237, 237, (runH 255 b (b :: L) : Int), b] ++ cmpL f ((b :: L).drop (runH 255 b (b :: L)))
    else if b = 237 then (match L with | [] => [b] | c :: M => b :: c :: cmpL f M) else b :: cmpL f L
theorem cmpL_cons (f : Nat) (b : Int) (L : List Int) : cmpL (f + 1) (b :: L) = if 5 ≤ runH 255 b (b :: L) ∨ (b = 237 ∧ 2 ≤ runH 255 b (b :: L)) then [237, 237, (runH 255 b (b :: L) : Int), b] ++ cmpL f ((b :: L).drop (runH 255 b (b :: L))) else if b = 237 then (match L with | [] => [b] | c :: M => b :: c :: cmpL f M) else b :: cmpL f L := rfl
/-- expanded to n bytes: f rounds are enough -/
def expL (n : Nat) : Nat → List Int → List Int → List Int × Int
  | 0, _, out => if out.length = n then (out, 0) else ([], 8)
  | _ + 1, [], out => if out.length = n then (out, 0) else ([], 8)
  | f + 1, x :: L, out =>
    if x = 237 ∧ L.head? = some 237 then
      (match L with
        | _ :: k :: b :: M => if n < (out ++ List.replicate k.toNat b).length then ([], 8) else expL n f M (out ++ List.replicate k.toNat b)
        | _ => ([], 9))
    else if n < (out ++ [x]).length then ([], 8) else expL n f L (out ++ [x])
theorem expL_nil (n f : Nat) (out : List Int) : expL n f [] out = if out.length = n then (out, 0) else ([], 8) := by cases f <;> rfl
theorem expL_cons (n f : Nat) (x : Int) (L out : List Int) : expL n (f + 1) (x :: L) out = (if x = 237 ∧ L.head? = some 237 then
      (match L with
        | _ :: k :: b :: M => if n < (out ++ List.replicate k.toNat b).length then ([], 8) else expL n f M (out ++ List.replicate k.toNat b)
        | _ => ([], 9))
    else if n < (out ++ [x]).length then ([], 8) else expL n f L (out ++ [x])) := rfl
/-- enough rounds are enough -/
theorem expL_more (n : Nat) : ∀ (f g : Nat) (L out : List Int), L.length ≤ f → L.length ≤ g → expL n f L out = expL n g L out
  | 0, g, L, out, hf, _ => by
    obtain rfl : L = [] := List.length_eq_zero_iff.1 (by omega)
    rw [expL_nil, expL_nil]
  | f + 1, g, [], out, _, _ => by rw [expL_nil, expL_nil]
  | f + 1, g, x :: L, out, hf, hg => by
    simp only [List.length_cons] at hf hg
    obtain ⟨g, rfl⟩ : ∃ g', g = g' + 1 := ⟨g - 1, by omega⟩
    rw [expL_cons, expL_cons]
    by_cases h : x = 237 ∧ L.head? = some 237
    · rw [if_pos h, if_pos h]
      match L, hf, hg with
      | _ :: k :: b :: M, hf, hg =>
        simp only [List.length_cons] at hf hg
        show (if _ then _ else _) = (if _ then _ else _)
        rw [expL_more n f g M _ (by omega) (by omega)]
      | [], _, _ => rfl
      | [_], _, _ => rfl
      | [_, _], _, _ => rfl
    · rw [if_neg h, if_neg h, expL_more n f g L _ (by omega) (by omega)]
def expE (n : Nat) (L out : List Int) : List Int × Int := expL n L.length L out
theorem expE_nil (n : Nat) (out : List Int) : expE n [] out = if out.length = n then (out, 0) else ([], 8) := rfl
theorem expE_cons (n : Nat) (x : Int) (L out : List Int) (h : ¬ (x = 237 ∧ L.head? = some 237)) : expE n (x :: L) out = if n < out.length + 1 then ([], 8) else expE n L (out ++ [x]) := by
  show expL n (L.length + 1) (x :: L) out = _
  rw [expL_cons, if_neg h, List.length_append]
  rfl
theorem expE_run (n : Nat) (k b : Int) (M out : List Int) : expE n (237 :: 237 :: k :: b :: M) out = if n < out.length + k.toNat then ([], 8) else expE n M (out ++ List.replicate k.toNat b) := by
  show expL n ((237 :: k :: b :: M).length + 1) (237 :: 237 :: k :: b :: M) out = _
  rw [expL_cons, if_pos ⟨rfl, rfl⟩]
  show (if n < (out ++ List.replicate k.toNat b).length then _ else expL n (237 :: k :: b :: M).length M (out ++ List.replicate k.toNat b)) = _
  rw [expL_more n _ M.length M _ (by simp; omega) (Nat.le_refl _), List.length_append, List.length_replicate]
  rfl
theorem expE_cut (n : Nat) (L out : List Int) (h : L.length < 2) : expE n (237 :: 237 :: L) out = ([], 9) := by
  show expL n ((237 :: L).length + 1) (237 :: 237 :: L) out = _
  rw [expL_cons, if_pos ⟨rfl, rfl⟩]
  match L, h with
  | [], _ => rfl
  | [_], _ => rfl
/-- what is compressed is expanded to what it was -/
theorem exp_cmp (n : Nat) : ∀ (f : Nat) (L out : List Int), L.length ≤ f → out.length + L.length ≤ n → expE n (cmpL f L) out = if (out ++ L).length = n then (out ++ L, 0) else ([], 8)
  | 0, L, out, hf, _ => by
    obtain rfl : L = [] := List.length_eq_zero_iff.1 (by omega)
    show expE n [] out = _
    rw [expE_nil, List.append_nil]
  | f + 1, [], out, _, _ => by
    show expE n [] out = _
    rw [expE_nil, List.append_nil]
  | f + 1, b :: L, out, hf, hn => by
    simp only [List.length_cons] at hf hn
    have hle := runH_le 255 b (b :: L)
    have hpos : 1 ≤ runH 255 b (b :: L) := runH_pos
    have hrep := runH_rep 255 b (b :: L)
    simp only [List.length_cons] at hle
    rw [cmpL_cons]
    by_cases hr : 5 ≤ runH 255 b (b :: L) ∨ (b = 237 ∧ 2 ≤ runH 255 b (b :: L))
    · rw [if_pos hr]
      have hr2 : 2 ≤ runH 255 b (b :: L) := by omega
      obtain ⟨m, hm⟩ : ∃ m, runH 255 b (b :: L) = m := ⟨_, rfl⟩
      rw [hm] at hle hrep hr2 ⊢
      obtain ⟨R, hR⟩ : ∃ R, (b :: L).drop m = R := ⟨_, rfl⟩
      have hRl : R.length = L.length + 1 - m := by rw [← hR, List.length_drop, List.length_cons]
      rw [hR] at hrep ⊢
      have ek : ((m : Nat) : Int).toNat = m := by omega
      show expE n (237 :: 237 :: (m : Int) :: b :: cmpL f R) out = _
      rw [expE_run, ek, if_neg (by omega), exp_cmp n f R (out ++ List.replicate m b) (by omega) (by rw [List.length_append, List.length_replicate]; omega), List.append_assoc, ← hrep]
    · rw [if_neg hr]
      by_cases hb : b = 237
      · rw [if_pos hb]
        have hr1 : runH 255 b (b :: L) = 1 := by
          have : ¬ (b = 237 ∧ 2 ≤ runH 255 b (b :: L)) := fun h => hr (.inr h)
          have : ¬ 2 ≤ runH 255 b (b :: L) := fun h => this ⟨hb, h⟩
          omega
        match L, hf, hn, hr1 with
        | [], _, hn, _ =>
          show expE n [b] out = _
          rw [expE_cons n b [] out (fun h => by cases h.2), if_neg (by simp at hn; omega), expE_nil]
        | c :: M, hf, hn, hr1 =>
          simp only [List.length_cons] at hf hn
          have hc : c ≠ b := by
            intro hc
            have : runH 255 b (b :: c :: M) = runH 254 b (c :: M) + 1 := by
              show (if b = b then runH 254 b (c :: M) + 1 else 0) = _
              rw [if_pos rfl]
            have h2 : runH 254 b (c :: M) = runH 253 b M + 1 := by
              show (if c = b then runH 253 b M + 1 else 0) = _
              rw [if_pos hc]
            omega
          show expE n (b :: c :: cmpL f M) out = _
          rw [expE_cons n b _ out (fun h => hc (by have := h.2; simp at this; rw [this, hb])), if_neg (by omega), expE_cons n c _ _ (fun h => hc (by rw [h.1, hb])), if_neg (by simp; omega), exp_cmp n f M _ (by omega) (by simp; omega)]
          simp
      · rw [if_neg hb, expE_cons n b _ out (fun h => hb h.1), if_neg (by omega), exp_cmp n f L _ (by omega) (by simp; omega)]
        simp
/-- not longer than twice -/
theorem cmp_len : ∀ (f : Nat) (L : List Int), (cmpL f L).length ≤ 2 * L.length
  | 0, L => Nat.zero_le _
  | f + 1, [] => Nat.zero_le _
  | f + 1, b :: L => by
    have hle := runH_le 255 b (b :: L)
    simp only [List.length_cons] at hle
    rw [cmpL_cons]
    by_cases hr : 5 ≤ runH 255 b (b :: L) ∨ (b = 237 ∧ 2 ≤ runH 255 b (b :: L))
    · rw [if_pos hr]
      have := cmp_len f ((b :: L).drop (runH 255 b (b :: L)))
      rw [List.length_drop] at this
      simp only [List.length_append, List.length_cons, List.length_nil] at this ⊢
      omega
    · rw [if_neg hr]
      by_cases hb : b = 237
      · rw [if_pos hb]
        match L with
        | [] => simp
        | c :: M =>
          have := cmp_len f M
          simp only [List.length_cons]
          omega
      · rw [if_neg hb]
        have := cmp_len f L
        simp only [List.length_cons]
        omega
end Go.Proofs.YtghcagibdcblnaaGreatDoor

/- What spec.l01In answers: whether a number lies between two others; the world stays as it was. -/
namespace Go.Proofs.YtghcagibdcblnaaGreatDoor
open Go.ChangeShapes Go.WideShapes Go.ChangeAt Go.RowKit
set_option linter.unusedVariables false

theorem in_spec (n a b : Int) (w : World) : Calls Tryz.prog 66 #[.int .i64 n, .int .i64 a, .int .i64 b] w fun e w' => e = .returned (.bool (inB n a b)) ∧ w' = w := by
  go_enter Tryz.func66, Tryz.ntmps66
  go_wp2
  all_goals go_ret
  all_goals exact ⟨ret_bool (by rw [Bool.eq_iff_iff]; simp [inB]; try omega), rfl⟩
end Go.Proofs.YtghcagibdcblnaaGreatDoor
