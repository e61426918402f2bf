/- What the exact law of ReadTap does with an answer: it is read, marked, and the marks are looked for. -/
import Derived.Test.YtohnddjijedfkaaZlk
import Derived.Test.YtohnddjijedfkaaUgk
import Derived.Deep.DeepCutAuto
import Derived.Deep.RegionWith
namespace Go.Proofs.Ytohnddjijedfkaa
open Go.ChangeShapes Go.WideShapes Go.ChangeAt Go.RowKit
set_option linter.unusedVariables false
set_option linter.unusedSimpArgs false

def mtL : Nat → Nat → ByteArray → ByteArray
  | 0, _, o => o
  | f + 1, q, o => if q = 0 then o else mtL f (q / 10) (strOfNums [((48 + q % 10 : Nat) : Int)] ++ o)
theorem mtL_zero (f : Nat) (o : ByteArray) : mtL f 0 o = o := by
  cases f with
  | zero => rfl
  | succ f => exact if_pos rfl
/-- the text of a mark -/
def mt (k : Nat) : ByteArray := ⟨#[109]⟩ ++ mtL (k + 1) k ⟨#[]⟩
theorem mtL_size : ∀ (f q : Nat) (o : ByteArray), (mtL f q o).size ≤ o.size + q := by
  intro f
  induction f with
  | zero => intro q o; show o.size ≤ _; omega
  | succ f ih =>
    intro q o
    show (if q = 0 then o else mtL f (q / 10) (strOfNums [((48 + q % 10 : Nat) : Int)] ++ o)).size ≤ _
    split
    · omega
    · have := ih (q / 10) (strOfNums [((48 + q % 10 : Nat) : Int)] ++ o)
      rw [ByteArray.size_append, strOfNums_size] at this
      simp only [List.length_cons, List.length_nil] at this
      omega
theorem bkL_len (l : List (Int × ByteArray)) : (bkL l).length = l.length * 2 := by
  unfold bkL
  induction l with
  | nil => rfl
  | cons x l ih => simp only [List.flatMap_cons, List.length_append, List.length_cons, List.length_nil, ih]; omega
theorem bkL_at (l : List (Int × ByteArray)) : ∀ k, k < l.length → (bkL l)[k * 2]? = some (.int .i64 (l.getD k bkz).1) ∧ (bkL l)[k * 2 + 1]? = some (.string (l.getD k bkz).2) := by
  induction l with
  | nil => intro k hk; simp at hk
  | cons x l ih =>
    intro k hk
    have e : bkL (x :: l) = .int .i64 x.1 :: .string x.2 :: bkL l := rfl
    rw [e]
    cases k with
    | zero => exact ⟨rfl, rfl⟩
    | succ k =>
      have := ih k (by simpa using hk)
      rw [show (k + 1) * 2 = k * 2 + 1 + 1 by omega]
      simpa using this
/-- an answer of blocks: nothing, or a block of its own -/
def MkS (base : Nat) (W : World) (v : Value) (l : List (Int × ByteArray)) : Prop := (l = [] ∧ ∃ a cap, v = .slice a 0 cap) ∨ ∃ g cap, v = .slice (some ⟨g, 0, none⟩) l.length cap ∧ base ≤ g ∧ BkO W g l
theorem mks_of {base : Nat} {W : World} {v : Value} {l : List (Int × ByteArray)} (h : W.ownsRow base 66 2 v l.length (bkL l)) : MkS base W v l := by
  have h' := h
  obtain ⟨_, ⟨hv, h0⟩ | ⟨g, cap, cur, hv, hb, hh, hn, hm, hs, ht⟩⟩ := h
  · exact .inl ⟨List.eq_nil_of_length_eq_zero h0, none, 0, hv⟩
  · refine .inr ⟨g, cap, hv, hb, ?_, ?_, ?_⟩
    · intro k hk
      subst hv
      obtain ⟨c1, c2⟩ := bkL_at l k hk
      have q := h'.cells (g := g) rfl
      have p1 := q (k * 2) _ c1
      have p2 := q (k * 2 + 1) _ c2
      rw [add_plainZ, Nat.zero_add] at p1 p2
      exact ⟨p1, p2⟩
    · intro i
      simp [World.frozen?, hh]
    · exact (Array.getElem?_eq_some_iff.1 hh).1
theorem MkS.read {base : Nat} {W : World} {v : Value} {l : List (Int × ByteArray)} (h : MkS base W v l) : ∃ a cap, v = .slice a l.length cap ∧ BkR W a l := by
  rcases h with ⟨rfl, a, cap, rfl⟩ | ⟨g, cap, rfl, _, h⟩
  · exact ⟨a, cap, rfl, .inl rfl⟩
  · exact ⟨_, cap, rfl, h.read⟩
theorem MkS.below {base : Nat} {W W' : World} {v : Value} {l : List (Int × ByteArray)} (h : MkS base W v l) (hb : Below W.heap.size W W') : MkS base W' v l := by
  rcases h with h | ⟨g, cap, hv, hl, h⟩
  · exact .inl h
  · exact .inr ⟨g, cap, hv, hl, h.below hb⟩
def mkB (l : List (Int × ByteArray)) : Nat → List (Int × ByteArray)
  | 0 => l
  | k + 1 => (mkB l k).set k (((2 * k + 1 : Nat) : Int), mt (2 * k + 2))
theorem mkB_len (l : List (Int × ByteArray)) (k : Nat) : (mkB l k).length = l.length := by
  induction k with
  | zero => rfl
  | succ k ih => simp [mkB, ih]
theorem mkB_at (l : List (Int × ByteArray)) (k j : Nat) (hj : j < l.length) (hk : j < k) : (mkB l k).getD j bkz = (((2 * j + 1 : Nat) : Int), mt (2 * j + 2)) := by
  induction k with
  | zero => omega
  | succ k ih =>
    show ((mkB l k).set k (((2 * k + 1 : Nat) : Int), mt (2 * k + 2))).getD j bkz = _
    by_cases e : j = k
    · subst e
      rw [List.getD_eq_getElem?_getD, List.getElem?_set_self (by rw [mkB_len]; exact hj)]
      rfl
    · rw [List.getD_eq_getElem?_getD, List.getElem?_set_ne (fun e2 => e e2.symm), ← List.getD_eq_getElem?_getD, ih (by omega)]
/-- but for one block all is as it was -/
def Same1 (W W' : World) (g : Nat) : Prop := W.grownBy W' (some g)
theorem same1_below {W W' W'' : World} {g : Nat} (h : Same1 W W' g) (hb : Below W'.heap.size W' W'') : Same1 W W'' g :=
  ⟨hb.os.trans h.os, hb.tape.trans h.tape, hb.output.trans h.output, Nat.le_trans h.size hb.size, fun k hk hne => (hb.block k (Nat.lt_of_lt_of_le hk h.size)).trans (h.block k hk hne)⟩
theorem same1_set {W W' : World} {g i : Nat} {u : Value} (h : Same1 W W' g) : Same1 W (W'.setCell ⟨g, i, none⟩ u) g :=
  ⟨h.os, h.tape, h.output, by have := h.size; simpa [World.setCell] using this, fun k hk hne => (Below.heap_setCell _ _ _ _ (fun e => hne (by rw [e]))).trans (h.block k hk hne)⟩
theorem bko_set1 {W : World} {g : Nat} {l : List (Int × ByteArray)} (h : BkO W g l) (k : Nat) (hk : k < l.length) (f : Int) : BkO (W.setCell ⟨g, k * 2, none⟩ (.int .i64 f)) g (l.set k (f, (l.getD k bkz).2)) := by
  have o : ∀ (X : World) (i j : Nat) (u : Value), i ≠ j → (X.setCell ⟨g, j, none⟩ u).cell? ⟨g, i, none⟩ = X.cell? ⟨g, i, none⟩ := fun X i j u hne => World.cell?_setCell_other _ _ _ _ (by intro e; injection e with _ e2 _; exact hne e2.symm)
  refine ⟨fun j hj => ?_, fun i => by rw [World.frozen?_setCell]; exact h.fro i, by have := h.lt; simpa [World.setCell] using this⟩
  rw [List.length_set] at hj
  obtain ⟨c1, c2⟩ := h.cell j hj
  by_cases e : j = k
  · subst e
    have hg : (l.set j (f, (l.getD j bkz).2)).getD j bkz = (f, (l.getD j bkz).2) := by rw [List.getD_eq_getElem?_getD, List.getElem?_set_self hj]; rfl
    rw [hg]
    refine ⟨World.cell?_setCell_same' _ _ _ (by rw [c1]; rfl), ?_⟩
    rw [o _ _ _ _ (by omega)]
    exact c2
  · have hg : (l.set k (f, (l.getD k bkz).2)).getD j bkz = l.getD j bkz := by rw [List.getD_eq_getElem?_getD, List.getElem?_set_ne (fun e2 => e e2.symm), ← List.getD_eq_getElem?_getD]
    rw [hg, o _ _ _ _ (by omega), o _ _ _ _ (by omega)]
    exact ⟨c1, c2⟩
theorem bko_set2 {W : World} {g : Nat} {l : List (Int × ByteArray)} (h : BkO W g l) (k : Nat) (hk : k < l.length) (s : ByteArray) : BkO (W.setCell ⟨g, k * 2 + 1, none⟩ (.string s)) g (l.set k ((l.getD k bkz).1, s)) := by
  have o : ∀ (X : World) (i j : Nat) (u : Value), i ≠ j → (X.setCell ⟨g, j, none⟩ u).cell? ⟨g, i, none⟩ = X.cell? ⟨g, i, none⟩ := fun X i j u hne => World.cell?_setCell_other _ _ _ _ (by intro e; injection e with _ e2 _; exact hne e2.symm)
  refine ⟨fun j hj => ?_, fun i => by rw [World.frozen?_setCell]; exact h.fro i, by have := h.lt; simpa [World.setCell] using this⟩
  rw [List.length_set] at hj
  obtain ⟨c1, c2⟩ := h.cell j hj
  by_cases e : j = k
  · subst e
    have hg : (l.set j ((l.getD j bkz).1, s)).getD j bkz = ((l.getD j bkz).1, s) := by rw [List.getD_eq_getElem?_getD, List.getElem?_set_self hj]; rfl
    rw [hg]
    refine ⟨?_, World.cell?_setCell_same' _ _ _ (by rw [c2]; rfl)⟩
    rw [o _ _ _ _ (by omega)]
    exact c1
  · have hg : (l.set k ((l.getD k bkz).1, s)).getD j bkz = l.getD j bkz := by rw [List.getD_eq_getElem?_getD, List.getElem?_set_ne (fun e2 => e e2.symm), ← List.getD_eq_getElem?_getD]
    rw [hg, o _ _ _ _ (by omega), o _ _ _ _ (by omega)]
    exact ⟨c1, c2⟩
theorem rdL_len (t : ByteArray) : ∀ (f : Nat) (a : Int) (acc : List (Int × ByteArray)), acc.length ≤ 6 → (rdL t f a acc).1.length ≤ 6 := by
  intro f
  induction f with
  | zero => intro a acc h; exact h
  | succ f ih =>
    intro a acc h
    have e : rdL t (f + 1) a acc = if a < (t.size : Int) then (if (tkB t a).2 ≠ 0 then ([], (tkB t a).2) else if acc.length = 6 then ([], 6) else rdL t f (tkB t a).1.1.2 (acc ++ [(tkB t a).1.2])) else (acc, 0) := rfl
    rw [e]
    split
    · split
      · exact Nat.zero_le _
      · split
        · exact Nat.zero_le _
        · exact ih _ _ (by rw [List.length_append]; simp; omega)
    · exact h
theorem rd2_len (t : ByteArray) : (rd2 t).1.length ≤ 6 := by
  unfold rd2
  split
  · exact Nat.zero_le _
  · exact rdL_len _ _ _ _ (Nat.zero_le _)
end Go.Proofs.Ytohnddjijedfkaa
