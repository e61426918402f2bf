/- What it is that a text says: the instruction of its words, if there is one. -/
import Derived.Test.YtneagomkohoceaaDoorNuc
import Derived.Test.YtneagomkohoceaaDoorWoc
import Derived.Test.YtneagomkohoceaaDoorKic
import Derived.Test.YtneagomkohoceaaDoorKbc
namespace Go.Proofs.YtneagomkohoceaaDoor
open Go.ChangeShapes Go.WideShapes Go.ChangeAt Go.RowKit
set_option linter.unusedVariables false
set_option linter.unusedSimpArgs false

theorem get_drop (s : ByteArray) (i : Nat) (h : i < s.size) : s.data.toList.drop i = s.get! i :: s.data.toList.drop (i + 1) := by
  have hl : i < s.data.toList.length := by simpa using h
  rw [List.drop_eq_getElem_cons hl]
  congr 1
  have e := byt_get s i
  unfold byt at e
  rw [List.getD_eq_getElem?_getD, List.getElem?_eq_getElem hl, Option.getD_some] at e
  apply UInt8.toNat_inj.1
  omega
theorem loop_list (s : ByteArray) : ∀ n i r, s.size - i = n → ByteArray.toList.loop s i r = r.reverse ++ s.data.toList.drop i
  | 0, i, r, h => by
    rw [ByteArray.toList.loop, if_neg (by omega), List.drop_eq_nil_of_le (by simp; omega), List.append_nil]
  | n + 1, i, r, h => by
    rw [ByteArray.toList.loop, if_pos (by omega), loop_list s n (i + 1) _ (by omega), get_drop s i (by omega)]
    simp
theorem bl_list (s : ByteArray) : s.toList = s.data.toList := by
  unfold ByteArray.toList
  rw [loop_list s _ 0 [] rfl]
  simp
/-- texts are held against each other as lists of bytes -/
theorem bl_eq (a b : ByteArray) : (a.toList == b.toList) = true ↔ a = b := by
  rw [bl_list, bl_list, beq_iff_eq]
  constructor
  · intro h
    apply ByteArray.ext
    exact Array.toList_inj.1 h
  · intro h
    rw [h]
theorem bl_ne {a b : ByteArray} (h : (a.toList == b.toList) = false) : a ≠ b := fun e => by rw [(bl_eq a b).2 e] at h; cases h
theorem bl_no {a b : ByteArray} (h : a ≠ b) : (a.toList == b.toList) = false := by
  cases hq : (a.toList == b.toList)
  · rfl
  · exact absurd ((bl_eq a b).1 hq) h
def wsAt (ws : List ByteArray) (i : Nat) : ByteArray := ws.getD i ⟨#[]⟩
def numW (ws : List ByteArray) (i : Nat) : Int := valS (wsAt ws i) (wsAt ws i).size
def setI (p : Int × Int × Int) (o : Nat) (v : Int) : Int × Int × Int := if o = 1 then (v, p.2.1, p.2.2) else if o = 2 then (p.1, v, p.2.2) else (p.1, p.2.1, v)
/-- the numbers of an instruction, j of its words being read -/
def insN (k : Nat) (ws : List ByteArray) : Nat → Int × Int × Int
  | 0 => (0, 0, 0)
  | j + 1 => setI (insN k ws j) ((offsK (kdN k)).getD j 0) (numW ws (j + 1))
def offL (k : Nat) : Nat := (offsK (kdN k)).length
abbrev insX (k : Nat) (ws : List ByteArray) (j : Nat) : Array Value := insA (k : Int) (insN k ws j).1 (insN k ws j).2.1 (insN k ws j).2.2 (lenM (kdN k))
abbrev insY (k : Nat) (ws : List ByteArray) : Value := insV (k : Int) (insN k ws (offL k)).1 (insN k ws (offL k)).2.1 (insN k ws (offL k)).2.2 (lenM (kdN k))
/-- the words are those of an instruction of number k -/
def ReadIs (ws : List ByteArray) (k : Nat) : Prop :=
  k < 24 ∧ 0 < ws.length ∧ wsAt ws 0 = kdW k ∧ ws.length = 1 + offL k ∧ (∀ i, 1 ≤ i → i < ws.length → isNum (wsAt ws i)) ∧ okI (k : Int) (insN k ws (offL k)).1 (insN k ws (offL k)).2.1 (insN k ws (offL k)).2.2 (lenM (kdN k)) = true
theorem kdW_inj : ∀ k, k < 24 → ∀ j, j < 24 → kdW k = kdW j → k = j := by
  have h : ∀ k, k < 24 → ∀ j, j < 24 → kdWL.getD k [] = kdWL.getD j [] → k = j := by decide +kernel
  intro k hk j hj e
  refine h k hk j hj ?_
  have := congrArg (fun s => s.data.toList) e
  simpa [kdW] using this
theorem ReadIs.same {ws : List ByteArray} {k j : Nat} (h : ReadIs ws k) (h' : ReadIs ws j) : k = j := kdW_inj k h.1 j h'.1 (h.2.2.1.symm.trans h'.2.2.1)
theorem ReadIs.op {ws : List ByteArray} {k j : Nat} (h : ReadIs ws j) (hk : k < 24) (e : wsAt ws 0 = kdW k) : k = j := kdW_inj k hk j h.1 (e.symm.trans h.2.2.1)
theorem offs_at {k j : Nat} (hk : k < 24) (hj : j < offL k) : (offsK (kdN k)).getD j 0 = 1 ∨ (offsK (kdN k)).getD j 0 = 2 ∨ (offsK (kdN k)).getD j 0 = 3 := by
  have h : ∀ k, k < 24 → ∀ j, j < offL k → (offsK (kdN k)).getD j 0 = 1 ∨ (offsK (kdN k)).getD j 0 = 2 ∨ (offsK (kdN k)).getD j 0 = 3 := by decide +kernel
  exact h k hk j hj
theorem offL_le {k : Nat} (hk : k < 24) : offL k ≤ 2 := by
  have h : ∀ k, k < 24 → offL k ≤ 2 := by decide +kernel
  exact h k hk
theorem insX_set {k j : Nat} {ws : List ByteArray} (hk : k < 24) (hj : j < offL k) : (insX k ws j).setIfInBounds ((offsK (kdN k)).getD j 0) (.int .i64 (numW ws (j + 1))) = insX k ws (j + 1) := by
  have ho := offs_at hk hj
  unfold insX
  show _ = insA (k : Int) (setI (insN k ws j) ((offsK (kdN k)).getD j 0) (numW ws (j + 1))).1 (setI (insN k ws j) ((offsK (kdN k)).getD j 0) (numW ws (j + 1))).2.1 (setI (insN k ws j) ((offsK (kdN k)).getD j 0) (numW ws (j + 1))).2.2 (lenM (kdN k))
  generalize (offsK (kdN k)).getD j 0 = o at *
  rcases ho with rfl | rfl | rfl <;> simp [setI]
/-- what reading a text as an instruction gives -/
def RdP (ws : List ByteArray) (e : Ending) : Prop := (∃ k, ReadIs ws k ∧ e = .returned (.tuple #[insY k ws, .bool true])) ∨ ((∀ k, ¬ ReadIs ws k) ∧ ∃ o a b n l, e = .returned (.tuple #[insV o a b n l, .bool false]))
def RdE (s : ByteArray) (e : Ending) : Prop :=
  (65536 < s.size ∧ e = .returned (.tuple #[insV 0 0 0 0 0, .int .i64 2])) ∨
  (¬ 65536 < s.size ∧ ((∃ k, ReadIs (wordsB s) k ∧ e = .returned (.tuple #[insY k (wordsB s), .int .i64 0])) ∨ ((∀ k, ¬ ReadIs (wordsB s) k) ∧ e = .returned (.tuple #[insV 0 0 0 0 0, .int .i64 3]))))
theorem RdE.one {s : ByteArray} {e e' : Ending} (h : RdE s e) (h' : RdE s e') : e = e' := by
  rcases h with ⟨h1, rfl⟩ | ⟨h1, h⟩
  · rcases h' with ⟨_, rfl⟩ | ⟨h2, _⟩
    · rfl
    · exact absurd h1 h2
  · rcases h' with ⟨h2, _⟩ | ⟨_, h'⟩
    · exact absurd h2 h1
    · rcases h with ⟨k, hk, rfl⟩ | ⟨hn, rfl⟩
      · rcases h' with ⟨j, hj, rfl⟩ | ⟨hn', _⟩
        · rw [hk.same hj]
        · exact absurd hk (hn' k)
      · rcases h' with ⟨j, hj, _⟩ | ⟨_, rfl⟩
        · exact absurd hj (hn j)
        · rfl
theorem RdE.form {s : ByteArray} {e : Ending} (h : RdE s e) : ∃ o a b n l c, e = .returned (.tuple #[insV o a b n l, .int .i64 c]) := by
  rcases h with ⟨_, rfl⟩ | ⟨_, ⟨k, _, rfl⟩ | ⟨_, rfl⟩⟩
  · exact ⟨_, _, _, _, _, _, rfl⟩
  · exact ⟨_, _, _, _, _, _, rfl⟩
  · exact ⟨_, _, _, _, _, _, rfl⟩
/-- the words of a text lie in block g -/
structure RSt (w W : World) (ws : List ByteArray) (g : Nat) : Prop where
  q : Blk W w.heap.size zer5
  vc : ∀ i, i < ws.length → W.cell? ⟨g, i, none⟩ = some (.string (wsAt ws i))
  bel : Below w.heap.size w W
theorem RSt.below {w W W' : World} {ws : List ByteArray} {g : Nat} (h : RSt w W ws g) (hb : Below W.heap.size W W') : RSt w W' ws g :=
  ⟨h.q.below hb h.q.lt, fun i hi => cell_kept hb (h.vc i hi), h.bel.trans (hb.mono h.bel.size)⟩
theorem blk_drew {W : World} {b : Nat} {cs : Array Value} (h : Blk W b cs) : Blk W.drew b cs := h
theorem RSt.drew {w W : World} {ws : List ByteArray} {g : Nat} (h : RSt w W ws g) : RSt w W.drew ws g := ⟨blk_drew h.q, h.vc, h.bel.drew⟩
theorem RSt.alloc {w W : World} {ws : List ByteArray} {g : Nat} (h : RSt w W ws g) (o : Obj) : RSt w (W.alloc o) ws g := h.below ((Below.refl _ _).alloc (Nat.le_refl _) o)
theorem RSt.start {w w1 : World} {lo : Nat} {v : Value} {ws : List ByteArray} {t : TypeId} (hb : Below (w.alloc (.cells zer5 t)).heap.size (w.alloc (.cells zer5 t)) w1) (hown : w1.ownsRow lo 9 1 v ws.length (ws.map Value.string)) :
    ∃ va vc g, v = .slice va ws.length vc ∧ ws.length ≤ vc ∧ (0 < ws.length → va = some ⟨g, 0, none⟩) ∧ RSt w w1 ws g := by
  have q := (Blk.new w zer5 t).below hb (by simp)
  have bel : Below w.heap.size w w1 := ((Below.refl _ _).alloc (Nat.le_refl _) _).trans (hb.mono (by simp))
  rcases hown.2 with ⟨rfl, h0⟩ | ⟨g, cap, cur, rfl, _, _, hc, _⟩
  · exact ⟨none, 0, 0, by rw [h0], by omega, fun h => by omega, ⟨q, fun i hi => by omega, bel⟩⟩
  · refine ⟨some ⟨g, 0, none⟩, cap, g, rfl, hc, fun _ => rfl, ⟨q, fun i hi => ?_, bel⟩⟩
    rw [hown.cellAt i (by omega), List.getElem?_map, List.getElem?_eq_getElem hi]
    simp [wsAt, List.getD_eq_getElem?_getD, List.getElem?_eq_getElem hi]
/-- each word is a piece of the text -/
theorem words_size (s : ByteArray) (i : Nat) : (wsAt (wordsB s) i).size ≤ s.size := by
  unfold wsAt wordsB
  rw [List.getD_eq_getElem?_getD, List.getElem?_map]
  cases (wdS s (s.size + 1)).1[i]? with
  | none => exact Nat.zero_le _
  | some x => simp [ByteArray.size_extract]; omega
end Go.Proofs.YtneagomkohoceaaDoor
