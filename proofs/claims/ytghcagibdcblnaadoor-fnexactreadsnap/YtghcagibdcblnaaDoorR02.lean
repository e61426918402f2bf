/- Runs at a place of a text: the specification. -/
import Derived.Test.YtghcagibdcblnaaDoorR00
import Derived.Test.YtghcagibdcblnaaDoorMar
import Derived.Deep.QuietTactic
import Derived.BigQuiet
import Derived.OwnWalk
import Derived.Deep.AppendLies
import Derived.Deep.DeepCutAuto
namespace Go.Proofs.YtghcagibdcblnaaDoor
open Go.ChangeShapes Go.WideShapes Go.ChangeAt Go.RowKit
set_option linter.unusedVariables false
set_option linter.unusedSimpArgs false

/-- a text's bytes as numbers -/
def bts (t : ByteArray) : List Int := t.data.toList.map fun b => (b.toNat : Int)
theorem bts_len (t : ByteArray) : (bts t).length = t.size := by simp [bts]
theorem bts_at (t : ByteArray) {k : Nat} (h : k < t.size) : (bts t)[k]? = some (byt t k) := by
  have h' : k < t.data.toList.length := by simpa using h
  unfold bts byt
  rw [List.getElem?_map, List.getElem?_eq_getElem h', List.getD_eq_getElem?_getD, List.getElem?_eq_getElem h']
  rfl
theorem bts_drop (t : ByteArray) {k : Nat} (h : k < t.size) : (bts t).drop k = byt t k :: (bts t).drop (k + 1) := by
  have h' : k < (bts t).length := by rw [bts_len]; exact h
  rw [List.drop_eq_getElem_cons h']
  have := bts_at t h
  rw [List.getElem?_eq_getElem h'] at this
  rw [Option.some.inj this]
theorem bts_all (t : ByteArray) : ∀ x ∈ bts t, 0 ≤ x ∧ x ≤ 255 := by
  intro x hx
  obtain ⟨b, _, rfl⟩ := List.mem_map.1 hx
  have := b.toNat_lt
  omega
theorem str_bts (t : ByteArray) : strOfNums (bts t) = t := by
  have e : (strOfNums (bts t)).data = t.data := by
    apply Array.ext'
    rw [strOfNums_data]
    unfold bts
    rw [List.map_map]
    conv => rhs; rw [← List.map_id t.data.toList]
    apply List.map_congr_left
    intro b _
    simp
  cases h : strOfNums (bts t)
  cases t
  rw [h] at e
  exact congrArg ByteArray.mk e
theorem bts_str {xs : List Int} (h : ∀ x ∈ xs, 0 ≤ x ∧ x ≤ 255) : bts (strOfNums xs) = xs := by
  unfold bts
  rw [strOfNums_data, List.map_map]
  conv => rhs; rw [← List.map_id xs]
  apply List.map_congr_left
  intro x hx
  have := h x hx
  simp
  omega
/-- the run at a place -/
def runT (t : ByteArray) (i : Nat) : Nat := runH 255 (byt t i) ((bts t).drop i)
theorem runT_go {t : ByteArray} {i n : Nat} (hn : n < 255) (h : i + n < t.size) (he : byt t (i + n) = byt t i) : runH (255 - n) (byt t i) ((bts t).drop (i + n)) = runH (255 - (n + 1)) (byt t i) ((bts t).drop (i + (n + 1))) + 1 := by
  rw [bts_drop t h]
  obtain ⟨f, hf⟩ : ∃ f, 255 - n = f + 1 := ⟨254 - n, by omega⟩
  have e : 255 - (n + 1) = f := by omega
  rw [hf, e]
  show (if byt t (i + n) = byt t i then _ else _) = _
  rw [if_pos he]
  rfl
theorem runT_stop {t : ByteArray} {i n : Nat} (h : ¬ n < 255 ∨ ¬ i + n < t.size ∨ (i + n < t.size ∧ byt t (i + n) ≠ byt t i)) : runH (255 - n) (byt t i) ((bts t).drop (i + n)) = 0 := by
  rcases h with h | h | ⟨h1, h2⟩
  · rw [show 255 - n = 0 by omega]
    rfl
  · rw [List.drop_eq_nil_of_le (by rw [bts_len]; omega)]
    cases (255 - n) <;> rfl
  · rw [bts_drop t h1]
    cases (255 - n) with
    | zero => rfl
    | succ f =>
      show (if byt t (i + n) = byt t i then _ else _) = _
      rw [if_neg h2]
theorem runT_bd (t : ByteArray) (i : Nat) (h : i < t.size) : 1 ≤ runT t i ∧ runT t i ≤ 255 ∧ i + runT t i ≤ t.size := by
  have h1 := runH_le 255 (byt t i) ((bts t).drop i)
  rw [List.length_drop, bts_len] at h1
  refine ⟨?_, h1.1, by unfold runT; omega⟩
  unfold runT
  rw [bts_drop t h]
  exact runH_pos
end Go.Proofs.YtghcagibdcblnaaDoor

/- Runs compressed: the specification. -/
namespace Go.Proofs.YtghcagibdcblnaaDoor
open Go.ChangeShapes Go.WideShapes Go.ChangeAt Go.RowKit
set_option linter.unusedVariables false
set_option linter.unusedSimpArgs false

theorem cmpL_more : ∀ (f g : Nat) (L : List Int), L.length ≤ f → L.length ≤ g → cmpL f L = cmpL g L
  | 0, g, L, hf, _ => by
    obtain rfl : L = [] := List.length_eq_zero_iff.1 (by omega)
    cases g <;> rfl
  | f + 1, g, [], _, _ => by cases g <;> rfl
  | f + 1, g, b :: L, hf, hg => by
    simp only [List.length_cons] at hf hg
    obtain ⟨g, rfl⟩ : ∃ g', g = g' + 1 := ⟨g - 1, by omega⟩
    rw [cmpL_cons, cmpL_cons]
    have hpos : 1 ≤ runH 255 b (b :: L) := runH_pos
    rw [cmpL_more f g ((b :: L).drop (runH 255 b (b :: L))) (by rw [List.length_drop, List.length_cons]; omega) (by rw [List.length_drop, List.length_cons]; omega), cmpL_more f g L (by omega) (by omega)]
    match L, hf, hg with
    | [], _, _ => rfl
    | c :: M, hf, hg =>
      simp only [List.length_cons] at hf hg
      show (if _ then _ else if b = 237 then b :: c :: cmpL f M else _) = (if _ then _ else if b = 237 then b :: c :: cmpL g M else _)
      rw [cmpL_more f g M (by omega) (by omega)]
def cmpE (L : List Int) : List Int := cmpL L.length L
theorem cmpE_nil : cmpE [] = [] := rfl
theorem cmpE_run {b : Int} {L : List Int} (h : 5 ≤ runH 255 b (b :: L) ∨ (b = 237 ∧ 2 ≤ runH 255 b (b :: L))) : cmpE (b :: L) = [237, 237, (runH 255 b (b :: L) : Int), b] ++ cmpE ((b :: L).drop (runH 255 b (b :: L))) := by
  have hpos : 1 ≤ runH 255 b (b :: L) := runH_pos
  show cmpL (L.length + 1) (b :: L) = _
  rw [cmpL_cons, if_pos h]
  unfold cmpE
  rw [cmpL_more L.length ((b :: L).drop (runH 255 b (b :: L))).length _ (by rw [List.length_drop, List.length_cons]; omega) (Nat.le_refl _)]
theorem cmpE_two {c : Int} {M : List Int} (h : ¬ (5 ≤ runH 255 237 (237 :: c :: M) ∨ 2 ≤ runH 255 237 (237 :: c :: M))) : cmpE (237 :: c :: M) = [237, c] ++ cmpE M := by
  show cmpL ((c :: M).length + 1) (237 :: c :: M) = _
  rw [cmpL_cons, if_neg (fun hh => h (by rcases hh with hh | hh; exact .inl hh; exact .inr hh.2)), if_pos rfl]
  unfold cmpE
  show 237 :: c :: cmpL (c :: M).length M = _
  rw [cmpL_more (c :: M).length M.length M (by simp) (Nat.le_refl _)]
  rfl
theorem cmpE_last : cmpE [237] = [237] := by decide
theorem cmpE_one {b : Int} {L : List Int} (h : ¬ 5 ≤ runH 255 b (b :: L)) (hb : b ≠ 237) : cmpE (b :: L) = [b] ++ cmpE L := by
  show cmpL (L.length + 1) (b :: L) = _
  rw [cmpL_cons, if_neg (fun hh => by rcases hh with hh | hh; exact h hh; exact hb hh.1), if_neg hb]
  rfl
theorem cmpE_len (L : List Int) : (cmpE L).length ≤ 2 * L.length := cmp_len _ _
/-- at a place of a text -/
theorem cmpT_run {t : ByteArray} {i : Nat} (hi : i < t.size) (h : 5 ≤ runT t i ∨ (byt t i = 237 ∧ 2 ≤ runT t i)) : cmpE ((bts t).drop i) = [237, 237, (runT t i : Int), byt t i] ++ cmpE ((bts t).drop (i + runT t i)) := by
  have e : runT t i = runH 255 (byt t i) (byt t i :: (bts t).drop (i + 1)) := by unfold runT; rw [bts_drop t hi]
  have h2 : (bts t).drop (i + runT t i) = (byt t i :: (bts t).drop (i + 1)).drop (runT t i) := by rw [← bts_drop t hi, List.drop_drop]
  rw [h2, bts_drop t hi, e]
  rw [e] at h
  exact cmpE_run h
theorem cmpT_one {t : ByteArray} {i : Nat} (hi : i < t.size) (h : ¬ 5 ≤ runT t i) (hb : byt t i ≠ 237) : cmpE ((bts t).drop i) = [byt t i] ++ cmpE ((bts t).drop (i + 1)) := by
  have e : runT t i = runH 255 (byt t i) (byt t i :: (bts t).drop (i + 1)) := by unfold runT; rw [bts_drop t hi]
  rw [bts_drop t hi]
  rw [e] at h
  exact cmpE_one h hb
theorem cmpT_two {t : ByteArray} {i : Nat} (hi : i + 1 < t.size) (hb : byt t i = 237) (h : ¬ 2 ≤ runT t i) : cmpE ((bts t).drop i) = [237, byt t (i + 1)] ++ cmpE ((bts t).drop (i + 1 + 1)) := by
  have e : runT t i = runH 255 (byt t i) (byt t i :: (bts t).drop (i + 1)) := by unfold runT; rw [bts_drop t (by omega)]
  rw [bts_drop t (show i < t.size by omega), bts_drop t hi, hb]
  rw [e, bts_drop t hi, hb] at h
  exact cmpE_two (fun hh => h (by rcases hh with hh | hh <;> omega))
theorem cmpT_last {t : ByteArray} {i : Nat} (hi : i + 1 = t.size) (hb : byt t i = 237) : cmpE ((bts t).drop i) = [237] := by
  rw [bts_drop t (by omega), hb, List.drop_eq_nil_of_le (by rw [bts_len]; omega)]
  exact cmpE_last
/-- a row of bytes that grows -/
structure GrowB (w W : World) (v : Value) (l : List Int) : Prop where
  own : W.ownsRow w.heap.size 5 1 v l.length (l.map (Value.int .u8))
  bel : Below w.heap.size w W
theorem GrowB.form {w W : World} {v : Value} {l : List Int} (h : GrowB w W v l) : ∃ oa cap, v = .slice oa l.length cap := by
  obtain ⟨_, ⟨h1, h0⟩ | ⟨g, cap, _, h1, _⟩⟩ := h.own
  · exact ⟨none, 0, by rw [h1, h0]⟩
  · exact ⟨_, _, h1⟩
theorem GrowB.drewN {w W : World} {v : Value} {l : List Int} (h : GrowB w W v l) (n : Nat) : GrowB w (W.drewN n) v l := ⟨h.own, h.bel.trans ⟨rfl, rfl, rfl, Nat.le_refl _, fun _ _ => rfl⟩⟩
theorem GrowB.app {w W W' : World} {v v' : Value} {l : List Int} {o : Obj} (h : GrowB w W v l) (xs : List Int) (ho : W'.ownsRow w.heap.size 5 1 v' (l.length + xs.length) (l.map (Value.int .u8) ++ xs.map (Value.int .u8))) (hg : (W.alloc o).grownBy W' v.ownBlock) : GrowB w W' v' (l ++ xs) := by
  have hsz := h.bel.size
  refine ⟨by rw [List.length_append, List.map_append]; exact ho, ?_⟩
  exact (h.bel.alloc (by omega) _).grown hg (by simp; omega) (fun g hg => (h.own.lt g hg).1)
theorem GrowB.nil (w : World) : GrowB w (w.alloc (.cells #[] 5)) (.slice (some ⟨w.heap.size, 0, none⟩) 0 0) [] := ⟨World.ownsRow_lit w #[] 0 (Nat.le_refl _) (by decide) rfl, (Below.refl _ _).alloc (Nat.le_refl _) _⟩
end Go.Proofs.YtghcagibdcblnaaDoor

/- Banks of a snapshot, as plain lists of bytes: written, read back, cut off. -/
namespace Go.Proofs.YtghcagibdcblnaaDoor
set_option linter.unusedVariables false
set_option linter.unusedSimpArgs false

/-- a bank: how long it is compressed, in a word, and it -/
def bnkL (b : List Int) : List Int := [((cmpE b).length : Int) % 256, ((cmpE b).length : Int) / 256] ++ cmpE b
def bnksL : List (List Int) → List Int
  | [] => []
  | b :: B => bnkL b ++ bnksL B
/-- k banks of 64 bytes are read: they, what is left over, and a code -/
def rdB : Nat → List Int → List (List Int) × List Int × Int
  | 0, L => ([], L, 0)
  | k + 1, lo :: hi :: L =>
    if L.length < (lo + 256 * hi).toNat then ([], [], 9)
    else if (expE 64 (L.take (lo + 256 * hi).toNat) []).2 = 0 then
      (if (rdB k (L.drop (lo + 256 * hi).toNat)).2.2 = 0 then ((expE 64 (L.take (lo + 256 * hi).toNat) []).1 :: (rdB k (L.drop (lo + 256 * hi).toNat)).1, (rdB k (L.drop (lo + 256 * hi).toNat)).2.1, 0) else ([], [], (rdB k (L.drop (lo + 256 * hi).toNat)).2.2))
    else ([], [], (expE 64 (L.take (lo + 256 * hi).toNat) []).2)
  | _ + 1, _ => ([], [], 9)
theorem exp_bank {b : List Int} (h : b.length = 64) : expE 64 (cmpE b) [] = (b, 0) := by
  have := exp_cmp 64 b.length b [] (Nat.le_refl _) (by simp; omega)
  unfold cmpE
  rw [this, List.nil_append, if_pos h]
theorem bnk_word (b : List Int) : (((cmpE b).length : Int) % 256 + 256 * (((cmpE b).length : Int) / 256)).toNat = (cmpE b).length := by omega
/-- banks are read back, with what stands behind them -/
theorem rd_back : ∀ (B : List (List Int)) (R : List Int), (∀ b ∈ B, b.length = 64) → rdB B.length (bnksL B ++ R) = (B, R, 0)
  | [], R, _ => rfl
  | b :: B, R, h => by
    have hb := h b (List.mem_cons_self ..)
    have ih := rd_back B R (fun x hx => h x (List.mem_cons_of_mem _ hx))
    have e : bnksL (b :: B) ++ R = (((cmpE b).length : Int) % 256) :: (((cmpE b).length : Int) / 256) :: (cmpE b ++ (bnksL B ++ R)) := by
      show (bnkL b ++ bnksL B) ++ R = _
      unfold bnkL
      simp
    rw [e]
    show (if _ < _ then _ else _) = _
    rw [bnk_word]
    rw [if_neg (by rw [List.length_append]; omega), List.take_left' rfl, List.drop_left' rfl, exp_bank hb]
    show (if (0 : Int) = 0 then (if (rdB B.length (bnksL B ++ R)).2.2 = 0 then _ else _) else _) = _
    rw [if_pos rfl, ih]
    rfl
/-- cut off they are told to be at their end -/
theorem rd_cut : ∀ (B : List (List Int)) (j : Nat), (∀ b ∈ B, b.length = 64) → j < (bnksL B).length → (rdB B.length ((bnksL B).take j)).2.2 = 9
  | [], j, _, hj => by
    exact absurd hj (Nat.not_lt_zero _)
  | b :: B, j, h, hj => by
    have hb := h b (List.mem_cons_self ..)
    have e : bnksL (b :: B) = (((cmpE b).length : Int) % 256) :: (((cmpE b).length : Int) / 256) :: (cmpE b ++ bnksL B) := by
      show bnkL b ++ bnksL B = _
      unfold bnkL
      simp
    have hl : (bnksL (b :: B)).length = 2 + (cmpE b).length + (bnksL B).length := by
      rw [e]
      simp
      omega
    rw [e]
    match j with
    | 0 => rfl
    | 1 => rfl
    | j + 2 =>
      rw [hl] at hj
      show (if _ < _ then _ else _ : List (List Int) × List Int × Int).2.2 = 9
      rw [bnk_word]
      by_cases hc : j < (cmpE b).length
      · have h1 : ((cmpE b ++ bnksL B).take j).length < (cmpE b).length := by
          rw [List.length_take, List.length_append]
          omega
        rw [if_pos h1]
      · obtain ⟨i, rfl⟩ : ∃ i, j = (cmpE b).length + i := ⟨j - (cmpE b).length, by omega⟩
        have h2 : (cmpE b ++ bnksL B).take ((cmpE b).length + i) = cmpE b ++ (bnksL B).take i := by
          rw [List.take_append, List.take_of_length_le (by omega), show (cmpE b).length + i - (cmpE b).length = i by omega]
        rw [h2, if_neg (by rw [List.length_append]; omega), List.take_left' rfl, List.drop_left' rfl, exp_bank hb]
        have ih := rd_cut B i (fun x hx => h x (List.mem_cons_of_mem _ hx)) (by omega)
        show (if (0 : Int) = 0 then (if (rdB B.length ((bnksL B).take i)).2.2 = 0 then _ else _) else _ : List (List Int) × List Int × Int).2.2 = 9
        rw [if_pos rfl, ih, if_neg (by decide)]
end Go.Proofs.YtghcagibdcblnaaDoor

/- A block that holds just these values. -/
namespace Go.Proofs.YtghcagibdcblnaaDoor
open Go.ChangeShapes Go.WideShapes Go.ChangeAt Go.RowKit
set_option linter.unusedVariables false

/-- block b holds just these values, and is not frozen -/
def Blk (w : World) (b : Nat) (cs : Array Value) : Prop := ∃ t, w.heap[b]? = some (.cells cs t (0, 0))
theorem Blk.cell {w : World} {b : Nat} {cs : Array Value} (h : Blk w b cs) (i : Nat) : w.cell? ⟨b, i, none⟩ = cs[i]? := by
  obtain ⟨t, h⟩ := h
  simp [World.cell?, h]
theorem Blk.frozen {w : World} {b : Nat} {cs : Array Value} (h : Blk w b cs) (i : Nat) : w.frozen? ⟨b, i, none⟩ = false := by
  obtain ⟨t, h⟩ := h
  simp [World.frozen?, h]
theorem Blk.below {w w' : World} {b n : Nat} {cs : Array Value} (h : Blk w b cs) (hb : Below n w w') (hn : b < n) : Blk w' b cs := by
  obtain ⟨t, h⟩ := h
  exact ⟨t, (hb.block b hn).trans h⟩
theorem Blk.new (w : World) (cs : Array Value) (t : TypeId) : Blk (w.alloc (.cells cs t)) w.heap.size cs := ⟨t, heap_alloc_new w _⟩
theorem Blk.alloc {w : World} {b : Nat} {cs : Array Value} (h : Blk w b cs) (o : Obj) : Blk (w.alloc o) b cs := by
  obtain ⟨t, h⟩ := h
  exact ⟨t, (Below.heap_alloc w o b (Array.getElem?_eq_some_iff.1 h).1).trans h⟩
theorem Blk.set {w : World} {b : Nat} {cs : Array Value} (h : Blk w b cs) (i : Nat) (u : Value) : Blk (w.setCell ⟨b, i, none⟩ u) b (cs.setIfInBounds i u) := by
  obtain ⟨t, h⟩ := h
  exact ⟨t, heap_setCell_same' _ _ _ _ _ _ h⟩
theorem Blk.other {w : World} {b : Nat} {cs : Array Value} (h : Blk w b cs) {p : Addr} (hp : b ≠ p.block) (u : Value) : Blk (w.setCell p u) b cs := by
  obtain ⟨t, h⟩ := h
  exact ⟨t, (Below.heap_setCell _ _ _ _ hp).trans h⟩
theorem sizeSet (w : World) (p : Addr) (u : Value) : (w.setCell p u).heap.size = w.heap.size := by simp [World.setCell]
theorem Blk.grown {w w' : World} {b : Nat} {cs : Array Value} {row : Option Nat} (h : Blk w b cs) (hg : w.grownBy w' row) (hne : some b ≠ row) : Blk w' b cs := by
  obtain ⟨t, h⟩ := h
  exact ⟨t, (hg.block b (Array.getElem?_eq_some_iff.1 h).1 hne).trans h⟩
theorem Blk.lt {w : World} {b : Nat} {cs : Array Value} (h : Blk w b cs) : b < w.heap.size := by
  obtain ⟨t, h⟩ := h
  exact (Array.getElem?_eq_some_iff.1 h).1
end Go.Proofs.YtghcagibdcblnaaDoor
