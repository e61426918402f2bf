/- Banks of a snapshot, as plain lists of bytes: written, read back, cut off. -/
import Derived.Test.YtghcagibdcblnaaLcs
import Derived.Test.YtghcagibdcblnaaMas
namespace Go.Proofs.Ytghcagibdcblnaa
set_option linter.unusedVariables false
set_option linter.unusedSimpArgs false

/-- a bank: how long it is compressed, in a word, and it -/
def bnkL (b : List Int) : List Int := [((cmpE b).length : Int) % 256, ((cmpE b).length : Int) / 256] ++ cmpE b
def bnksL : List (List Int) → List Int
  | [] => []
  | b :: B => bnkL b ++ bnksL B
/-- k banks of 64 bytes are read: they, what is left over, and a code -/
def rdB : Nat → List Int → List (List Int) × List Int × Int
  | 0, L => ([], L, 0)
  | k + 1, lo :: hi :: L =>
    if L.length < (lo + 256 * hi).toNat then ([], [], 9)
    else if (expE 64 (L.take (lo + 256 * hi).toNat) []).2 = 0 then
      (if (rdB k (L.drop (lo + 256 * hi).toNat)).2.2 = 0 then ((expE 64 (L.take (lo + 256 * hi).toNat) []).1 :: (rdB k (L.drop (lo + 256 * hi).toNat)).1, (rdB k (L.drop (lo + 256 * hi).toNat)).2.1, 0) else ([], [], (rdB k (L.drop (lo + 256 * hi).toNat)).2.2))
    else ([], [], (expE 64 (L.take (lo + 256 * hi).toNat) []).2)
  | _ + 1, _ => ([], [], 9)
theorem exp_bank {b : List Int} (h : b.length = 64) : expE 64 (cmpE b) [] = (b, 0) := by
  have := exp_cmp 64 b.length b [] (Nat.le_refl _) (by simp; omega)
  unfold cmpE
  rw [this, List.nil_append, if_pos h]
theorem bnk_word (b : List Int) : (((cmpE b).length : Int) % 256 + 256 * (((cmpE b).length : Int) / 256)).toNat = (cmpE b).length := by omega
/-- banks are read back, with what stands behind them -/
theorem rd_back : ∀ (B : List (List Int)) (R : List Int), (∀ b ∈ B, b.length = 64) → rdB B.length (bnksL B ++ R) = (B, R, 0)
  | [], R, _ => rfl
  | b :: B, R, h => by
    have hb := h b (List.mem_cons_self ..)
    have ih := rd_back B R (fun x hx => h x (List.mem_cons_of_mem _ hx))
    have e : bnksL (b :: B) ++ R = (((cmpE b).length : Int) % 256) :: (((cmpE b).length : Int) / 256) :: (cmpE b ++ (bnksL B ++ R)) := by
      show (bnkL b ++ bnksL B) ++ R = _
      unfold bnkL
      simp
    rw [e]
    show (if _ < _ then _ else _) = _
    rw [bnk_word]
    rw [if_neg (by rw [List.length_append]; omega), List.take_left' rfl, List.drop_left' rfl, exp_bank hb]
    show (if (0 : Int) = 0 then (if (rdB B.length (bnksL B ++ R)).2.2 = 0 then _ else _) else _) = _
    rw [if_pos rfl, ih]
    rfl
/-- cut off they are told to be at their end -/
theorem rd_cut : ∀ (B : List (List Int)) (j : Nat), (∀ b ∈ B, b.length = 64) → j < (bnksL B).length → (rdB B.length ((bnksL B).take j)).2.2 = 9
  | [], j, _, hj => by
    exact absurd hj (Nat.not_lt_zero _)
  | b :: B, j, h, hj => by
    have hb := h b (List.mem_cons_self ..)
    have e : bnksL (b :: B) = (((cmpE b).length : Int) % 256) :: (((cmpE b).length : Int) / 256) :: (cmpE b ++ bnksL B) := by
      show bnkL b ++ bnksL B = _
      unfold bnkL
      simp
    have hl : (bnksL (b :: B)).length = 2 + (cmpE b).length + (bnksL B).length := by
      rw [e]
      simp
      omega
    rw [e]
    match j with
    | 0 => rfl
    | 1 => rfl
    | j + 2 =>
      rw [hl] at hj
      show (if _ < _ then _ else _ : List (List Int) × List Int × Int).2.2 = 9
      rw [bnk_word]
      by_cases hc : j < (cmpE b).length
      · have h1 : ((cmpE b ++ bnksL B).take j).length < (cmpE b).length := by
          rw [List.length_take, List.length_append]
          omega
        rw [if_pos h1]
      · obtain ⟨i, rfl⟩ : ∃ i, j = (cmpE b).length + i := ⟨j - (cmpE b).length, by omega⟩
        have h2 : (cmpE b ++ bnksL B).take ((cmpE b).length + i) = cmpE b ++ (bnksL B).take i := by
          rw [List.take_append, List.take_of_length_le (by omega), show (cmpE b).length + i - (cmpE b).length = i by omega]
        rw [h2, if_neg (by rw [List.length_append]; omega), List.take_left' rfl, List.drop_left' rfl, exp_bank hb]
        have ih := rd_cut B i (fun x hx => h x (List.mem_cons_of_mem _ hx)) (by omega)
        show (if (0 : Int) = 0 then (if (rdB B.length ((bnksL B).take i)).2.2 = 0 then _ else _) else _ : List (List Int) × List Int × Int).2.2 = 9
        rw [if_pos rfl, ih, if_neg (by decide)]
end Go.Proofs.Ytghcagibdcblnaa

/- A block that holds just these values. -/
namespace Go.Proofs.Ytghcagibdcblnaa
open Go.ChangeShapes Go.WideShapes Go.ChangeAt Go.RowKit
set_option linter.unusedVariables false

/-- block b holds just these values, and is not frozen -/
def Blk (w : World) (b : Nat) (cs : Array Value) : Prop := ∃ t, w.heap[b]? = some (.cells cs t (0, 0))
theorem Blk.cell {w : World} {b : Nat} {cs : Array Value} (h : Blk w b cs) (i : Nat) : w.cell? ⟨b, i, none⟩ = cs[i]? := by
  obtain ⟨t, h⟩ := h
  simp [World.cell?, h]
theorem Blk.frozen {w : World} {b : Nat} {cs : Array Value} (h : Blk w b cs) (i : Nat) : w.frozen? ⟨b, i, none⟩ = false := by
  obtain ⟨t, h⟩ := h
  simp [World.frozen?, h]
theorem Blk.below {w w' : World} {b n : Nat} {cs : Array Value} (h : Blk w b cs) (hb : Below n w w') (hn : b < n) : Blk w' b cs := by
  obtain ⟨t, h⟩ := h
  exact ⟨t, (hb.block b hn).trans h⟩
theorem Blk.new (w : World) (cs : Array Value) (t : TypeId) : Blk (w.alloc (.cells cs t)) w.heap.size cs := ⟨t, heap_alloc_new w _⟩
theorem Blk.alloc {w : World} {b : Nat} {cs : Array Value} (h : Blk w b cs) (o : Obj) : Blk (w.alloc o) b cs := by
  obtain ⟨t, h⟩ := h
  exact ⟨t, (Below.heap_alloc w o b (Array.getElem?_eq_some_iff.1 h).1).trans h⟩
theorem Blk.set {w : World} {b : Nat} {cs : Array Value} (h : Blk w b cs) (i : Nat) (u : Value) : Blk (w.setCell ⟨b, i, none⟩ u) b (cs.setIfInBounds i u) := by
  obtain ⟨t, h⟩ := h
  exact ⟨t, heap_setCell_same' _ _ _ _ _ _ h⟩
theorem Blk.other {w : World} {b : Nat} {cs : Array Value} (h : Blk w b cs) {p : Addr} (hp : b ≠ p.block) (u : Value) : Blk (w.setCell p u) b cs := by
  obtain ⟨t, h⟩ := h
  exact ⟨t, (Below.heap_setCell _ _ _ _ hp).trans h⟩
theorem sizeSet (w : World) (p : Addr) (u : Value) : (w.setCell p u).heap.size = w.heap.size := by simp [World.setCell]
theorem Blk.grown {w w' : World} {b : Nat} {cs : Array Value} {row : Option Nat} (h : Blk w b cs) (hg : w.grownBy w' row) (hne : some b ≠ row) : Blk w' b cs := by
  obtain ⟨t, h⟩ := h
  exact ⟨t, (hg.block b (Array.getElem?_eq_some_iff.1 h).1 hne).trans h⟩
theorem Blk.lt {w : World} {b : Nat} {cs : Array Value} (h : Blk w b cs) : b < w.heap.size := by
  obtain ⟨t, h⟩ := h
  exact (Array.getElem?_eq_some_iff.1 h).1
end Go.Proofs.Ytghcagibdcblnaa
