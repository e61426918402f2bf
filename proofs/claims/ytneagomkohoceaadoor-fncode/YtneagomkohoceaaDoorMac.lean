/- Rows of numbers, rows of rows, and memories, as they lie in a world: read wherever they lie, or owned in blocks of their own. -/
import Derived.Test.YtneagomkohoceaaDoorBasec
import Derived.Deep.OwnRows
import Derived.Deep.Slices
import Derived.Deep.Matrix
import Derived.Lib.SmallJoins
namespace Go.Proofs.YtneagomkohoceaaDoor
open Go.ChangeShapes Go.WideShapes Go.ChangeAt Go.RowKit Go.Joins
set_option linter.unusedVariables false

theorem hid {p : Prop} (h : p) : Hid p := h
/-- outside of the blocks from lo up to hi, nothing that was there has turned -/
structure Touch (lo hi : Nat) (w w' : World) : Prop where
  os : w'.os = w.os
  tape : w'.tape = w.tape
  output : w'.output = w.output
  size : w.heap.size ≤ w'.heap.size
  block : ∀ k, k < w.heap.size → (k < lo ∨ hi ≤ k) → w'.heap[k]? = w.heap[k]?
theorem Touch.refl (lo hi : Nat) (w : World) : Touch lo hi w w := ⟨rfl, rfl, rfl, Nat.le_refl _, fun _ _ _ => rfl⟩
theorem Touch.trans {lo hi : Nat} {a b c : World} (h : Touch lo hi a b) (k : Touch lo hi b c) : Touch lo hi a c :=
  ⟨k.os.trans h.os, k.tape.trans h.tape, k.output.trans h.output, Nat.le_trans h.size k.size, fun i hi ho => (k.block i (Nat.lt_of_lt_of_le hi h.size) ho).trans (h.block i hi ho)⟩
theorem Touch.of_below {lo hi : Nat} {w w' : World} (h : Below w.heap.size w w') : Touch lo hi w w' := ⟨h.os, h.tape, h.output, h.size, fun k hk _ => h.block k hk⟩
theorem Touch.of_grown {lo hi g : Nat} {w w' : World} (h : w.grownBy w' (some g)) (h0 : lo ≤ g) (h1 : g < hi) : Touch lo hi w w' :=
  ⟨h.os, h.tape, h.output, h.size, fun k hk ho => h.block k hk (by simp; omega)⟩
theorem Touch.mono {lo hi lo' hi' : Nat} {w w' : World} (h : Touch lo hi w w') (h0 : lo' ≤ lo) (h1 : hi ≤ hi') : Touch lo' hi' w w' :=
  ⟨h.os, h.tape, h.output, h.size, fun k hk ho => h.block k hk (by omega)⟩
theorem Touch.below {lo hi n : Nat} {a w w' : World} (h : Touch lo hi w w') (hb : Below n a w) (hn : n ≤ lo) (hw : n ≤ w.heap.size) : Below n a w' :=
  hb.trans ⟨h.os, h.tape, h.output, h.size, fun k hk => h.block k (by omega) (.inl (by omega))⟩

/-- a slice that reads these numbers, wherever they lie -/
def RowR (w : World) (v : Value) (zs : List Int) : Prop :=
  ∃ a cap, v = .slice a zs.length cap ∧ (zs = [] ∨ ∃ b off, a = some ⟨b, off, none⟩ ∧ ∀ i, i < zs.length → w.cell? ⟨b, off + i, none⟩ = some (.int .i64 (zs.getD i 0)))
theorem RowR.below {w w' : World} {v : Value} {zs : List Int} (h : RowR w v zs) (hb : Below w.heap.size w w') : RowR w' v zs := by
  obtain ⟨a, cap, rfl, h⟩ := h
  refine ⟨a, cap, rfl, ?_⟩
  rcases h with h | ⟨b, off, rfl, h⟩
  · exact .inl h
  · refine .inr ⟨b, off, rfl, fun i hi => ?_⟩
    have h1 := h i hi
    rw [hb.cell (p := ⟨b, off + i, none⟩) (World.block_lt_of_cell? w _ h1)]
    exact h1
theorem RowR.nil (w : World) : RowR w (.slice none 0 0) [] := ⟨none, 0, rfl, .inl rfl⟩
/-- a slice of slices that read these rows -/
def RowsR (w : World) (v : Value) (zss : List (List Int)) : Prop :=
  ∃ a cap, v = .slice a zss.length cap ∧ (zss = [] ∨ ∃ b off, a = some ⟨b, off, none⟩ ∧ ∀ i, i < zss.length → ∃ u, w.cell? ⟨b, off + i, none⟩ = some u ∧ RowR w u (zss.getD i []))
theorem RowsR.below {w w' : World} {v : Value} {zss : List (List Int)} (h : RowsR w v zss) (hb : Below w.heap.size w w') : RowsR w' v zss := by
  obtain ⟨a, cap, rfl, h⟩ := h
  refine ⟨a, cap, rfl, ?_⟩
  rcases h with h | ⟨b, off, rfl, h⟩
  · exact .inl h
  · refine .inr ⟨b, off, rfl, fun i hi => ?_⟩
    obtain ⟨u, h1, h2⟩ := h i hi
    refine ⟨u, ?_, h2.below hb⟩
    rw [hb.cell (p := ⟨b, off + i, none⟩) (World.block_lt_of_cell? w _ h1)]
    exact h1

/-- a memory of the document -/
structure Mem where
  rom : List Int
  ram : List (List Int)
  page : Int
  screen : Int
  locked : Bool
abbrev memV (vr vm : Value) (p s : Int) (l : Bool) : Value := .agg #[vr, vm, .int .i64 p, .int .i64 s, .bool l]
/-- a value that reads as this memory -/
def MemR (w : World) (v : Value) (M : Mem) : Prop := ∃ vr vm, v = memV vr vm M.page M.screen M.locked ∧ RowR w vr M.rom ∧ RowsR w vm M.ram
theorem MemR.below {w w' : World} {v : Value} {M : Mem} (h : MemR w v M) (hb : Below w.heap.size w w') : MemR w' v M := by
  obtain ⟨vr, vm, rfl, h1, h2⟩ := h
  exact ⟨vr, vm, rfl, h1.below hb, h2.below hb⟩
def mem0 : Mem := ⟨[], [], 0, 0, false⟩
theorem MemR.zero (w : World) : MemR w (memV (.slice none 0 0) (.slice none 0 0) 0 0 false) mem0 := ⟨_, _, rfl, RowR.nil w, none, 0, rfl, .inl rfl⟩

/-- a slice at the start of block g, which holds these numbers and is not frozen -/
def RowO (w : World) (g : Nat) (v : Value) (zs : List Int) : Prop :=
  ∃ cap c t, v = .slice (some ⟨g, 0, none⟩) zs.length cap ∧ w.heap[g]? = some (.cells c t (0, 0)) ∧ ∀ i, i < zs.length → c[i]? = some (.int .i64 (zs.getD i 0))
theorem RowO.lt {w : World} {g : Nat} {v : Value} {zs : List Int} (h : RowO w g v zs) : g < w.heap.size := by
  obtain ⟨cap, c, t, _, h, _⟩ := h
  exact (Array.getElem?_eq_some_iff.1 h).1
theorem RowO.cell {w : World} {g : Nat} {v : Value} {zs : List Int} (h : RowO w g v zs) : ∀ i, i < zs.length → w.cell? ⟨g, i, none⟩ = some (.int .i64 (zs.getD i 0)) := by
  obtain ⟨cap, c, t, _, h, h2⟩ := h
  intro i hi
  simp [World.cell?, h, h2 i hi]
theorem RowO.frozen {w : World} {g : Nat} {v : Value} {zs : List Int} (h : RowO w g v zs) (i : Nat) : w.frozen? ⟨g, i, none⟩ = false := by
  obtain ⟨cap, c, t, _, h, _⟩ := h
  simp [World.frozen?, h]
theorem RowO.reads {w : World} {g : Nat} {v : Value} {zs : List Int} (h : RowO w g v zs) : RowR w v zs := by
  have h1 := h.cell
  obtain ⟨cap, c, t, rfl, _, _⟩ := h
  exact ⟨_, cap, rfl, .inr ⟨g, 0, rfl, fun i hi => by rw [Nat.zero_add]; exact h1 i hi⟩⟩
theorem RowO.kept {w w' : World} {g : Nat} {v : Value} {zs : List Int} (h : RowO w g v zs) (e : w'.heap[g]? = w.heap[g]?) : RowO w' g v zs := by
  obtain ⟨cap, c, t, h1, h2, h3⟩ := h
  exact ⟨cap, c, t, h1, e.trans h2, h3⟩
theorem heap_setCell_same' (w : World) (g i : Nat) (c : Array Value) (t : TypeId) (u : Value) (h : w.heap[g]? = some (.cells c t (0, 0))) : (w.setCell ⟨g, i, none⟩ u).heap[g]? = some (.cells (c.setIfInBounds i u) t (0, 0)) := by
  simp [World.setCell, Array.getElem?_modify, h]
theorem RowO.set {w : World} {g : Nat} {v : Value} {zs : List Int} (h : RowO w g v zs) (i : Nat) (z : Int) : RowO (w.setCell ⟨g, i, none⟩ (.int .i64 z)) g v (zs.set i z) := by
  obtain ⟨cap, c, t, h1, h2, h3⟩ := h
  refine ⟨cap, c.setIfInBounds i (.int .i64 z), t, by rw [List.length_set]; exact h1, heap_setCell_same' _ _ _ _ _ _ h2, fun j hj => ?_⟩
  rw [List.length_set] at hj
  rw [Array.getElem?_setIfInBounds]
  have hc := h3 j hj
  by_cases e : i = j
  · subst e
    have hlt : i < c.size := (Array.getElem?_eq_some_iff.1 hc).1
    simp [hlt, List.getD_eq_getElem?_getD, List.getElem?_set_self hj]
  · rw [if_neg e, hc, List.getD_eq_getElem?_getD, List.getD_eq_getElem?_getD, List.getElem?_set_ne e]
/-- what ownsRow says, in these words -/
theorem RowO.of_owns {w : World} {B : Nat} {t : TypeId} {v : Value} {n : Nat} {zs : List Int} (h : w.ownsRow B t 1 v n (zs.map (Value.int .i64))) (hn : 0 < n) : ∃ g, B ≤ g ∧ RowO w g v zs := by
  obtain ⟨hl, ⟨rfl, rfl⟩ | ⟨g, cap, cur, rfl, hb, hh, hnc, hm, hs, ht⟩⟩ := h
  · omega
  · have hx : zs.length = n := by simpa using hl
    refine ⟨g, hb, cap, cur, t, by rw [hx], hh, fun i hi => ?_⟩
    have h1 : (cur.toList.take (n * 1))[i]? = (zs.map (Value.int .i64))[i]? := by rw [ht]
    rw [List.getElem?_take, if_pos (by omega), List.getElem?_map, List.getElem?_eq_getElem hi] at h1
    simpa [List.getD_eq_getElem?_getD, List.getElem?_eq_getElem hi] using h1

/-- a slice at the start of block s, whose elements are the slices V, row by row in blocks G -/
def RowsO (w : World) (s : Nat) (G : Nat → Nat) (v : Value) (zss : List (List Int)) : Prop :=
  ∃ (cap : Nat) (c : Array Value) (t : TypeId) (V : Nat → Value), v = .slice (some ⟨s, 0, none⟩) zss.length cap ∧ w.heap[s]? = some (.cells c t (0, 0)) ∧ (∀ i, i < zss.length → c[i]? = some (V i)) ∧ ∀ i, i < zss.length → RowO w (G i) (V i) (zss.getD i [])
theorem RowsO.reads {w : World} {s : Nat} {G : Nat → Nat} {v : Value} {zss : List (List Int)} (h : RowsO w s G v zss) : RowsR w v zss := by
  obtain ⟨cap, c, t, V, rfl, h1, h2, h3⟩ := h
  refine ⟨_, cap, rfl, .inr ⟨s, 0, rfl, fun i hi => ⟨V i, ?_, (h3 i hi).reads⟩⟩⟩
  simp [World.cell?, h1, h2 i hi]
theorem RowsO.kept {w w' : World} {s : Nat} {G : Nat → Nat} {v : Value} {zss : List (List Int)} (h : RowsO w s G v zss) (e : w'.heap[s]? = w.heap[s]?) (k : ∀ i, i < zss.length → w'.heap[G i]? = w.heap[G i]?) : RowsO w' s G v zss := by
  obtain ⟨cap, c, t, V, h0, h1, h2, h3⟩ := h
  exact ⟨cap, c, t, V, h0, e.trans h1, h2, fun i hi => (h3 i hi).kept (k i hi)⟩

/-- a memory in blocks of its own, from lo up to hi, no two of them the same; or one of nils -/
def MemO (w : World) (lo hi : Nat) (v : Value) (M : Mem) : Prop :=
  (v = memV (.slice none 0 0) (.slice none 0 0) M.page M.screen M.locked ∧ M.rom = [] ∧ M.ram = []) ∨
  ∃ vr vm r s G, v = memV vr vm M.page M.screen M.locked ∧ RowO w r vr M.rom ∧ RowsO w s G vm M.ram ∧ (lo ≤ r ∧ r < hi) ∧ (lo ≤ s ∧ s < hi) ∧ (∀ i, i < M.ram.length → lo ≤ G i ∧ G i < hi) ∧
    r ≠ s ∧ (∀ i, i < M.ram.length → G i ≠ r ∧ G i ≠ s) ∧ ∀ i j, i < M.ram.length → j < M.ram.length → G i = G j → i = j
theorem MemO.reads {w : World} {lo hi : Nat} {v : Value} {M : Mem} (h : MemO w lo hi v M) : MemR w v M := by
  rcases h with ⟨rfl, h1, h2⟩ | ⟨vr, vm, r, s, G, rfl, h1, h2, _⟩
  · exact ⟨_, _, rfl, by rw [h1]; exact RowR.nil w, none, 0, by rw [h2]; rfl, .inl h2⟩
  · exact ⟨_, _, rfl, h1.reads, h2.reads⟩
theorem MemO.kept {w w' : World} {lo hi : Nat} {v : Value} {M : Mem} (h : MemO w lo hi v M) (k : ∀ b, lo ≤ b → b < hi → w'.heap[b]? = w.heap[b]?) : MemO w' lo hi v M := by
  rcases h with h | ⟨vr, vm, r, s, G, rfl, h1, h2, b1, b2, b3, d⟩
  · exact .inl h
  · exact .inr ⟨vr, vm, r, s, G, rfl, h1.kept (k r b1.1 b1.2), h2.kept (k s b2.1 b2.2) (fun i hi => k _ (b3 i hi).1 (b3 i hi).2), b1, b2, b3, d⟩
theorem MemO.mono {w : World} {lo hi lo' hi' : Nat} {v : Value} {M : Mem} (h : MemO w lo hi v M) (h0 : lo' ≤ lo) (h1 : hi ≤ hi') : MemO w lo' hi' v M := by
  rcases h with h | ⟨vr, vm, r, s, G, rfl, k1, k2, b1, b2, b3, d⟩
  · exact .inl h
  · exact .inr ⟨vr, vm, r, s, G, rfl, k1, k2, by omega, by omega, fun i hi => by have := b3 i hi; omega, d⟩
theorem MemO.below {w w' : World} {lo hi n : Nat} {v : Value} {M : Mem} (h : MemO w lo hi v M) (hb : Below n w w') (hn : hi ≤ n) : MemO w' lo hi v M := h.kept (fun b _ h1 => hb.block b (by omega))
theorem MemO.touch {w w' : World} {lo hi lo' hi' : Nat} {v : Value} {M : Mem} (h : MemO w lo hi v M) (ht : Touch lo' hi' w w') (hw : hi ≤ w.heap.size) (hd : hi ≤ lo' ∨ hi' ≤ lo) : MemO w' lo hi v M :=
  h.kept (fun b h0 h1 => ht.block b (by omega) (by omega))
theorem MemO.zero (w : World) (lo hi : Nat) : MemO w lo hi (memV (.slice none 0 0) (.slice none 0 0) 0 0 false) mem0 := .inl ⟨rfl, rfl, rfl⟩

theorem array5 {α : Type} {cs : Array α} (h : cs.size = 5) : ∃ c0 c1 c2 c3 c4, cs = #[c0, c1, c2, c3, c4] := by
  obtain ⟨l⟩ := cs
  match l, h with
  | [c0, c1, c2, c3, c4], _ => exact ⟨c0, c1, c2, c3, c4, rfl⟩
end Go.Proofs.YtneagomkohoceaaDoor
