/- Rows of numbers, rows of rows, and memories, as they lie in a world: read wherever they lie, or owned in blocks of their own. -/
import Derived.Test.YtghcagibdcblnaaGreatDoorF00
import Derived.Deep.OwnRows
import Derived.Deep.Slices
import Derived.Deep.Matrix
import Derived.Lib.SmallJoins
import Derived.Deep.QuietTactic
import Derived.BigQuiet
namespace Go.Proofs.YtghcagibdcblnaaGreatDoor
open Go.ChangeShapes Go.WideShapes Go.ChangeAt Go.RowKit Go.Joins
set_option linter.unusedVariables false

theorem hid {p : Prop} (h : p) : Hid p := h
/-- outside of the blocks from lo up to hi, nothing that was there has turned -/
structure Touch (lo hi : Nat) (w w' : World) : Prop where
  os : w'.os = w.os
  tape : w'.tape = w.tape
  output : w'.output = w.output
  size : w.heap.size ≤ w'.heap.size
  block : ∀ k, k < w.heap.size → (k < lo ∨ hi ≤ k) → w'.heap[k]? = w.heap[k]?
theorem Touch.refl (lo hi : Nat) (w : World) : Touch lo hi w w := ⟨rfl, rfl, rfl, Nat.le_refl _, fun _ _ _ => rfl⟩
theorem Touch.trans {lo hi : Nat} {a b c : World} (h : Touch lo hi a b) (k : Touch lo hi b c) : Touch lo hi a c :=
  ⟨k.os.trans h.os, k.tape.trans h.tape, k.output.trans h.output, Nat.le_trans h.size k.size, fun i hi ho => (k.block i (Nat.lt_of_lt_of_le hi h.size) ho).trans (h.block i hi ho)⟩
theorem Touch.of_below {lo hi : Nat} {w w' : World} (h : Below w.heap.size w w') : Touch lo hi w w' := ⟨h.os, h.tape, h.output, h.size, fun k hk _ => h.block k hk⟩
theorem Touch.of_grown {lo hi g : Nat} {w w' : World} (h : w.grownBy w' (some g)) (h0 : lo ≤ g) (h1 : g < hi) : Touch lo hi w w' :=
  ⟨h.os, h.tape, h.output, h.size, fun k hk ho => h.block k hk (by simp; omega)⟩
theorem Touch.mono {lo hi lo' hi' : Nat} {w w' : World} (h : Touch lo hi w w') (h0 : lo' ≤ lo) (h1 : hi ≤ hi') : Touch lo' hi' w w' :=
  ⟨h.os, h.tape, h.output, h.size, fun k hk ho => h.block k hk (by omega)⟩
theorem Touch.below {lo hi n : Nat} {a w w' : World} (h : Touch lo hi w w') (hb : Below n a w) (hn : n ≤ lo) (hw : n ≤ w.heap.size) : Below n a w' :=
  hb.trans ⟨h.os, h.tape, h.output, h.size, fun k hk => h.block k (by omega) (.inl (by omega))⟩

/-- a slice that reads these numbers, wherever they lie -/
def RowR (w : World) (v : Value) (zs : List Int) : Prop :=
  ∃ a cap, v = .slice a zs.length cap ∧ (zs = [] ∨ ∃ b off, a = some ⟨b, off, none⟩ ∧ ∀ i, i < zs.length → w.cell? ⟨b, off + i, none⟩ = some (.int .i64 (zs.getD i 0)))
theorem RowR.below {w w' : World} {v : Value} {zs : List Int} (h : RowR w v zs) (hb : Below w.heap.size w w') : RowR w' v zs := by
  obtain ⟨a, cap, rfl, h⟩ := h
  refine ⟨a, cap, rfl, ?_⟩
  rcases h with h | ⟨b, off, rfl, h⟩
  · exact .inl h
  · refine .inr ⟨b, off, rfl, fun i hi => ?_⟩
    have h1 := h i hi
    rw [hb.cell (p := ⟨b, off + i, none⟩) (World.block_lt_of_cell? w _ h1)]
    exact h1
theorem RowR.nil (w : World) : RowR w (.slice none 0 0) [] := ⟨none, 0, rfl, .inl rfl⟩
/-- a slice of slices that read these rows -/
def RowsR (w : World) (v : Value) (zss : List (List Int)) : Prop :=
  ∃ a cap, v = .slice a zss.length cap ∧ (zss = [] ∨ ∃ b off, a = some ⟨b, off, none⟩ ∧ ∀ i, i < zss.length → ∃ u, w.cell? ⟨b, off + i, none⟩ = some u ∧ RowR w u (zss.getD i []))
theorem RowsR.below {w w' : World} {v : Value} {zss : List (List Int)} (h : RowsR w v zss) (hb : Below w.heap.size w w') : RowsR w' v zss := by
  obtain ⟨a, cap, rfl, h⟩ := h
  refine ⟨a, cap, rfl, ?_⟩
  rcases h with h | ⟨b, off, rfl, h⟩
  · exact .inl h
  · refine .inr ⟨b, off, rfl, fun i hi => ?_⟩
    obtain ⟨u, h1, h2⟩ := h i hi
    refine ⟨u, ?_, h2.below hb⟩
    rw [hb.cell (p := ⟨b, off + i, none⟩) (World.block_lt_of_cell? w _ h1)]
    exact h1

/-- a memory of the document -/
structure Mem where
  rom : List Int
  ram : List (List Int)
  page : Int
  screen : Int
  locked : Bool
abbrev memV (vr vm : Value) (p s : Int) (l : Bool) : Value := .agg #[vr, vm, .int .i64 p, .int .i64 s, .bool l]
/-- a value that reads as this memory -/
def MemR (w : World) (v : Value) (M : Mem) : Prop := ∃ vr vm, v = memV vr vm M.page M.screen M.locked ∧ RowR w vr M.rom ∧ RowsR w vm M.ram
theorem MemR.below {w w' : World} {v : Value} {M : Mem} (h : MemR w v M) (hb : Below w.heap.size w w') : MemR w' v M := by
  obtain ⟨vr, vm, rfl, h1, h2⟩ := h
  exact ⟨vr, vm, rfl, h1.below hb, h2.below hb⟩
def mem0 : Mem := ⟨[], [], 0, 0, false⟩
theorem MemR.zero (w : World) : MemR w (memV (.slice none 0 0) (.slice none 0 0) 0 0 false) mem0 := ⟨_, _, rfl, RowR.nil w, none, 0, rfl, .inl rfl⟩

/-- a slice at the start of block g, which holds these numbers and is not frozen -/
def RowO (w : World) (g : Nat) (v : Value) (zs : List Int) : Prop :=
  ∃ cap c t, v = .slice (some ⟨g, 0, none⟩) zs.length cap ∧ w.heap[g]? = some (.cells c t (0, 0)) ∧ ∀ i, i < zs.length → c[i]? = some (.int .i64 (zs.getD i 0))
theorem RowO.lt {w : World} {g : Nat} {v : Value} {zs : List Int} (h : RowO w g v zs) : g < w.heap.size := by
  obtain ⟨cap, c, t, _, h, _⟩ := h
  exact (Array.getElem?_eq_some_iff.1 h).1
theorem RowO.cell {w : World} {g : Nat} {v : Value} {zs : List Int} (h : RowO w g v zs) : ∀ i, i < zs.length → w.cell? ⟨g, i, none⟩ = some (.int .i64 (zs.getD i 0)) := by
  obtain ⟨cap, c, t, _, h, h2⟩ := h
  intro i hi
  simp [World.cell?, h, h2 i hi]
theorem RowO.frozen {w : World} {g : Nat} {v : Value} {zs : List Int} (h : RowO w g v zs) (i : Nat) : w.frozen? ⟨g, i, none⟩ = false := by
  obtain ⟨cap, c, t, _, h, _⟩ := h
  simp [World.frozen?, h]
theorem RowO.reads {w : World} {g : Nat} {v : Value} {zs : List Int} (h : RowO w g v zs) : RowR w v zs := by
  have h1 := h.cell
  obtain ⟨cap, c, t, rfl, _, _⟩ := h
  exact ⟨_, cap, rfl, .inr ⟨g, 0, rfl, fun i hi => by rw [Nat.zero_add]; exact h1 i hi⟩⟩
theorem RowO.kept {w w' : World} {g : Nat} {v : Value} {zs : List Int} (h : RowO w g v zs) (e : w'.heap[g]? = w.heap[g]?) : RowO w' g v zs := by
  obtain ⟨cap, c, t, h1, h2, h3⟩ := h
  exact ⟨cap, c, t, h1, e.trans h2, h3⟩
theorem heap_setCell_same' (w : World) (g i : Nat) (c : Array Value) (t : TypeId) (u : Value) (h : w.heap[g]? = some (.cells c t (0, 0))) : (w.setCell ⟨g, i, none⟩ u).heap[g]? = some (.cells (c.setIfInBounds i u) t (0, 0)) := by
  simp [World.setCell, Array.getElem?_modify, h]
theorem RowO.set {w : World} {g : Nat} {v : Value} {zs : List Int} (h : RowO w g v zs) (i : Nat) (z : Int) : RowO (w.setCell ⟨g, i, none⟩ (.int .i64 z)) g v (zs.set i z) := by
  obtain ⟨cap, c, t, h1, h2, h3⟩ := h
  refine ⟨cap, c.setIfInBounds i (.int .i64 z), t, by rw [List.length_set]; exact h1, heap_setCell_same' _ _ _ _ _ _ h2, fun j hj => ?_⟩
  rw [List.length_set] at hj
  rw [Array.getElem?_setIfInBounds]
  have hc := h3 j hj
  by_cases e : i = j
  · subst e
    have hlt : i < c.size := (Array.getElem?_eq_some_iff.1 hc).1
    simp [hlt, List.getD_eq_getElem?_getD, List.getElem?_set_self hj]
  · rw [if_neg e, hc, List.getD_eq_getElem?_getD, List.getD_eq_getElem?_getD, List.getElem?_set_ne e]
/-- what ownsRow says, in these words -/
theorem RowO.of_owns {w : World} {B : Nat} {t : TypeId} {v : Value} {n : Nat} {zs : List Int} (h : w.ownsRow B t 1 v n (zs.map (Value.int .i64))) (hn : 0 < n) : ∃ g, B ≤ g ∧ RowO w g v zs := by
  obtain ⟨hl, ⟨rfl, rfl⟩ | ⟨g, cap, cur, rfl, hb, hh, hnc, hm, hs, ht⟩⟩ := h
  · omega
  · have hx : zs.length = n := by simpa using hl
    refine ⟨g, hb, cap, cur, t, by rw [hx], hh, fun i hi => ?_⟩
    have h1 : (cur.toList.take (n * 1))[i]? = (zs.map (Value.int .i64))[i]? := by rw [ht]
    rw [List.getElem?_take, if_pos (by omega), List.getElem?_map, List.getElem?_eq_getElem hi] at h1
    simpa [List.getD_eq_getElem?_getD, List.getElem?_eq_getElem hi] using h1

/-- a slice at the start of block s, whose elements are the slices V, row by row in blocks G -/
def RowsO (w : World) (s : Nat) (G : Nat → Nat) (v : Value) (zss : List (List Int)) : Prop :=
  ∃ (cap : Nat) (c : Array Value) (t : TypeId) (V : Nat → Value), v = .slice (some ⟨s, 0, none⟩) zss.length cap ∧ w.heap[s]? = some (.cells c t (0, 0)) ∧ (∀ i, i < zss.length → c[i]? = some (V i)) ∧ ∀ i, i < zss.length → RowO w (G i) (V i) (zss.getD i [])
theorem RowsO.reads {w : World} {s : Nat} {G : Nat → Nat} {v : Value} {zss : List (List Int)} (h : RowsO w s G v zss) : RowsR w v zss := by
  obtain ⟨cap, c, t, V, rfl, h1, h2, h3⟩ := h
  refine ⟨_, cap, rfl, .inr ⟨s, 0, rfl, fun i hi => ⟨V i, ?_, (h3 i hi).reads⟩⟩⟩
  simp [World.cell?, h1, h2 i hi]
theorem RowsO.kept {w w' : World} {s : Nat} {G : Nat → Nat} {v : Value} {zss : List (List Int)} (h : RowsO w s G v zss) (e : w'.heap[s]? = w.heap[s]?) (k : ∀ i, i < zss.length → w'.heap[G i]? = w.heap[G i]?) : RowsO w' s G v zss := by
  obtain ⟨cap, c, t, V, h0, h1, h2, h3⟩ := h
  exact ⟨cap, c, t, V, h0, e.trans h1, h2, fun i hi => (h3 i hi).kept (k i hi)⟩

/-- a memory in blocks of its own, from lo up to hi, no two of them the same; or one of nils -/
def MemO (w : World) (lo hi : Nat) (v : Value) (M : Mem) : Prop :=
  (v = memV (.slice none 0 0) (.slice none 0 0) M.page M.screen M.locked ∧ M.rom = [] ∧ M.ram = []) ∨
  ∃ vr vm r s G, v = memV vr vm M.page M.screen M.locked ∧ RowO w r vr M.rom ∧ RowsO w s G vm M.ram ∧ (lo ≤ r ∧ r < hi) ∧ (lo ≤ s ∧ s < hi) ∧ (∀ i, i < M.ram.length → lo ≤ G i ∧ G i < hi) ∧
    r ≠ s ∧ (∀ i, i < M.ram.length → G i ≠ r ∧ G i ≠ s) ∧ ∀ i j, i < M.ram.length → j < M.ram.length → G i = G j → i = j
theorem MemO.reads {w : World} {lo hi : Nat} {v : Value} {M : Mem} (h : MemO w lo hi v M) : MemR w v M := by
  rcases h with ⟨rfl, h1, h2⟩ | ⟨vr, vm, r, s, G, rfl, h1, h2, _⟩
  · exact ⟨_, _, rfl, by rw [h1]; exact RowR.nil w, none, 0, by rw [h2]; rfl, .inl h2⟩
  · exact ⟨_, _, rfl, h1.reads, h2.reads⟩
theorem MemO.kept {w w' : World} {lo hi : Nat} {v : Value} {M : Mem} (h : MemO w lo hi v M) (k : ∀ b, lo ≤ b → b < hi → w'.heap[b]? = w.heap[b]?) : MemO w' lo hi v M := by
  rcases h with h | ⟨vr, vm, r, s, G, rfl, h1, h2, b1, b2, b3, d⟩
  · exact .inl h
  · exact .inr ⟨vr, vm, r, s, G, rfl, h1.kept (k r b1.1 b1.2), h2.kept (k s b2.1 b2.2) (fun i hi => k _ (b3 i hi).1 (b3 i hi).2), b1, b2, b3, d⟩
theorem MemO.mono {w : World} {lo hi lo' hi' : Nat} {v : Value} {M : Mem} (h : MemO w lo hi v M) (h0 : lo' ≤ lo) (h1 : hi ≤ hi') : MemO w lo' hi' v M := by
  rcases h with h | ⟨vr, vm, r, s, G, rfl, k1, k2, b1, b2, b3, d⟩
  · exact .inl h
  · exact .inr ⟨vr, vm, r, s, G, rfl, k1, k2, by omega, by omega, fun i hi => by have := b3 i hi; omega, d⟩
theorem MemO.below {w w' : World} {lo hi n : Nat} {v : Value} {M : Mem} (h : MemO w lo hi v M) (hb : Below n w w') (hn : hi ≤ n) : MemO w' lo hi v M := h.kept (fun b _ h1 => hb.block b (by omega))
theorem MemO.touch {w w' : World} {lo hi lo' hi' : Nat} {v : Value} {M : Mem} (h : MemO w lo hi v M) (ht : Touch lo' hi' w w') (hw : hi ≤ w.heap.size) (hd : hi ≤ lo' ∨ hi' ≤ lo) : MemO w' lo hi v M :=
  h.kept (fun b h0 h1 => ht.block b (by omega) (by omega))
theorem MemO.zero (w : World) (lo hi : Nat) : MemO w lo hi (memV (.slice none 0 0) (.slice none 0 0) 0 0 false) mem0 := .inl ⟨rfl, rfl, rfl⟩

theorem array5 {α : Type} {cs : Array α} (h : cs.size = 5) : ∃ c0 c1 c2 c3 c4, cs = #[c0, c1, c2, c3, c4] := by
  obtain ⟨l⟩ := cs
  match l, h with
  | [c0, c1, c2, c3, c4], _ => exact ⟨c0, c1, c2, c3, c4, rfl⟩
end Go.Proofs.YtghcagibdcblnaaGreatDoor

/- Runs at a place of a text: the specification. -/
namespace Go.Proofs.YtghcagibdcblnaaGreatDoor
open Go.ChangeShapes Go.WideShapes Go.ChangeAt Go.RowKit
set_option linter.unusedVariables false
set_option linter.unusedSimpArgs false

/-- a text's bytes as numbers -/
def bts (t : ByteArray) : List Int := t.data.toList.map fun b => (b.toNat : Int)
theorem bts_len (t : ByteArray) : (bts t).length = t.size := by simp [bts]
theorem bts_at (t : ByteArray) {k : Nat} (h : k < t.size) : (bts t)[k]? = some (byt t k) := by
  have h' : k < t.data.toList.length := by simpa using h
  unfold bts byt
  rw [List.getElem?_map, List.getElem?_eq_getElem h', List.getD_eq_getElem?_getD, List.getElem?_eq_getElem h']
  rfl
theorem bts_drop (t : ByteArray) {k : Nat} (h : k < t.size) : (bts t).drop k = byt t k :: (bts t).drop (k + 1) := by
  have h' : k < (bts t).length := by rw [bts_len]; exact h
  rw [List.drop_eq_getElem_cons h']
  have := bts_at t h
  rw [List.getElem?_eq_getElem h'] at this
  rw [Option.some.inj this]
theorem bts_all (t : ByteArray) : ∀ x ∈ bts t, 0 ≤ x ∧ x ≤ 255 := by
  intro x hx
  obtain ⟨b, _, rfl⟩ := List.mem_map.1 hx
  have := b.toNat_lt
  omega
theorem str_bts (t : ByteArray) : strOfNums (bts t) = t := by
  have e : (strOfNums (bts t)).data = t.data := by
    apply Array.ext'
    rw [strOfNums_data]
    unfold bts
    rw [List.map_map]
    conv => rhs; rw [← List.map_id t.data.toList]
    apply List.map_congr_left
    intro b _
    simp
  cases h : strOfNums (bts t)
  cases t
  rw [h] at e
  exact congrArg ByteArray.mk e
theorem bts_str {xs : List Int} (h : ∀ x ∈ xs, 0 ≤ x ∧ x ≤ 255) : bts (strOfNums xs) = xs := by
  unfold bts
  rw [strOfNums_data, List.map_map]
  conv => rhs; rw [← List.map_id xs]
  apply List.map_congr_left
  intro x hx
  have := h x hx
  simp
  omega
/-- the run at a place -/
def runT (t : ByteArray) (i : Nat) : Nat := runH 255 (byt t i) ((bts t).drop i)
theorem runT_go {t : ByteArray} {i n : Nat} (hn : n < 255) (h : i + n < t.size) (he : byt t (i + n) = byt t i) : runH (255 - n) (byt t i) ((bts t).drop (i + n)) = runH (255 - (n + 1)) (byt t i) ((bts t).drop (i + (n + 1))) + 1 := by
  rw [bts_drop t h]
  obtain ⟨f, hf⟩ : ∃ f, 255 - n = f + 1 := ⟨254 - n, by omega⟩
  have e : 255 - (n + 1) = f := by omega
  rw [hf, e]
  show (if byt t (i + n) = byt t i then _ else _) = _
  rw [if_pos he]
  rfl
theorem runT_stop {t : ByteArray} {i n : Nat} (h : ¬ n < 255 ∨ ¬ i + n < t.size ∨ (i + n < t.size ∧ byt t (i + n) ≠ byt t i)) : runH (255 - n) (byt t i) ((bts t).drop (i + n)) = 0 := by
  rcases h with h | h | ⟨h1, h2⟩
  · rw [show 255 - n = 0 by omega]
    rfl
  · rw [List.drop_eq_nil_of_le (by rw [bts_len]; omega)]
    cases (255 - n) <;> rfl
  · rw [bts_drop t h1]
    cases (255 - n) with
    | zero => rfl
    | succ f =>
      show (if byt t (i + n) = byt t i then _ else _) = _
      rw [if_neg h2]
theorem runT_bd (t : ByteArray) (i : Nat) (h : i < t.size) : 1 ≤ runT t i ∧ runT t i ≤ 255 ∧ i + runT t i ≤ t.size := by
  have h1 := runH_le 255 (byt t i) ((bts t).drop i)
  rw [List.length_drop, bts_len] at h1
  refine ⟨?_, h1.1, by unfold runT; omega⟩
  unfold runT
  rw [bts_drop t h]
  exact runH_pos
set_option maxRecDepth 100000 in
set_option maxHeartbeats 1000000 in
theorem lrunt_spec (t : ByteArray) (i : Nat) (w : World) (ht : t.size ≤ 1048576) (hi : i < t.size) : Calls Tryz.prog 68 #[.string t, .int .i64 (i : Int)] w fun e w' => e = .returned (.int .i64 (runT t i : Nat)) ∧ ∃ n, w' = w.drewN n := by
  have hxi := run_idx t (i : Int) i rfl hi
  have hgo := hid (fun n => runT_go (t := t) (i := i) (n := n))
  have hst := hid (fun n => runT_stop (t := t) (i := i) (n := n))
  have h0 : Hid (runT t i = runH (255 - 0) (byt t i) ((bts t).drop (i + 0))) := rfl
  obtain ⟨B, hB⟩ : ∃ B : Nat → Nat, (fun n => runH (255 - n) (byt t i) ((bts t).drop (i + n))) = B := ⟨_, rfl⟩
  have hB2 : Hid (∀ n, runH (255 - n) (byt t i) ((bts t).drop (i + n)) = B n) := fun n => by rw [← hB]
  rw [hB2.out 0] at h0
  clear hB
  go_enter Tryz.func68, Tryz.ntmps68
  go_wp2
  go_loopw [5] (fun nv wr => ∃ n : Nat, n ≤ 255 ∧ nv = .int .i64 (n : Int) ∧ i + n ≤ t.size ∧ n + B n = B 0 ∧ ∃ m, wr = w.drewN m) (fun nv _ => 255 - (intOf nv).toNat)
  case atStart => exact ⟨0, by omega, rfl, by omega, by omega, 0, rfl⟩
  case round =>
    obtain ⟨n, hn, rfl, hin, hB, m, rfl⟩ := hrel
    have hg2 := fun h2 h1 h3 => hgo.out n h2 h1 h3
    have hs2 := fun h => hst.out n h
    rw [hB2.out n, hB2.out (n + 1)] at hg2
    rw [hB2.out n] at hs2
    replace hg2 := hid hg2
    replace hs2 := hid hs2
    obtain ⟨q, hq⟩ : ∃ q, i + n = q := ⟨_, rfl⟩
    rw [hq] at hin hg2 hs2
    have hqI : (i : Int) + (n : Int) = (q : Int) := by omega
    have hqb : Hid (q = i + n) := hq.symm
    clear hq hgo hst hB2
    have hin2 : i < 1048576 := by omega
    have hqw : IntKind.i64.wrap (q : Int) = (q : Int) := by rw [IntKind.wrap_i64]; omega
    by_cases h1 : q < t.size
    · have hx := run_idx t (q : Int) q rfl h1
      have c1 : (q : Int) < (t.size : Int) := by omega
      by_cases h2 : n < 255
      · have c2 : (n : Int) < 255 := by omega
        by_cases h3 : byt t q = byt t i
        · have hE := hid (hg2.out h2 h1 h3)
          rw [h3] at hx
          have hbb : (byt t i == byt t i) = true := by simp
          generalize byt t i = X at *
          clear hg2 hs2 h3
          go_wp2
          go_quiet (fail)
          go_wp2
          go_roundw
          case rel => exact ⟨n + 1, by omega, by go_num, by have := hqb.out; omega, by have := hE.out; omega, m + nq, by first | rfl | rw [World.drewN_drewN]⟩
          case measure => simp [intOf]; omega
        · have hE := hs2.out (.inr (.inr ⟨h1, h3⟩))
          have hbb : (byt t q == byt t i) = false := by rw [beq_eq_false_iff_ne]; exact h3
          generalize byt t i = X at *
          generalize byt t q = Y at *
          have hE2 : Hid (n = B 0) := by unfold Hid; omega
          clear hg2 hs2 h3 hE hB
          go_wp2
          go_quiet (fail)
          go_wp2
          go_ret
          exact ⟨ret_int (by rw [h0.out, ← hE2.out]), m + nq, by first | rfl | rw [World.drewN_drewN]⟩
      · have c2 : decide ((n : Int) < 255) = false := decide_eq_false (by omega)
        have hE := hs2.out (.inl h2)
        have hE2 : Hid (n = B 0) := by unfold Hid; omega
        clear hg2 hs2 hE hB hx hxi
        go_wp2
        go_quiet (fail)
        go_wp2
        go_ret
        exact ⟨ret_int (by rw [h0.out, ← hE2.out]), m + nq, by first | rfl | rw [World.drewN_drewN]⟩
    · have c1 : ¬ (q : Int) < (t.size : Int) := by omega
      have hE := hs2.out (.inr (.inl h1))
      have hE2 : Hid (n = B 0) := by unfold Hid; omega
      clear hg2 hs2 hE hB hxi
      go_wp2
      go_quiet (fail)
      go_wp2
      go_ret
      exact ⟨ret_int (by rw [h0.out, ← hE2.out]), m + nq, by first | rfl | rw [World.drewN_drewN]⟩
end Go.Proofs.YtghcagibdcblnaaGreatDoor
