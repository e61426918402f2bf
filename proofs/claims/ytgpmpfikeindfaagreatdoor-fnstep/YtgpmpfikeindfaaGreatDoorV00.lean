/- Small facts that the other texts of this seat share: equal results, the bytes of a text as numbers, worlds that only grow. -/
import Derived.Test.YtgpmpfikeindfaaGreatDoorRows
import Derived.WalkKit
import Derived.ProofKit
import Derived.Below
import Derived.Laws.BytesArg
import Derived.OwnWalk
import Derived.KernelRfl
import Derived.Deep.OwnRows
import Derived.Deep.Slices
import Derived.Deep.Matrix
import Derived.Lib.SmallJoins
import Derived.Deep.DrawnRows
import Derived.Deep.QuietTactic
namespace Go.Proofs.YtgpmpfikeindfaaGreatDoor
open Go.ChangeShapes Go.WideShapes Go.ChangeAt Go.RowKit
set_option linter.unusedVariables false

theorem ret_bool {a b : Bool} (h : a = b) : Ending.returned (.bool a) = .returned (.bool b) := by rw [h]
theorem ret_int {k : IntKind} {a b : Int} (h : a = b) : Ending.returned (.int k a) = .returned (.int k b) := by rw [h]
theorem ret_str {a b : ByteArray} (h : a = b) : Ending.returned (.string a) = .returned (.string b) := by rw [h]
theorem ret_val {a b : Value} (h : a = b) : Ending.returned a = .returned b := by rw [h]

/-- the k-th byte of a text, as a number -/
def byt (s : ByteArray) (k : Nat) : Int := ((s.data.toList.getD k 0).toNat : Int)
theorem byt_eq (s : ByteArray) (k : Nat) (h : k < s.size) : ((s[k]'h).toNat : Int) = byt s k := by
  have h' : k < s.data.toList.length := by simpa using h
  simp [byt, List.getD_eq_getElem?_getD, List.getElem?_eq_getElem h']
  rfl
theorem byt_bd (s : ByteArray) (k : Nat) : 0 ≤ byt s k ∧ byt s k ≤ 255 := by
  unfold byt
  have := (s.data.toList.getD k 0).toNat_lt
  omega

/-- a text's byte at an index that is known to lie in it -/
theorem run_idx (s : ByteArray) (i : Int) (k : Nat) (hi : i = (k : Int)) (h : k < s.size) (w : World) : (Instr.index 9 (.string s) (.int .i64 i)).run Tryz.prog w = .ok (.int .u8 (byt s k)) w := by
  subst hi
  rw [run_index_string w 9 s .i64 _ Tryz.underlying9, dif_pos ⟨by omega, by omega⟩]
  have := byt_eq s k h
  simp only [Int.toNat_natCast]
  rw [this]

theorem infoU8 : (Tryz.prog.info? 5).map (fun i => (i.zero, i.size, i.bytes)) = some (some (.int .u8 0), 1, 1) := by kernel_rfl

theorem own_string {w : World} {base : Nat} {v : Value} {n : Nat} {xs : List Int} (h : w.ownsRow base 5 1 v n (xs.map (Value.int .u8))) :
    (convert 22 9 v).run Tryz.prog w = .ok (.string (strOfNums xs)) w := by
  have h' := h
  obtain ⟨hl, ⟨rfl, rfl⟩ | ⟨g, cap, cur, rfl, hb, hh, hn, hm, hs, ht⟩⟩ := h
  · have : xs = [] := by simpa using hl
    subst this
    exact run_convert_bytes_nil _ 22 5 Tryz.underlying22 Tryz.underlying5 0 0 9 Tryz.underlying9
  · have hx : xs.length = n := by simpa using hl
    exact run_convert_bytes_arg _ 22 5 Tryz.underlying22 Tryz.underlying5 g 0 n cap xs hx (fun i hi => by
      rw [Nat.zero_add, h'.cellAt i (by omega)]
      simp [List.getD_eq_getElem?_getD, List.getElem?_eq_getElem (show i < xs.length by omega)]) 9 Tryz.underlying9

theorem new_trans {a b c : World} (h : Below a.heap.size a b) (k : Below b.heap.size b c) : Below a.heap.size a c := h.trans (k.mono h.size)

/-- behind a call that only makes new blocks every old cell and every old mark reads as before: two rules for the walk -/
theorem bcell {W w1 : World} (hb : Below W.heap.size W w1) : (∀ b o, b < W.heap.size → w1.cell? ⟨b, o, none⟩ = W.cell? ⟨b, o, none⟩) ∧ (∀ b o, b < W.heap.size → w1.frozen? ⟨b, o, none⟩ = W.frozen? ⟨b, o, none⟩) :=
  ⟨fun b o h => hb.cell (p := ⟨b, o, none⟩) h, fun b o h => hb.frozen (p := ⟨b, o, none⟩) h⟩

/-- the test that a number lies between two others -/
def inB (n a b : Int) : Bool := decide (a ≤ n ∧ n ≤ b)
theorem in_yes {n a b : Int} (h0 : a ≤ n) (h1 : n ≤ b) : inB n a b = true := by simp [inB, h0, h1]
theorem in_no {n a b : Int} (h : ¬ (a ≤ n ∧ n ≤ b)) : inB n a b = false := by unfold inB; exact decide_eq_false h

theorem vars1_form {H : Type} {enc : TypeId × Value → H} {P : Program} {w : World} {sp : Nat → Bool} {n : String} {gs : List (DataW H)} {ps : List MemPlace} (h : DataW.TrodVars enc P w sp [n] gs ps) : ∃ g, gs = [g] := by
  match gs, h with
  | [g], _ => exact ⟨g, rfl⟩
  | [], h => exact h.elim
  | _ :: _ :: _, ⟨_, _, _, _, _, _, _, _, _, _, h, _⟩ => exact h.elim
theorem vars3_form {H : Type} {enc : TypeId × Value → H} {P : Program} {w : World} {sp : Nat → Bool} {n m l : String} {gs : List (DataW H)} {ps : List MemPlace} (h : DataW.TrodVars enc P w sp [n, m, l] gs ps) : ∃ a b c, gs = [a, b, c] := by
  match gs, h with
  | [], h => exact h.elim
  | a :: gs, ⟨_, _, _, _, _, _, _, _, _, _, h, _⟩ =>
    match gs, h with
    | [], h => exact h.elim
    | b :: gs, ⟨_, _, _, _, _, _, _, _, _, _, h, _⟩ =>
      obtain ⟨c, rfl⟩ := vars1_form h
      exact ⟨a, b, c, rfl⟩
end Go.Proofs.YtgpmpfikeindfaaGreatDoor

/- Rows of numbers, rows of rows, and memories, as they lie in a world: read wherever they lie, or owned in blocks of their own. -/
namespace Go.Proofs.YtgpmpfikeindfaaGreatDoor
open Go.ChangeShapes Go.WideShapes Go.ChangeAt Go.RowKit Go.Joins
set_option linter.unusedVariables false

theorem hid {p : Prop} (h : p) : Hid p := h
/-- outside of the blocks from lo up to hi, nothing that was there has turned -/
structure Touch (lo hi : Nat) (w w' : World) : Prop where
  os : w'.os = w.os
  tape : w'.tape = w.tape
  output : w'.output = w.output
  size : w.heap.size ≤ w'.heap.size
  block : ∀ k, k < w.heap.size → (k < lo ∨ hi ≤ k) → w'.heap[k]? = w.heap[k]?
theorem Touch.refl (lo hi : Nat) (w : World) : Touch lo hi w w := ⟨rfl, rfl, rfl, Nat.le_refl _, fun _ _ _ => rfl⟩
theorem Touch.trans {lo hi : Nat} {a b c : World} (h : Touch lo hi a b) (k : Touch lo hi b c) : Touch lo hi a c :=
  ⟨k.os.trans h.os, k.tape.trans h.tape, k.output.trans h.output, Nat.le_trans h.size k.size, fun i hi ho => (k.block i (Nat.lt_of_lt_of_le hi h.size) ho).trans (h.block i hi ho)⟩
theorem Touch.of_below {lo hi : Nat} {w w' : World} (h : Below w.heap.size w w') : Touch lo hi w w' := ⟨h.os, h.tape, h.output, h.size, fun k hk _ => h.block k hk⟩
theorem Touch.of_grown {lo hi g : Nat} {w w' : World} (h : w.grownBy w' (some g)) (h0 : lo ≤ g) (h1 : g < hi) : Touch lo hi w w' :=
  ⟨h.os, h.tape, h.output, h.size, fun k hk ho => h.block k hk (by simp; omega)⟩
theorem Touch.mono {lo hi lo' hi' : Nat} {w w' : World} (h : Touch lo hi w w') (h0 : lo' ≤ lo) (h1 : hi ≤ hi') : Touch lo' hi' w w' :=
  ⟨h.os, h.tape, h.output, h.size, fun k hk ho => h.block k hk (by omega)⟩
theorem Touch.below {lo hi n : Nat} {a w w' : World} (h : Touch lo hi w w') (hb : Below n a w) (hn : n ≤ lo) (hw : n ≤ w.heap.size) : Below n a w' :=
  hb.trans ⟨h.os, h.tape, h.output, h.size, fun k hk => h.block k (by omega) (.inl (by omega))⟩

/-- a slice that reads these numbers, wherever they lie -/
def RowR (w : World) (v : Value) (zs : List Int) : Prop :=
  ∃ a cap, v = .slice a zs.length cap ∧ (zs = [] ∨ ∃ b off, a = some ⟨b, off, none⟩ ∧ ∀ i, i < zs.length → w.cell? ⟨b, off + i, none⟩ = some (.int .i64 (zs.getD i 0)))
theorem RowR.below {w w' : World} {v : Value} {zs : List Int} (h : RowR w v zs) (hb : Below w.heap.size w w') : RowR w' v zs := by
  obtain ⟨a, cap, rfl, h⟩ := h
  refine ⟨a, cap, rfl, ?_⟩
  rcases h with h | ⟨b, off, rfl, h⟩
  · exact .inl h
  · refine .inr ⟨b, off, rfl, fun i hi => ?_⟩
    have h1 := h i hi
    rw [hb.cell (p := ⟨b, off + i, none⟩) (World.block_lt_of_cell? w _ h1)]
    exact h1
theorem RowR.nil (w : World) : RowR w (.slice none 0 0) [] := ⟨none, 0, rfl, .inl rfl⟩
/-- a slice of slices that read these rows -/
def RowsR (w : World) (v : Value) (zss : List (List Int)) : Prop :=
  ∃ a cap, v = .slice a zss.length cap ∧ (zss = [] ∨ ∃ b off, a = some ⟨b, off, none⟩ ∧ ∀ i, i < zss.length → ∃ u, w.cell? ⟨b, off + i, none⟩ = some u ∧ RowR w u (zss.getD i []))
theorem RowsR.below {w w' : World} {v : Value} {zss : List (List Int)} (h : RowsR w v zss) (hb : Below w.heap.size w w') : RowsR w' v zss := by
  obtain ⟨a, cap, rfl, h⟩ := h
  refine ⟨a, cap, rfl, ?_⟩
  rcases h with h | ⟨b, off, rfl, h⟩
  · exact .inl h
  · refine .inr ⟨b, off, rfl, fun i hi => ?_⟩
    obtain ⟨u, h1, h2⟩ := h i hi
    refine ⟨u, ?_, h2.below hb⟩
    rw [hb.cell (p := ⟨b, off + i, none⟩) (World.block_lt_of_cell? w _ h1)]
    exact h1

/-- a memory of the document -/
structure Mem where
  rom : List Int
  ram : List (List Int)
  page : Int
  screen : Int
  locked : Bool
abbrev memV (vr vm : Value) (p s : Int) (l : Bool) : Value := .agg #[vr, vm, .int .i64 p, .int .i64 s, .bool l]
/-- a value that reads as this memory -/
def MemR (w : World) (v : Value) (M : Mem) : Prop := ∃ vr vm, v = memV vr vm M.page M.screen M.locked ∧ RowR w vr M.rom ∧ RowsR w vm M.ram
theorem MemR.below {w w' : World} {v : Value} {M : Mem} (h : MemR w v M) (hb : Below w.heap.size w w') : MemR w' v M := by
  obtain ⟨vr, vm, rfl, h1, h2⟩ := h
  exact ⟨vr, vm, rfl, h1.below hb, h2.below hb⟩
def mem0 : Mem := ⟨[], [], 0, 0, false⟩
theorem MemR.zero (w : World) : MemR w (memV (.slice none 0 0) (.slice none 0 0) 0 0 false) mem0 := ⟨_, _, rfl, RowR.nil w, none, 0, rfl, .inl rfl⟩

/-- a slice at the start of block g, which holds these numbers and is not frozen -/
def RowO (w : World) (g : Nat) (v : Value) (zs : List Int) : Prop :=
  ∃ cap c t, v = .slice (some ⟨g, 0, none⟩) zs.length cap ∧ w.heap[g]? = some (.cells c t (0, 0)) ∧ ∀ i, i < zs.length → c[i]? = some (.int .i64 (zs.getD i 0))
theorem RowO.lt {w : World} {g : Nat} {v : Value} {zs : List Int} (h : RowO w g v zs) : g < w.heap.size := by
  obtain ⟨cap, c, t, _, h, _⟩ := h
  exact (Array.getElem?_eq_some_iff.1 h).1
theorem RowO.cell {w : World} {g : Nat} {v : Value} {zs : List Int} (h : RowO w g v zs) : ∀ i, i < zs.length → w.cell? ⟨g, i, none⟩ = some (.int .i64 (zs.getD i 0)) := by
  obtain ⟨cap, c, t, _, h, h2⟩ := h
  intro i hi
  simp [World.cell?, h, h2 i hi]
theorem RowO.frozen {w : World} {g : Nat} {v : Value} {zs : List Int} (h : RowO w g v zs) (i : Nat) : w.frozen? ⟨g, i, none⟩ = false := by
  obtain ⟨cap, c, t, _, h, _⟩ := h
  simp [World.frozen?, h]
theorem RowO.reads {w : World} {g : Nat} {v : Value} {zs : List Int} (h : RowO w g v zs) : RowR w v zs := by
  have h1 := h.cell
  obtain ⟨cap, c, t, rfl, _, _⟩ := h
  exact ⟨_, cap, rfl, .inr ⟨g, 0, rfl, fun i hi => by rw [Nat.zero_add]; exact h1 i hi⟩⟩
theorem RowO.kept {w w' : World} {g : Nat} {v : Value} {zs : List Int} (h : RowO w g v zs) (e : w'.heap[g]? = w.heap[g]?) : RowO w' g v zs := by
  obtain ⟨cap, c, t, h1, h2, h3⟩ := h
  exact ⟨cap, c, t, h1, e.trans h2, h3⟩
theorem heap_setCell_same' (w : World) (g i : Nat) (c : Array Value) (t : TypeId) (u : Value) (h : w.heap[g]? = some (.cells c t (0, 0))) : (w.setCell ⟨g, i, none⟩ u).heap[g]? = some (.cells (c.setIfInBounds i u) t (0, 0)) := by
  simp [World.setCell, Array.getElem?_modify, h]
theorem RowO.set {w : World} {g : Nat} {v : Value} {zs : List Int} (h : RowO w g v zs) (i : Nat) (z : Int) : RowO (w.setCell ⟨g, i, none⟩ (.int .i64 z)) g v (zs.set i z) := by
  obtain ⟨cap, c, t, h1, h2, h3⟩ := h
  refine ⟨cap, c.setIfInBounds i (.int .i64 z), t, by rw [List.length_set]; exact h1, heap_setCell_same' _ _ _ _ _ _ h2, fun j hj => ?_⟩
  rw [List.length_set] at hj
  rw [Array.getElem?_setIfInBounds]
  have hc := h3 j hj
  by_cases e : i = j
  · subst e
    have hlt : i < c.size := (Array.getElem?_eq_some_iff.1 hc).1
    simp [hlt, List.getD_eq_getElem?_getD, List.getElem?_set_self hj]
  · rw [if_neg e, hc, List.getD_eq_getElem?_getD, List.getD_eq_getElem?_getD, List.getElem?_set_ne e]
/-- what ownsRow says, in these words -/
theorem RowO.of_owns {w : World} {B : Nat} {t : TypeId} {v : Value} {n : Nat} {zs : List Int} (h : w.ownsRow B t 1 v n (zs.map (Value.int .i64))) (hn : 0 < n) : ∃ g, B ≤ g ∧ RowO w g v zs := by
  obtain ⟨hl, ⟨rfl, rfl⟩ | ⟨g, cap, cur, rfl, hb, hh, hnc, hm, hs, ht⟩⟩ := h
  · omega
  · have hx : zs.length = n := by simpa using hl
    refine ⟨g, hb, cap, cur, t, by rw [hx], hh, fun i hi => ?_⟩
    have h1 : (cur.toList.take (n * 1))[i]? = (zs.map (Value.int .i64))[i]? := by rw [ht]
    rw [List.getElem?_take, if_pos (by omega), List.getElem?_map, List.getElem?_eq_getElem hi] at h1
    simpa [List.getD_eq_getElem?_getD, List.getElem?_eq_getElem hi] using h1

/-- a slice at the start of block s, whose elements are the slices V, row by row in blocks G -/
def RowsO (w : World) (s : Nat) (G : Nat → Nat) (v : Value) (zss : List (List Int)) : Prop :=
  ∃ (cap : Nat) (c : Array Value) (t : TypeId) (V : Nat → Value), v = .slice (some ⟨s, 0, none⟩) zss.length cap ∧ w.heap[s]? = some (.cells c t (0, 0)) ∧ (∀ i, i < zss.length → c[i]? = some (V i)) ∧ ∀ i, i < zss.length → RowO w (G i) (V i) (zss.getD i [])
theorem RowsO.reads {w : World} {s : Nat} {G : Nat → Nat} {v : Value} {zss : List (List Int)} (h : RowsO w s G v zss) : RowsR w v zss := by
  obtain ⟨cap, c, t, V, rfl, h1, h2, h3⟩ := h
  refine ⟨_, cap, rfl, .inr ⟨s, 0, rfl, fun i hi => ⟨V i, ?_, (h3 i hi).reads⟩⟩⟩
  simp [World.cell?, h1, h2 i hi]
theorem RowsO.kept {w w' : World} {s : Nat} {G : Nat → Nat} {v : Value} {zss : List (List Int)} (h : RowsO w s G v zss) (e : w'.heap[s]? = w.heap[s]?) (k : ∀ i, i < zss.length → w'.heap[G i]? = w.heap[G i]?) : RowsO w' s G v zss := by
  obtain ⟨cap, c, t, V, h0, h1, h2, h3⟩ := h
  exact ⟨cap, c, t, V, h0, e.trans h1, h2, fun i hi => (h3 i hi).kept (k i hi)⟩

/-- a memory in blocks of its own, from lo up to hi, no two of them the same; or one of nils -/
def MemO (w : World) (lo hi : Nat) (v : Value) (M : Mem) : Prop :=
  (v = memV (.slice none 0 0) (.slice none 0 0) M.page M.screen M.locked ∧ M.rom = [] ∧ M.ram = []) ∨
  ∃ vr vm r s G, v = memV vr vm M.page M.screen M.locked ∧ RowO w r vr M.rom ∧ RowsO w s G vm M.ram ∧ (lo ≤ r ∧ r < hi) ∧ (lo ≤ s ∧ s < hi) ∧ (∀ i, i < M.ram.length → lo ≤ G i ∧ G i < hi) ∧
    r ≠ s ∧ (∀ i, i < M.ram.length → G i ≠ r ∧ G i ≠ s) ∧ ∀ i j, i < M.ram.length → j < M.ram.length → G i = G j → i = j
theorem MemO.reads {w : World} {lo hi : Nat} {v : Value} {M : Mem} (h : MemO w lo hi v M) : MemR w v M := by
  rcases h with ⟨rfl, h1, h2⟩ | ⟨vr, vm, r, s, G, rfl, h1, h2, _⟩
  · exact ⟨_, _, rfl, by rw [h1]; exact RowR.nil w, none, 0, by rw [h2]; rfl, .inl h2⟩
  · exact ⟨_, _, rfl, h1.reads, h2.reads⟩
theorem MemO.kept {w w' : World} {lo hi : Nat} {v : Value} {M : Mem} (h : MemO w lo hi v M) (k : ∀ b, lo ≤ b → b < hi → w'.heap[b]? = w.heap[b]?) : MemO w' lo hi v M := by
  rcases h with h | ⟨vr, vm, r, s, G, rfl, h1, h2, b1, b2, b3, d⟩
  · exact .inl h
  · exact .inr ⟨vr, vm, r, s, G, rfl, h1.kept (k r b1.1 b1.2), h2.kept (k s b2.1 b2.2) (fun i hi => k _ (b3 i hi).1 (b3 i hi).2), b1, b2, b3, d⟩
theorem MemO.mono {w : World} {lo hi lo' hi' : Nat} {v : Value} {M : Mem} (h : MemO w lo hi v M) (h0 : lo' ≤ lo) (h1 : hi ≤ hi') : MemO w lo' hi' v M := by
  rcases h with h | ⟨vr, vm, r, s, G, rfl, k1, k2, b1, b2, b3, d⟩
  · exact .inl h
  · exact .inr ⟨vr, vm, r, s, G, rfl, k1, k2, by omega, by omega, fun i hi => by have := b3 i hi; omega, d⟩
theorem MemO.below {w w' : World} {lo hi n : Nat} {v : Value} {M : Mem} (h : MemO w lo hi v M) (hb : Below n w w') (hn : hi ≤ n) : MemO w' lo hi v M := h.kept (fun b _ h1 => hb.block b (by omega))
theorem MemO.touch {w w' : World} {lo hi lo' hi' : Nat} {v : Value} {M : Mem} (h : MemO w lo hi v M) (ht : Touch lo' hi' w w') (hw : hi ≤ w.heap.size) (hd : hi ≤ lo' ∨ hi' ≤ lo) : MemO w' lo hi v M :=
  h.kept (fun b h0 h1 => ht.block b (by omega) (by omega))
theorem MemO.zero (w : World) (lo hi : Nat) : MemO w lo hi (memV (.slice none 0 0) (.slice none 0 0) 0 0 false) mem0 := .inl ⟨rfl, rfl, rfl⟩

theorem array5 {α : Type} {cs : Array α} (h : cs.size = 5) : ∃ c0 c1 c2 c3 c4, cs = #[c0, c1, c2, c3, c4] := by
  obtain ⟨l⟩ := cs
  match l, h with
  | [c0, c1, c2, c3, c4], _ => exact ⟨c0, c1, c2, c3, c4, rfl⟩
end Go.Proofs.YtgpmpfikeindfaaGreatDoor

/- A block that holds just these values. -/
namespace Go.Proofs.YtgpmpfikeindfaaGreatDoor
open Go.ChangeShapes Go.WideShapes Go.ChangeAt Go.RowKit
set_option linter.unusedVariables false

/-- block b holds just these values, and is not frozen -/
def Blk (w : World) (b : Nat) (cs : Array Value) : Prop := ∃ t, w.heap[b]? = some (.cells cs t (0, 0))
theorem Blk.cell {w : World} {b : Nat} {cs : Array Value} (h : Blk w b cs) (i : Nat) : w.cell? ⟨b, i, none⟩ = cs[i]? := by
  obtain ⟨t, h⟩ := h
  simp [World.cell?, h]
theorem Blk.frozen {w : World} {b : Nat} {cs : Array Value} (h : Blk w b cs) (i : Nat) : w.frozen? ⟨b, i, none⟩ = false := by
  obtain ⟨t, h⟩ := h
  simp [World.frozen?, h]
theorem Blk.below {w w' : World} {b n : Nat} {cs : Array Value} (h : Blk w b cs) (hb : Below n w w') (hn : b < n) : Blk w' b cs := by
  obtain ⟨t, h⟩ := h
  exact ⟨t, (hb.block b hn).trans h⟩
theorem Blk.new (w : World) (cs : Array Value) (t : TypeId) : Blk (w.alloc (.cells cs t)) w.heap.size cs := ⟨t, heap_alloc_new w _⟩
theorem Blk.alloc {w : World} {b : Nat} {cs : Array Value} (h : Blk w b cs) (o : Obj) : Blk (w.alloc o) b cs := by
  obtain ⟨t, h⟩ := h
  exact ⟨t, (Below.heap_alloc w o b (Array.getElem?_eq_some_iff.1 h).1).trans h⟩
theorem Blk.set {w : World} {b : Nat} {cs : Array Value} (h : Blk w b cs) (i : Nat) (u : Value) : Blk (w.setCell ⟨b, i, none⟩ u) b (cs.setIfInBounds i u) := by
  obtain ⟨t, h⟩ := h
  exact ⟨t, heap_setCell_same' _ _ _ _ _ _ h⟩
theorem Blk.other {w : World} {b : Nat} {cs : Array Value} (h : Blk w b cs) {p : Addr} (hp : b ≠ p.block) (u : Value) : Blk (w.setCell p u) b cs := by
  obtain ⟨t, h⟩ := h
  exact ⟨t, (Below.heap_setCell _ _ _ _ hp).trans h⟩
theorem sizeSet (w : World) (p : Addr) (u : Value) : (w.setCell p u).heap.size = w.heap.size := by simp [World.setCell]
theorem Blk.grown {w w' : World} {b : Nat} {cs : Array Value} {row : Option Nat} (h : Blk w b cs) (hg : w.grownBy w' row) (hne : some b ≠ row) : Blk w' b cs := by
  obtain ⟨t, h⟩ := h
  exact ⟨t, (hg.block b (Array.getElem?_eq_some_iff.1 h).1 hne).trans h⟩
theorem Blk.lt {w : World} {b : Nat} {cs : Array Value} (h : Blk w b cs) : b < w.heap.size := by
  obtain ⟨t, h⟩ := h
  exact (Array.getElem?_eq_some_iff.1 h).1
end Go.Proofs.YtgpmpfikeindfaaGreatDoor

/- What the exact laws' helpers over rows of ints answer: equal rows are told equal, marks are held, a copy owns its block, a size is taken off. -/
namespace Go.Proofs.YtgpmpfikeindfaaGreatDoor
open Go.ChangeShapes Go.WideShapes Go.ChangeAt Go.RowKit
set_option linter.unusedVariables false

theorem RowR.drewN {w : World} {v : Value} {zs : List Int} (h : RowR w v zs) (n : Nat) : RowR (w.drewN n) v zs := h
theorem Below.drewN (w : World) (n B : Nat) : Below B w (w.drewN n) := ⟨rfl, rfl, rfl, Nat.le_refl _, fun _ _ => rfl⟩
/-- n numbers from m on -/
def markL (m : Int) (n : Nat) : List Int := (List.range n).map fun (i : Nat) => m + (i : Int)
theorem markL_len (m : Int) (n : Nat) : (markL m n).length = n := by simp [markL]
theorem markL_at (m : Int) (n i : Nat) (h : i < n) : (markL m n).getD i 0 = m + (i : Int) := by
  simp [markL, List.getD_eq_getElem?_getD, List.getElem?_range h]

theorem row_some {w : World} {a : Option Addr} {zs : List Int} (h : zs = [] ∨ ∃ b off, a = some ⟨b, off, none⟩ ∧ ∀ i, i < zs.length → w.cell? ⟨b, off + i, none⟩ = some (.int .i64 (zs.getD i 0))) {k : Nat} (hk : k < zs.length) :
    ∃ b off, a = some ⟨b, off, none⟩ ∧ w.cell? ⟨b, off + k, none⟩ = some (.int .i64 (zs.getD k 0)) := by
  rcases h with h | ⟨b, off, h1, h2⟩
  · rw [h] at hk
    simp at hk
  · exact ⟨b, off, h1, h2 k hk⟩
theorem grown_set1 {w w' : World} {p off : Nat} {u : Value} (h : w.grownBy w' (some p)) : w.grownBy (w'.setCell ⟨p, off, none⟩ u) (some p) :=
  ⟨h.os, h.tape, h.output, by have := h.size; simpa [World.setCell] using this, fun k hk hne => by
    rw [Below.heap_setCell _ _ _ _ (fun e => hne (by rw [e]))]
    exact h.block k hk hne⟩
/-- the first k of the numbers are marked -/
def mkL (zs : List Int) (m : Int) (k : Nat) : List Int := (List.range zs.length).map fun (i : Nat) => if i < k then m + (i : Int) else zs.getD i 0
theorem mkL_len (zs : List Int) (m : Int) (k : Nat) : (mkL zs m k).length = zs.length := by simp [mkL]
theorem mkL_at (zs : List Int) (m : Int) (k i : Nat) (h : i < zs.length) : (mkL zs m k).getD i 0 = if i < k then m + (i : Int) else zs.getD i 0 := by
  simp [mkL, List.getD_eq_getElem?_getD, List.getElem?_range h]
theorem getD_ext {a b : List Int} (hl : a.length = b.length) (h : ∀ i, i < a.length → a.getD i 0 = b.getD i 0) : a = b := by
  apply List.ext_getElem hl
  intro i h1 h2
  have := h i h1
  simpa [List.getD_eq_getElem?_getD, List.getElem?_eq_getElem h1, List.getElem?_eq_getElem h2] using this
theorem mkL_zero (zs : List Int) (m : Int) : mkL zs m 0 = zs := getD_ext (mkL_len _ _ _) (fun i hi => by rw [mkL_len] at hi; rw [mkL_at _ _ _ _ hi, if_neg (by omega)])
theorem mkL_all (zs : List Int) (m : Int) : mkL zs m zs.length = markL m zs.length :=
  getD_ext (by rw [mkL_len, markL_len]) (fun i hi => by rw [mkL_len] at hi; rw [mkL_at _ _ _ _ hi, if_pos hi, markL_at _ _ _ hi])
theorem mkL_succ (zs : List Int) (m : Int) (k : Nat) (hk : k < zs.length) : (mkL zs m k).set k (m + (k : Int)) = mkL zs m (k + 1) := by
  refine getD_ext (by rw [List.length_set, mkL_len, mkL_len]) (fun i hi => ?_)
  rw [List.length_set, mkL_len] at hi
  rw [mkL_at _ _ _ _ hi, List.getD_eq_getElem?_getD]
  by_cases e : k = i
  · subst e
    rw [List.getElem?_set_self (by rw [mkL_len]; exact hi), if_pos (by omega)]
    rfl
  · rw [List.getElem?_set_ne e, ← List.getD_eq_getElem?_getD, mkL_at _ _ _ _ hi]
    by_cases h : i < k
    · rw [if_pos h, if_pos (by omega)]
    · rw [if_neg h, if_neg (by omega)]
theorem infoM : (Tryz.prog.info? 3).map (fun i => (i.zero, i.size, i.bytes)) = some (some (.int .i64 0), 1, 8) := by kernel_rfl
/-- the first k of the numbers are copied, the others are 0 -/
def cpL (zs : List Int) (k : Nat) : List Int := (List.range zs.length).map fun (i : Nat) => if i < k then zs.getD i 0 else 0
theorem cpL_len (zs : List Int) (k : Nat) : (cpL zs k).length = zs.length := by simp [cpL]
theorem cpL_at (zs : List Int) (k i : Nat) (h : i < zs.length) : (cpL zs k).getD i 0 = if i < k then zs.getD i 0 else 0 := by
  simp [cpL, List.getD_eq_getElem?_getD, List.getElem?_range h]
theorem cpL_all (zs : List Int) : cpL zs zs.length = zs := getD_ext (cpL_len _ _) (fun i hi => by rw [cpL_len] at hi; rw [cpL_at _ _ _ hi, if_pos hi])
theorem cpL_succ (zs : List Int) (k : Nat) (hk : k < zs.length) : (cpL zs k).set k (zs.getD k 0) = cpL zs (k + 1) := by
  refine getD_ext (by rw [List.length_set, cpL_len, cpL_len]) (fun i hi => ?_)
  rw [List.length_set, cpL_len] at hi
  rw [cpL_at _ _ _ hi, List.getD_eq_getElem?_getD]
  by_cases e : k = i
  · subst e
    rw [List.getElem?_set_self (by rw [cpL_len]; exact hi), if_pos (by omega)]
    rfl
  · rw [List.getElem?_set_ne e, ← List.getD_eq_getElem?_getD, cpL_at _ _ _ hi]
    by_cases h : i < k
    · rw [if_pos h, if_pos (by omega)]
    · rw [if_neg h, if_neg (by omega)]
theorem cpL_made (w : World) (zs : List Int) (t : TypeId) : RowO (w.alloc (.cells (madeCells #[.int .i64 0] zs.length) t)) w.heap.size (.slice (some ⟨w.heap.size, 0, none⟩) zs.length zs.length) (cpL zs 0) := by
  refine ⟨zs.length, madeCells #[.int .i64 0] zs.length, t, by rw [cpL_len], heap_alloc_new w _, fun i hi => ?_⟩
  rw [cpL_len] at hi
  rw [cpL_at _ _ _ hi, if_neg (by omega), ← Array.getElem?_toList, toList_madeCells_one, List.getElem?_replicate, if_pos hi]
end Go.Proofs.YtgpmpfikeindfaaGreatDoor

/- What the exact laws' helpers over rows of rows and over memories answer. -/
namespace Go.Proofs.YtgpmpfikeindfaaGreatDoor
open Go.ChangeShapes Go.WideShapes Go.ChangeAt Go.RowKit
set_option linter.unusedVariables false

theorem RowsR.drewN {w : World} {v : Value} {zss : List (List Int)} (h : RowsR w v zss) (n : Nat) : RowsR (w.drewN n) v zss := h
/-- how many numbers the first i rows have -/
def pre (zss : List (List Int)) (i : Nat) : Nat := ((zss.take i).map List.length).sum
theorem pre_succ (zss : List (List Int)) (i : Nat) (h : i < zss.length) : pre zss (i + 1) = pre zss i + (zss.getD i []).length := by
  have e : zss.take (i + 1) = zss.take i ++ [zss[i]] := List.take_succ_eq_append_getElem h
  unfold pre
  rw [e, List.map_append, List.sum_append, List.getD_eq_getElem?_getD, List.getElem?_eq_getElem h]
  simp
theorem pre_zero (zss : List (List Int)) : pre zss 0 = 0 := rfl
theorem pre_mono (zss : List (List Int)) (i j : Nat) (h : i ≤ j) (hj : j ≤ zss.length) : pre zss i ≤ pre zss j := by
  induction j with
  | zero =>
    obtain rfl : i = 0 := by omega
    exact Nat.le_refl _
  | succ j ih =>
    by_cases e : i = j + 1
    · rw [e]
      exact Nat.le_refl _
    · rw [pre_succ zss j (by omega)]
      have := ih (by omega) (by omega)
      omega
theorem row_le_pre (zss : List (List Int)) (i : Nat) (h : i < zss.length) : (zss.getD i []).length ≤ pre zss zss.length := by
  have h1 := pre_succ zss i h
  have h2 := pre_mono zss (i + 1) zss.length h (Nat.le_refl _)
  omega
theorem rows_some {w : World} {a : Option Addr} {zss : List (List Int)} (h : zss = [] ∨ ∃ b off, a = some ⟨b, off, none⟩ ∧ ∀ i, i < zss.length → ∃ u, w.cell? ⟨b, off + i, none⟩ = some u ∧ RowR w u (zss.getD i [])) {k : Nat} (hk : k < zss.length) :
    ∃ b off a' cap', a = some ⟨b, off, none⟩ ∧ w.cell? ⟨b, off + k, none⟩ = some (.slice a' (zss.getD k []).length cap') ∧ RowR w (.slice a' (zss.getD k []).length cap') (zss.getD k []) := by
  rcases h with h | ⟨b, off, h1, h2⟩
  · rw [h] at hk
    simp at hk
  · obtain ⟨u, h3, h4⟩ := h2 k hk
    have h5 := h4
    obtain ⟨a', cap', rfl, _⟩ := h5
    exact ⟨b, off, a', cap', h1, h3, h4⟩
theorem RowsR.disj {w : World} {a : Option Addr} {n cap : Nat} {zss : List (List Int)} (h : RowsR w (.slice a n cap) zss) : zss = [] ∨ ∃ b off, a = some ⟨b, off, none⟩ ∧ ∀ i, i < zss.length → ∃ u, w.cell? ⟨b, off + i, none⟩ = some u ∧ RowR w u (zss.getD i []) := by
  obtain ⟨a', cap', e, h⟩ := h
  injection e with e _ _
  subst e
  exact h
theorem RowR.disj {w : World} {a : Option Addr} {n cap : Nat} {zs : List Int} (h : RowR w (.slice a n cap) zs) : zs = [] ∨ ∃ b off, a = some ⟨b, off, none⟩ ∧ ∀ i, i < zs.length → w.cell? ⟨b, off + i, none⟩ = some (.int .i64 (zs.getD i 0)) := by
  obtain ⟨a', cap', e, h⟩ := h
  injection e with e _ _
  subst e
  exact h
/-- the first k rows are marked from m on -/
def mrL (zss : List (List Int)) (m : Int) (k : Nat) : List (List Int) := (List.range zss.length).map fun (i : Nat) => if i < k then markL (m + (pre zss i : Nat)) (zss.getD i []).length else zss.getD i []
theorem mrL_len (zss : List (List Int)) (m : Int) (k : Nat) : (mrL zss m k).length = zss.length := by simp [mrL]
theorem mrL_at (zss : List (List Int)) (m : Int) (k i : Nat) (h : i < zss.length) : (mrL zss m k).getD i [] = if i < k then markL (m + (pre zss i : Nat)) (zss.getD i []).length else zss.getD i [] := by
  simp [mrL, List.getD_eq_getElem?_getD, List.getElem?_range h]
theorem getD_ext2 {a b : List (List Int)} (hl : a.length = b.length) (h : ∀ i, i < a.length → a.getD i [] = b.getD i []) : a = b := by
  apply List.ext_getElem hl
  intro i h1 h2
  have := h i h1
  simpa [List.getD_eq_getElem?_getD, List.getElem?_eq_getElem h1, List.getElem?_eq_getElem h2] using this
theorem mrL_zero (zss : List (List Int)) (m : Int) : mrL zss m 0 = zss := getD_ext2 (mrL_len _ _ _) (fun i hi => by rw [mrL_len] at hi; rw [mrL_at _ _ _ _ hi, if_neg (by omega)])
theorem mrL_succ (zss : List (List Int)) (m : Int) (k : Nat) (hk : k < zss.length) : (mrL zss m k).set k (markL (m + (pre zss k : Nat)) (zss.getD k []).length) = mrL zss m (k + 1) := by
  refine getD_ext2 (by rw [List.length_set, mrL_len, mrL_len]) (fun i hi => ?_)
  rw [List.length_set, mrL_len] at hi
  rw [mrL_at _ _ _ _ hi, List.getD_eq_getElem?_getD]
  by_cases e : k = i
  · subst e
    rw [List.getElem?_set_self (by rw [mrL_len]; exact hi), if_pos (by omega)]
    rfl
  · rw [List.getElem?_set_ne e, ← List.getD_eq_getElem?_getD, mrL_at _ _ _ _ hi]
    by_cases h : i < k
    · rw [if_pos h, if_pos (by omega)]
    · rw [if_neg h, if_neg (by omega)]
/-- one row of a slice of rows, and what another content of it makes of the whole -/
theorem RowsO.at {w : World} {s : Nat} {G : Nat → Nat} {v : Value} {zss : List (List Int)} (h : RowsO w s G v zss) {k : Nat} (hk : k < zss.length) :
    ∃ cap u, v = .slice (some ⟨s, 0, none⟩) zss.length cap ∧ w.cell? ⟨s, k, none⟩ = some u ∧ RowO w (G k) u (zss.getD k []) ∧
      ∀ w' zs', RowO w' (G k) u zs' → w.grownBy w' (some (G k)) → (∀ i, i < zss.length → G i ≠ s) → (∀ i j, i < zss.length → j < zss.length → G i = G j → i = j) → RowsO w' s G v (zss.set k zs') := by
  obtain ⟨cap, c, t, V, hv, h1, h2, h3⟩ := h
  refine ⟨cap, V k, hv, by simp [World.cell?, h1, h2 k hk], h3 k hk, fun w' zs' hr hg hs hd => ?_⟩
  have hslt : s < w.heap.size := (Array.getElem?_eq_some_iff.1 h1).1
  refine ⟨cap, c, t, V, by rw [List.length_set]; exact hv, (hg.block s hslt (by simp; exact fun e => hs k hk e.symm)).trans h1, fun i hi => h2 i (by rw [List.length_set] at hi; exact hi), fun i hi => ?_⟩
  rw [List.length_set] at hi
  by_cases e : k = i
  · subst e
    rw [List.getD_eq_getElem?_getD, List.getElem?_set_self hk]
    exact hr
  · rw [List.getD_eq_getElem?_getD, List.getElem?_set_ne e, ← List.getD_eq_getElem?_getD]
    exact (h3 i hi).kept (hg.block _ (h3 i hi).lt (by simp; exact fun e2 => e (hd i k hi hk e2).symm))

end Go.Proofs.YtgpmpfikeindfaaGreatDoor

/- What spec.l01In answers: whether a number lies between two others; the world stays as it was. -/
namespace Go.Proofs.YtgpmpfikeindfaaGreatDoor
open Go.ChangeShapes Go.WideShapes Go.ChangeAt Go.RowKit
set_option linter.unusedVariables false

theorem in_spec (n a b : Int) (w : World) : Calls Tryz.prog 47 #[.int .i64 n, .int .i64 a, .int .i64 b] w fun e w' => e = .returned (.bool (inB n a b)) ∧ w' = w := by
  go_enter Tryz.func47, Tryz.ntmps47
  go_wp2
  all_goals go_ret
  all_goals exact ⟨ret_bool (by rw [Bool.eq_iff_iff]; simp [inB]; try omega), rfl⟩
end Go.Proofs.YtgpmpfikeindfaaGreatDoor
