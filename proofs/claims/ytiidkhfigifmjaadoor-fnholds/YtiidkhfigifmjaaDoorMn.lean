/- What the specification's new memory is. -/
import Derived.Test.YtiidkhfigifmjaaDoorMi
import Derived.Deep.RegionLaw
import Derived.Deep.AppendLies
namespace Go.Proofs.YtiidkhfigifmjaaDoor
open Go.ChangeShapes Go.WideShapes Go.ChangeAt Go.RowKit
set_option linter.unusedVariables false
set_option linter.unusedSimpArgs false

/-- a text's bytes as numbers -/
def romL (s : ByteArray) : List Int := (List.range s.size).map fun i => byt s i
theorem romL_len (s : ByteArray) : (romL s).length = s.size := by simp [romL]
theorem romL_at (s : ByteArray) (i : Nat) (h : i < s.size) : (romL s).getD i 0 = byt s i := by
  simp [romL, List.getD_eq_getElem?_getD, List.getElem?_range h]
def newC (s : ByteArray) : Int := if 65536 < s.size then 2 else if s.size = 64 then 0 else 8
def newM (s : ByteArray) : Mem := if s.size = 64 then ⟨romL s, List.replicate 4 (List.replicate 64 0), 0, 1, false⟩ else mem0
theorem new_ok {s : ByteArray} (h : s.size = 64) : okM (newM s) = true := by
  unfold newM
  rw [if_pos h]
  refine ok_all ?_ rfl (in_yes (by show (0 : Int) ≤ 0; omega) (by show (0 : Int) ≤ 3; omega)) (.inl rfl) (fun i hi => ?_)
  · rw [bytes_all (fun i hi => ?_), romL_len, h]
    · rfl
    · rw [romL_len] at hi
      rw [romL_at s i hi]
      have := byt_bd s i
      exact in_yes this.1 this.2
  · have : i = 0 ∨ i = 1 ∨ i = 2 ∨ i = 3 := by omega
    have hb : bytesB (List.replicate 64 0) 64 = true := by decide +kernel
    rcases this with rfl | rfl | rfl | rfl <;> exact hb
/-- the first k of the bytes -/
def romK (s : ByteArray) (k : Nat) : List Int := (List.range k).map fun i => byt s i
theorem romK_succ (s : ByteArray) (k : Nat) : romK s (k + 1) = romK s k ++ [byt s k] := by
  simp [romK, List.range_succ]
theorem romK_all (s : ByteArray) : romK s s.size = romL s := rfl
/-- while the ROM is being copied -/
def NewSt (w wr : World) (g c : Nat) (s : ByteArray) (k : Nat) : Prop :=
  Blk wr w.heap.size #[.slice none 0 0, .slice none 0 0, .int .i64 0, .int .i64 0, .bool false] ∧ Blk wr (w.heap.size + 1 + 1 + 1) #[.slice (some ⟨g, 0, none⟩) k c, .slice (some ⟨w.heap.size + 1 + 1, 0, none⟩) 0 0, .int .i64 0, .int .i64 1, .bool false] ∧
  wr.ownsRow (w.heap.size + 1) 3 1 (.slice (some ⟨g, 0, none⟩) k c) k ((romK s k).map (Value.int .i64)) ∧ (g = w.heap.size + 1 ∨ w.heap.size + 4 ≤ g) ∧ Below w.heap.size w wr ∧ wr.heap[w.heap.size + 1 + 1]? = some (.cells #[] 40 (0, 0))
theorem NewSt.step {w wr w1 : World} {g c g2 c2 k : Nat} {s : ByteArray} (h : NewSt w wr g c s k) (ho : w1.ownsRow (w.heap.size + 1) 3 1 (.slice (some ⟨g2, 0, none⟩) (k + 1) c2) (k + 1) ((romK s k).map (Value.int .i64) ++ [.int .i64 (byt s k)])) {o : Obj}
    (hg : ((wr.alloc o).drew).grownBy w1 (some g)) (hat : some g = some g2 ∨ g2 = wr.heap.size + 1) : NewSt w (w1.setCell ⟨w.heap.size + 1 + 1 + 1, 0, none⟩ (.slice (some ⟨g2, 0, none⟩) (k + 1) c2)) g2 c2 s (k + 1) ∧ Blk w1 (w.heap.size + 1 + 1 + 1) #[.slice (some ⟨g, 0, none⟩) k c, .slice (some ⟨w.heap.size + 1 + 1, 0, none⟩) 0 0, .int .i64 0, .int .i64 1, .bool false] := by
  obtain ⟨k1, k2, k3, k4, k5, k6⟩ := h
  have hlt := (k3.lt g rfl).2
  have h3 := k2.lt
  have hsz := k5.size
  have hg' : ∀ b, b < wr.heap.size → b ≠ g → w1.heap[b]? = wr.heap[b]? := fun b hb hne => (hg.block b (by simp; omega) (by simpa using hne)).trans (Below.heap_alloc wr o b hb)
  have hs1 : wr.heap.size + 1 ≤ w1.heap.size := by have := hg.size; simpa using this
  have q2 : Blk w1 (w.heap.size + 1 + 1 + 1) #[.slice (some ⟨g, 0, none⟩) k c, .slice (some ⟨w.heap.size + 1 + 1, 0, none⟩) 0 0, .int .i64 0, .int .i64 1, .bool false] := by
    obtain ⟨t, ht⟩ := k2
    exact ⟨t, (hg' _ h3 (by omega)).trans ht⟩
  have q1 : Blk w1 w.heap.size #[.slice none 0 0, .slice none 0 0, .int .i64 0, .int .i64 0, .bool false] := by
    obtain ⟨t, ht⟩ := k1
    exact ⟨t, (hg' _ (by omega) (by omega)).trans ht⟩
  have hB1 : Below w.heap.size w w1 := (k5.alloc k5.size o).drew.grown hg (by simp; omega) (fun b e => by cases e; omega)
  have hg2 : g2 = w.heap.size + 1 ∨ w.heap.size + 4 ≤ g2 := by
    rcases hat with e | e
    · injection e with e
      omega
    · omega
  refine ⟨⟨q1.other (by simp; omega) _, ?_, ?_, hg2, hB1.setCell (p := ⟨w.heap.size + 1 + 1 + 1, 0, none⟩) (by simp; omega) _, ?_⟩, q2⟩
  · have := q2.set 0 (.slice (some ⟨g2, 0, none⟩) (k + 1) c2)
    simpa using this
  · rw [romK_succ, List.map_append]
    exact ownsRow_setCell_other ho (by simp [Value.ownBlock]; omega) _
  · rw [Below.heap_setCell _ _ _ _ (by simp)]
    exact (hg' _ (by omega) (by omega)).trans k6
/-- the RAM of a new memory -/
def ram4 : List (List Int) := List.replicate 4 (List.replicate 64 0)
theorem ram4_at (k : Nat) (h : k < 4) : ram4.getD k [] = List.replicate 64 0 := by
  have : k = 0 ∨ k = 1 ∨ k = 2 ∨ k = 3 := by omega
  rcases this with rfl | rfl | rfl | rfl <;> rfl
/-- while the banks are being made -/
def NewS2 (w wr : World) (g c : Nat) (s : ByteArray) (s2 c2 k : Nat) : Prop :=
  Blk wr w.heap.size #[.slice none 0 0, .slice none 0 0, .int .i64 0, .int .i64 0, .bool false] ∧ Blk wr (w.heap.size + 1 + 1 + 1) #[.slice (some ⟨g, 0, none⟩) s.size c, .slice (some ⟨s2, 0, none⟩) k c2, .int .i64 0, .int .i64 1, .bool false] ∧
  RowO wr g (.slice (some ⟨g, 0, none⟩) s.size c) (romL s) ∧ Gath wr (w.heap.size + 1 + 1) g 40 (.slice (some ⟨s2, 0, none⟩) k c2) ram4 k ∧ (s2 = w.heap.size + 1 + 1 ∨ w.heap.size + 4 ≤ s2) ∧ (w.heap.size + 1 ≤ g ∧ g ≠ w.heap.size + 1 + 1 + 1) ∧ Below w.heap.size w wr
theorem NewSt.next {w wr : World} {g c : Nat} {s : ByteArray} (h : NewSt w wr g c s s.size) (h64 : s.size = 64) : NewS2 w wr g c s (w.heap.size + 1 + 1) 0 0 := by
  obtain ⟨k1, k2, k3, k4, k5, k6⟩ := h
  rw [romK_all] at k3
  obtain ⟨r, hge, _⟩ := RowO.of_owns' k3 (by omega)
  refine ⟨k1, k2, r, ⟨fun _ => 0, fun _ => .slice none 0 0, ?_, fun i hi => by omega, fun i j hi => by omega, fun i hi => by omega, by simp [Value.ownBlock]; omega⟩, .inl rfl, ⟨hge, by omega⟩, k5⟩
  exact ⟨rfl, .inr ⟨w.heap.size + 1 + 1, 0, #[], rfl, Nat.le_refl _, k6, Nat.le_refl _, by decide, rfl, rfl⟩⟩
theorem NewS2.step {w wr w1 : World} {g c s2 c2 s3 c3 k : Nat} {s : ByteArray} {V : Nat → Value} (h : NewS2 w wr g c s s2 c2 k) (hk : k < 4) (hV : wr.ownsRow (w.heap.size + 1 + 1) 40 1 (.slice (some ⟨s2, 0, none⟩) k c2) k ((List.range k).map V))
    (ho : w1.ownsRow (w.heap.size + 1 + 1) 40 1 (.slice (some ⟨s3, 0, none⟩) (k + 1) c3) (k + 1) ((List.range k).map V ++ [.slice (some ⟨wr.heap.size, 0, none⟩) 64 64])) {o : Obj}
    (hg : (((wr.alloc (.cells (madeCells #[.int .i64 0] 64) 3)).alloc o).drew).grownBy w1 (some s2)) (hat : some s2 = some s3 ∨ s3 = wr.heap.size + 1 + 1) :
    NewS2 w (w1.setCell ⟨w.heap.size + 1 + 1 + 1, 1, none⟩ (.slice (some ⟨s3, 0, none⟩) (k + 1) c3)) g c s s3 c3 (k + 1) ∧ Blk w1 (w.heap.size + 1 + 1 + 1) #[.slice (some ⟨g, 0, none⟩) s.size c, .slice (some ⟨s2, 0, none⟩) k c2, .int .i64 0, .int .i64 1, .bool false] := by
  obtain ⟨k1, k2, k3, k4, k5, k6, k7⟩ := h
  have hlt := (hV.lt s2 rfl).2
  have h3 := k2.lt
  have hsz := k7.size
  have hgl := k3.lt
  have hne : s2 ≠ g := by
    obtain ⟨_, _, _, _, _, _, hub⟩ := k4
    intro e
    exact hub (by rw [e]; rfl)
  have hb0 : Below wr.heap.size wr (((wr.alloc (.cells (madeCells #[.int .i64 0] 64) 3)).alloc o).drew) := (((Below.refl _ _).alloc (Nat.le_refl _) _).alloc (by simp) _).drew
  have hg' : ∀ b, b < wr.heap.size → b ≠ s2 → w1.heap[b]? = wr.heap[b]? := fun b hb hn => (hg.block b (by simp; omega) (by simpa using hn)).trans (hb0.block b hb)
  have hr0 : RowO (((wr.alloc (.cells (madeCells #[.int .i64 0] 64) 3)).alloc o).drew) wr.heap.size (.slice (some ⟨wr.heap.size, 0, none⟩) 64 64) (ram4.getD k []) := by
    rw [ram4_at k hk]
    refine ⟨64, madeCells #[.int .i64 0] 64, 3, by rw [List.length_replicate], (Below.heap_alloc _ _ _ (by simp)).trans (heap_alloc_new wr _), fun i hi => ?_⟩
    rw [List.length_replicate] at hi
    rw [← Array.getElem?_toList, toList_madeCells_one, List.getElem?_replicate, if_pos hi, List.getD_eq_getElem?_getD, List.getElem?_replicate, if_pos hi]
    rfl
  have hs3 : s3 = w.heap.size + 1 + 1 ∨ w.heap.size + 4 ≤ s3 := by
    rcases hat with e | e
    · injection e with e
      omega
    · omega
  have hG := k4.step hgl hV (by omega) hr0 (Nat.le_refl _) hb0 ho hg (hat.imp id (fun e => by simp; omega))
  have q2 : Blk w1 (w.heap.size + 1 + 1 + 1) #[.slice (some ⟨g, 0, none⟩) s.size c, .slice (some ⟨s2, 0, none⟩) k c2, .int .i64 0, .int .i64 1, .bool false] := by
    obtain ⟨t, ht⟩ := k2
    exact ⟨t, (hg' _ h3 (by omega)).trans ht⟩
  have q1 : Blk w1 w.heap.size #[.slice none 0 0, .slice none 0 0, .int .i64 0, .int .i64 0, .bool false] := by
    obtain ⟨t, ht⟩ := k1
    exact ⟨t, (hg' _ (by omega) (by omega)).trans ht⟩
  have hB1 : Below w.heap.size w w1 := (k7.trans (hb0.mono k7.size)).grown hg (by simp; omega) (fun b e => by cases e; omega)
  refine ⟨⟨q1.other (by simp; omega) _, ?_, ?_, ?_, hs3, k6, hB1.setCell (p := ⟨w.heap.size + 1 + 1 + 1, 1, none⟩) (by simp; omega) _⟩, q2⟩
  · have := q2.set 1 (.slice (some ⟨s3, 0, none⟩) (k + 1) c3)
    simpa using this
  · exact k3.kept ((Below.heap_setCell _ _ _ _ (by simp; omega)).trans (hg' g hgl (fun e => hne e.symm)))
  · obtain ⟨G, V', j1, j2, j3, j4, j5⟩ := hG
    refine ⟨G, V', ownsRow_setCell_other j1 (by simp [Value.ownBlock]; omega) _, fun i hi => ?_, j3, j4, j5⟩
    obtain ⟨i1, i2, i3, i4⟩ := j2 i hi
    refine ⟨i1.kept (Below.heap_setCell _ _ _ _ ?_), i2, by rw [sizeSet]; exact i3, i4⟩
    intro e
    have e : G i = w.heap.size + 1 + 1 + 1 := e
    obtain ⟨cu, cc, ct, hvv, hcc, hall⟩ := id i1
    obtain ⟨tt, htt⟩ := q2
    rw [e, htt] at hcc
    have hc : cc = #[.slice (some ⟨g, 0, none⟩) s.size c, .slice (some ⟨s2, 0, none⟩) k c2, .int .i64 0, .int .i64 1, .bool false] := by
      have := Option.some.inj hcc
      injection this with h _ _
      exact h.symm
    have h0 := hall 0 (by rw [ram4_at i (by omega)]; simp)
    rw [hc] at h0
    simp at h0
theorem NewS2.memO {w wr W' : World} {g c s2 c2 : Nat} {s : ByteArray} (h : NewS2 w wr g c s s2 c2 4) (h64 : s.size = 64) (hk : ∀ b, w.heap.size < b → b < wr.heap.size → W'.heap[b]? = wr.heap[b]?) (hs : wr.heap.size ≤ W'.heap.size) :
    MemO W' w.heap.size W'.heap.size (memV (.slice (some ⟨g, 0, none⟩) s.size c) (.slice (some ⟨s2, 0, none⟩) 4 c2) 0 1 false) (newM s) := by
  obtain ⟨k1, k2, k3, k4, k5, k6, k7⟩ := h
  obtain ⟨sp, G, h1, h2, h3, h4, h5, h6, h7⟩ := Gath.doneR (zss := ram4) k4 (by decide)
  have hgl := k3.lt
  unfold newM
  rw [if_pos h64]
  refine .inr ⟨_, _, g, sp, G, rfl, k3.kept (hk g (by omega) hgl), h1.kept (hk sp (by omega) h2.2) (fun i hi => hk _ (by have := h3 i hi; omega) (h3 i hi).2), by omega, by omega, fun i hi => by have := h3 i hi; show _ ∧ _; omega, fun e => h7 e.symm, fun i hi => ⟨h6 i hi, h4 i hi⟩, h5⟩
end Go.Proofs.YtiidkhfigifmjaaDoor
