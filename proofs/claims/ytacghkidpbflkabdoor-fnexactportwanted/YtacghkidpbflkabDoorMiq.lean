/- What the specification's copy of a memory answers: the same memory in blocks of its own. -/
import Derived.Test.YtacghkidpbflkabDoorMgq
import Derived.Test.YtacghkidpbflkabDoorMhq
namespace Go.Proofs.YtacghkidpbflkabDoor
open Go.ChangeShapes Go.WideShapes Go.ChangeAt Go.RowKit
set_option linter.unusedVariables false

/-- while the rows of a memory are being copied: its boxes, its ROM's copy, the rows so far -/
def OwnSt (w wr : World) (N1 g1 : Nat) (A1 : Array Value) (vr u : Value) (M : Mem) (t : TypeId) (k : Nat) : Prop :=
  Blk wr w.heap.size A1 ∧ Blk wr (w.heap.size + 1) #[.slice none 0 0, .slice none 0 0, .int .i64 0, .int .i64 0, .bool false] ∧ RowO wr g1 vr M.rom ∧ Gath wr N1 g1 t u M.ram k ∧ Below w.heap.size w wr ∧ N1 ≤ wr.heap.size
theorem OwnSt.step {w wr w1 w2 : World} {N1 g1 g g2 c2 : Nat} {A1 : Array Value} {vr u v : Value} {M : Mem} {t : TypeId} {k : Nat} {V : Nat → Value}
    (h : OwnSt w wr N1 g1 A1 vr u M t k) (hn : w.heap.size + 1 < N1) (hg1 : g1 < N1) (hV : wr.ownsRow N1 t 1 u k ((List.range k).map V)) (hr : RowO w1 g v (M.ram.getD k [])) (hg : wr.heap.size ≤ g) (h1 : Below wr.heap.size wr w1)
    (ho : w2.ownsRow N1 t 1 (.slice (some ⟨g2, 0, none⟩) (k + 1) c2) (k + 1) ((List.range k).map V ++ [v])) (h2 : w1.grownBy w2 u.ownBlock) (hat : u.ownBlock = some g2 ∨ w1.heap.size ≤ g2) :
    OwnSt w w2 N1 g1 A1 vr (.slice (some ⟨g2, 0, none⟩) (k + 1) c2) M t (k + 1) := by
  obtain ⟨k1, k2, k3, k4, k5, k6⟩ := h
  have hu : ∀ b, u.ownBlock = some b → N1 ≤ b ∧ b < wr.heap.size := fun b hb => hV.lt b hb
  have hne : ∀ b, b < N1 → some b ≠ u.ownBlock := fun b hb e => by
    have := hu b e.symm
    omega
  refine ⟨(k1.below h1 (by omega)).grown h2 (hne _ (by omega)), (k2.below h1 (by omega)).grown h2 (hne _ (by omega)), ?_, k4.step (by omega) hV k6 hr hg h1 ho h2 hat, (k5.trans (h1.mono k5.size)).grown h2 (by have := k5.size; have := h1.size; omega) (fun b e => by have := hu b e; omega), by have := h1.size; have := h2.size; omega⟩
  exact k3.kept ((h2.block g1 (by have := h1.size; omega) (hne _ hg1)).trans (h1.block g1 (by omega)))
theorem OwnSt.start {w w1 : World} {g1 c1 p2 : Nat} {a2 : Option Addr} {x : Value} {M : Mem} (t : TypeId)
    (q0 : Blk w1 w.heap.size #[x, .slice a2 M.ram.length p2, .int .i64 M.page, .int .i64 M.screen, .bool M.locked]) (q1 : Blk w1 (w.heap.size + 1) #[.slice none 0 0, .slice none 0 0, .int .i64 0, .int .i64 0, .bool false]) (hro : RowO w1 g1 (.slice (some ⟨g1, 0, none⟩) M.rom.length c1) M.rom) (hB : Below w.heap.size w w1) (hg : w.heap.size + 1 + 1 ≤ g1) :
    OwnSt w ((w1.setCell ⟨w.heap.size, 0, none⟩ (.slice (some ⟨g1, 0, none⟩) M.rom.length c1)).alloc (.cells #[] t)) w1.heap.size g1 #[.slice (some ⟨g1, 0, none⟩) M.rom.length c1, .slice a2 M.ram.length p2, .int .i64 M.page, .int .i64 M.screen, .bool M.locked] (.slice (some ⟨g1, 0, none⟩) M.rom.length c1) (.slice (some ⟨w1.heap.size, 0, none⟩) 0 0) M t 0 := by
  have s0 := (q0.set 0 (.slice (some ⟨g1, 0, none⟩) M.rom.length c1)).alloc (.cells #[] t)
  simp at s0
  have s1 := (q1.other (p := ⟨w.heap.size, 0, none⟩) (by simp) (.slice (some ⟨g1, 0, none⟩) M.rom.length c1)).alloc (.cells #[] t)
  have s2 := Gath.start (w1.setCell ⟨w.heap.size, 0, none⟩ (.slice (some ⟨g1, 0, none⟩) M.rom.length c1)) t M.ram g1 (by rw [sizeSet]; exact hro.lt)
  have s3 := (hB.setCell (p := ⟨w.heap.size, 0, none⟩) (Nat.le_refl _) (.slice (some ⟨g1, 0, none⟩) M.rom.length c1)).alloc (by rw [sizeSet]; exact Nat.le_of_lt q0.lt) (.cells #[] t)
  have hlt := hro.lt
  rw [sizeSet] at s2
  refine ⟨s0, s1, hro.kept ?_, s2, s3, by rw [World.size_alloc, sizeSet]; omega⟩
  rw [Below.heap_alloc _ _ _ (by rw [sizeSet]; exact hlt), Below.heap_setCell _ _ _ _ (by simp; omega)]
theorem OwnSt.memO {w wr W' : World} {N1 g1 c1 : Nat} {A1 : Array Value} {u : Value} {M : Mem} {t : TypeId} (h : OwnSt w wr N1 g1 A1 (.slice (some ⟨g1, 0, none⟩) M.rom.length c1) u M t M.ram.length) (hr : 0 < M.ram.length) (hg : w.heap.size + 1 + 1 ≤ g1) (hg1 : g1 < N1)
    (hk : ∀ b, w.heap.size + 1 + 1 ≤ b → b < wr.heap.size → W'.heap[b]? = wr.heap[b]?) (hs : wr.heap.size ≤ W'.heap.size) :
    ∃ s c2, u = .slice (some ⟨s, 0, none⟩) M.ram.length c2 ∧ MemO W' w.heap.size W'.heap.size (memV (.slice (some ⟨g1, 0, none⟩) M.rom.length c1) u M.page M.screen M.locked) M := by
  obtain ⟨k1, k2, k3, k4, k5, k6⟩ := h
  obtain ⟨s, G, h1, h2, h3, h4, h5⟩ := (k4.done hr).kept hs (fun b hb1 hb2 => hk b (by omega) hb2)
  obtain ⟨c2, _, _, _, hv, _, _, _⟩ := id h1
  refine ⟨s, c2, hv, .inr ⟨_, _, g1, s, G, rfl, k3.kept (hk _ hg (by omega)), h1, by omega, by omega, fun i hi => by have := h3 i hi; omega, by omega, fun i hi => ⟨by have := h3 i hi; omega, h4 i hi⟩, h5⟩⟩
theorem infoI1 : (Tryd.prog.info? 3).map (fun i => (i.zero, i.size, i.bytes)) = some (some (.int .i64 0), 1, 8) := by kernel_rfl
theorem infoI2 : (Tryd.prog.info? 25).map (fun i => (i.zero, i.size, i.bytes)) = some (some (.slice none 0 0), 1, 24) := by kernel_rfl
end Go.Proofs.YtacghkidpbflkabDoor
