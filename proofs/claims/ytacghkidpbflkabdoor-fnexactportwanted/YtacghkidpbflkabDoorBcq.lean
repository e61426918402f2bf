/- What the program's copies answer: a bank's, and a memory's, in blocks of its own. -/
import Derived.Test.YtacghkidpbflkabDoorBbq
import Derived.Test.YtacghkidpbflkabDoorMdq
import Derived.OwnWalk
import Derived.Deep.RegionWith
namespace Go.Proofs.YtacghkidpbflkabDoor
open Go.ChangeShapes Go.WideShapes Go.ChangeAt Go.RowKit
set_option linter.unusedVariables false
set_option linter.unusedSimpArgs false

/-- a row of its own at the end of the heap, and a bank that points to it behind it -/
structure Copied (w w' : World) (zs : List Int) : Prop where
  bank : Blk w' (w.heap.size + 1) #[.slice (some ⟨w.heap.size, 0, none⟩) zs.length zs.length]
  row : RowO w' w.heap.size (.slice (some ⟨w.heap.size, 0, none⟩) zs.length zs.length) zs
  bel : Below w.heap.size w w'
theorem ret_ptr {a b : Nat} (h : a = b) : Ending.returned (.pointer (some ⟨a, 0, none⟩)) = Ending.returned (.pointer (some ⟨b, 0, none⟩)) := by rw [h]
/-- one row more, wherever it was made -/
theorem Built.stepG {w wr w1 : World} {zss : List (List Int)} {k g : Nat} {u : Value} (h : Built w wr zss k) (hk : k < zss.length) (hr : RowO w1 g u (zss.getD k [])) (hg : wr.heap.size ≤ g) (hb : Below wr.heap.size wr w1) :
    Built w (w1.setCell ⟨w.heap.size, k, none⟩ u) zss (k + 1) := by
  have hl := h.lt
  obtain ⟨c, t, G, V, h1, h2, h3, h4⟩ := h
  have h1' : w1.heap[w.heap.size]? = some (.cells c t (0, 0)) := (hb.block _ hl).trans h1
  have hs : (w1.setCell ⟨w.heap.size, k, none⟩ u).heap.size = w1.heap.size := by simp [World.setCell]
  have hlt := hr.lt
  refine ⟨c.setIfInBounds k u, t, fun i => if i = k then g else G i, fun i => if i = k then u else V i, heap_setCell_same' _ _ _ _ _ _ h1', by simpa using h2, fun i hi => ?_, fun i j hi hj e => ?_⟩
  · by_cases e : i = k
    · subst e
      simp only [if_true, hs]
      refine ⟨by rw [Array.getElem?_setIfInBounds]; simp; omega, hr.kept (Below.heap_setCell _ _ _ _ (by simp; omega)), by omega, hlt⟩
    · simp only [if_neg e, hs]
      obtain ⟨k1, k2, k3, k4⟩ := h3 i (by omega)
      refine ⟨by rw [Array.getElem?_setIfInBounds, if_neg (fun h => e h.symm)]; exact k1, k2.kept ((Below.heap_setCell _ _ _ _ (by simp; omega)).trans (hb.block _ k4)), k3, by have := hb.size; omega⟩
  · by_cases e1 : i = k
    · by_cases e2 : j = k
      · rw [e1, e2]
      · simp only [if_pos e1, if_neg e2] at e
        have := (h3 j (by omega)).2.2.2
        omega
    · by_cases e2 : j = k
      · simp only [if_neg e1, if_pos e2] at e
        have := (h3 i (by omega)).2.2.2
        omega
      · simp only [if_neg e1, if_neg e2] at e
        exact h4 i j (by omega) (by omega) e
theorem Built.keptB {w wr w' : World} {zss : List (List Int)} {k : Nat} (h : Built w wr zss k) (hs : wr.heap.size ≤ w'.heap.size) (hk : ∀ b, w.heap.size ≤ b → b < wr.heap.size → w'.heap[b]? = wr.heap[b]?) : Built w w' zss k := by
  have hl := h.lt
  obtain ⟨c, t, G, V, h1, h2, h3, h4⟩ := h
  exact ⟨c, t, G, V, (hk _ (Nat.le_refl _) hl).trans h1, h2, fun i hi => by
    obtain ⟨k1, k2, k3, k4⟩ := h3 i hi
    exact ⟨k1, k2.kept (hk _ (by omega) k4), k3, by omega⟩, h4⟩
/-- a memory in blocks of its own, told by their numbers -/
structure Lies (w : World) (lo hi r s : Nat) (G : Nat → Nat) (M : Mem) : Prop where
  rom : RowO w r (.slice (some ⟨r, 0, none⟩) M.rom.length M.rom.length) M.rom
  ram : RowsO w s G (.slice (some ⟨s, 0, none⟩) M.ram.length M.ram.length) M.ram
  br : lo ≤ r ∧ r < hi
  bs : lo ≤ s ∧ s < hi
  bg : ∀ i, i < M.ram.length → lo ≤ G i ∧ G i < hi
  rs : r ≠ s
  gn : ∀ i, i < M.ram.length → G i ≠ r ∧ G i ≠ s
  inj : ∀ i j, i < M.ram.length → j < M.ram.length → G i = G j → i = j
theorem Lies.memO {w : World} {lo hi r s : Nat} {G : Nat → Nat} {M : Mem} (h : Lies w lo hi r s G M) : MemO w lo hi (memV (.slice (some ⟨r, 0, none⟩) M.rom.length M.rom.length) (.slice (some ⟨s, 0, none⟩) M.ram.length M.ram.length) M.page M.screen M.locked) M :=
  .inr ⟨_, _, r, s, G, rfl, h.rom, h.ram, h.br, h.bs, h.bg, h.rs, h.gn, h.inj⟩
theorem Lies.kept {w w' : World} {lo hi r s : Nat} {G : Nat → Nat} {M : Mem} (h : Lies w lo hi r s G M) (k : ∀ b, lo ≤ b → b < hi → w'.heap[b]? = w.heap[b]?) : Lies w' lo hi r s G M :=
  ⟨h.rom.kept (k _ h.br.1 h.br.2), h.ram.kept (k _ h.bs.1 h.bs.2) (fun i hi => k _ (h.bg i hi).1 (h.bg i hi).2), h.br, h.bs, h.bg, h.rs, h.gn, h.inj⟩
/-- while the rows of a memory are being copied -/
structure CmSt (w w6 wr : World) (r : Nat) (A0 A2 : Array Value) (M : Mem) (k : Nat) : Prop where
  q0 : Blk wr w.heap.size A0
  q1 : Blk wr (w.heap.size + 1) #[.slice none 0 0, .slice none 0 0, .int .i64 0, .int .i64 0, .bool false]
  q2 : Blk wr (w.heap.size + 1 + 1) A2
  row : RowO wr r (.slice (some ⟨r, 0, none⟩) M.rom.length M.rom.length) M.rom
  ord : w.heap.size + 1 + 1 < r ∧ r < w6.heap.size
  built : Built w6 wr M.ram k
  bel : Below w.heap.size w wr
theorem CmSt.step {w w6 wr w1 : World} {r : Nat} {A0 A2 : Array Value} {M : Mem} {k g : Nat} {u : Value} (h : CmSt w w6 wr r A0 A2 M k) (hk : k < M.ram.length) (hr : RowO w1 g u (M.ram.getD k [])) (hg : wr.heap.size ≤ g) (hb : Below wr.heap.size wr w1) :
    CmSt w w6 (w1.setCell ⟨w6.heap.size, k, none⟩ u) r A0 A2 M (k + 1) := by
  obtain ⟨q0, q1, q2, row, ord, built, bel⟩ := h
  have hl := built.lt
  exact ⟨(q0.below hb (by omega)).other (by simp; omega) _, (q1.below hb (by omega)).other (by simp; omega) _, (q2.below hb (by omega)).other (by simp; omega) _, row.kept ((Below.heap_setCell _ _ _ _ (by simp; omega)).trans (hb.block _ (by omega))), ord, built.stepG hk hr hg hb, (bel.trans (hb.mono bel.size)).setCell (p := ⟨w6.heap.size, k, none⟩) (by simp; omega) _⟩
theorem CmSt.lies {w w6 wr W' : World} {r : Nat} {A0 A2 : Array Value} {M : Mem} (h : CmSt w w6 wr r A0 A2 M M.ram.length) (hs : wr.heap.size ≤ W'.heap.size) (hk : ∀ b, w.heap.size + 1 + 1 < b → b < wr.heap.size → W'.heap[b]? = wr.heap[b]?) : ∃ G, Lies W' w.heap.size W'.heap.size r w6.heap.size G M := by
  obtain ⟨q0, q1, q2, row, ord, built, bel⟩ := h
  have hl := built.lt
  obtain ⟨c, t, G, V, h1, h2, h3, h4⟩ := built
  refine ⟨G, row.kept (hk _ ord.1 (by omega)), ⟨_, c, t, V, rfl, (hk _ (by omega) hl).trans h1, fun i hi => (h3 i hi).1, fun i hi => (h3 i hi).2.1.kept (hk _ (by have := (h3 i hi).2.2.1; omega) (h3 i hi).2.2.2)⟩, by omega, by omega, fun i hi => by have := (h3 i hi).2.2; omega, by omega, fun i hi => by have := (h3 i hi).2.2; omega, h4⟩
set_option maxRecDepth 100000 in
theorem copied_impl (p : Nat) (a : Option Addr) (cap : Nat) (zs : List Int) (w : World) (hp : w.cell? ⟨p, 0, none⟩ = some (.slice a zs.length cap)) (h : RowR w (.slice a zs.length cap) zs) (hl : zs.length ≤ 1000000000) :
    Calls Tryd.prog 174 #[.pointer (some ⟨p, 0, none⟩)] w fun e w' => e = .returned (.pointer (some ⟨w.heap.size + 1, 0, none⟩)) ∧ Copied w w' zs := by
  replace h := hid h.disj
  have hpl := World.block_lt_of_cell? w _ hp
  dsimp only at hpl
  have hmk := fun W => run_make_row' (P := Tryd.prog) 25 3 (.int .i64 0) 8 Tryd.underlying25 infoM rfl .i64 .i64 zs.length (by omega) (by omega) W
  have h0 : Hid (RowO (w.alloc (.cells (madeCells #[.int .i64 0] zs.length) 3)) w.heap.size (.slice (some ⟨w.heap.size, 0, none⟩) zs.length zs.length) (cpL zs 0)) := cpL_made w zs _
  have hall : Hid (cpL zs zs.length = zs) := cpL_all zs
  generalize madeCells #[.int .i64 0] zs.length = MC at *
  go_enter Tryd.func174, Tryd.ntmps174
  go_wp2
  clear hmk
  go_loopw [17] (fun i wr => ∃ k : Nat, k ≤ zs.length ∧ i = .int .i64 k ∧ RowO wr w.heap.size (.slice (some ⟨w.heap.size, 0, none⟩) zs.length zs.length) (cpL zs k) ∧ Below w.heap.size w wr ∧ wr.heap.size = w.heap.size + 1) (fun i _ => zs.length - (intOf i).toNat)
  case atStart => exact ⟨0, by omega, rfl, h0.out, (Below.refl _ _).alloc (Nat.le_refl _) _, by simp⟩
  case round =>
    obtain ⟨k, hk, rfl, hM, hB, hsz⟩ := hrel
    replace hsz := hid hsz
    clear h0 hp hpl
    by_cases hlt : k < zs.length
    · obtain ⟨b, off, rfl, c1⟩ := row_some h.out hlt
      have hb := World.block_lt_of_cell? w _ c1
      have c2 : wr.cell? ⟨b, off + k, none⟩ = some (.int .i64 (zs.getD k 0)) := by rw [hB.cell (p := ⟨b, off + k, none⟩) hb]; exact c1
      have hx := hM.cell k (by rw [cpL_len]; exact hlt)
      have hfr := hM.frozen k
      generalize (cpL zs k).getD k 0 = x at hx
      have hM2 : Hid (RowO (wr.setCell ⟨w.heap.size, k, none⟩ (.int .i64 (zs.getD k 0))) w.heap.size (.slice (some ⟨w.heap.size, 0, none⟩) zs.length zs.length) (cpL zs (k + 1)) ∧ Below w.heap.size w (wr.setCell ⟨w.heap.size, k, none⟩ (.int .i64 (zs.getD k 0))) ∧ (wr.setCell ⟨w.heap.size, k, none⟩ (.int .i64 (zs.getD k 0))).heap.size = w.heap.size + 1) :=
        ⟨by rw [← cpL_succ zs k hlt]; exact hM.set k _, hB.setCell (p := ⟨w.heap.size, k, none⟩) (Nat.le_refl _) _, by rw [sizeSet]; exact hsz.out⟩
      clear hM hB c1 hb h
      generalize zs.getD k 0 = z at *
      go_wp2
      go_roundw
      case rel => exact ⟨k + 1, by omega, by go_num, hM2.out⟩
      case measure => simp [intOf]; omega
    · obtain rfl : k = zs.length := by omega
      have hE : Hid (wr.heap.size = w.heap.size + 1 ∧ ∀ t, Copied w (wr.alloc (.cells #[.slice (some ⟨w.heap.size, 0, none⟩) zs.length zs.length] t)) zs) := ⟨hsz.out, fun t => ⟨by
        have := Blk.new wr #[.slice (some ⟨w.heap.size, 0, none⟩) zs.length zs.length] t
        rw [hsz.out] at this
        exact this, by
        rw [hall.out] at hM
        exact hM.kept (Below.heap_alloc _ _ _ (by rw [hsz.out]; omega)), hB.alloc hB.size _⟩⟩
      clear hM hB hsz
      go_wp2
      go_ret
      exact ⟨ret_ptr hE.out.1, hE.out.2 _⟩
end Go.Proofs.YtacghkidpbflkabDoor
