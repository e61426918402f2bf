/- What the program's banks answer: a bank of numbers, whether it is whole, what is shown. -/
import Derived.Test.YtghcagibdcblnaaDoorR05
import Derived.Test.YtghcagibdcblnaaDoorR10
import Derived.Test.YtghcagibdcblnaaDoorR11
import Derived.OwnWalk
import Derived.Deep.RegionWith
namespace Go.Proofs.YtghcagibdcblnaaDoor
open Go.ChangeShapes Go.WideShapes Go.ChangeAt Go.RowKit
set_option linter.unusedVariables false
set_option linter.unusedSimpArgs false

theorem byte_impl (v : Int) (w : World) : Calls Tryd.prog 58 #[.int .i64 v] w fun e w' => e = .returned (.bool (inB v 0 255)) ∧ w' = w := by
  go_enter Tryd.func58, Tryd.ntmps58
  go_wp2
  all_goals go_ret
  all_goals exact ⟨ret_bool (by rw [Bool.eq_iff_iff]; simp [inB]; try omega), rfl⟩
theorem within_impl (n a b : Int) (w : World) : Calls Tryd.prog 60 #[.int .i64 n, .int .i64 a, .int .i64 b] w fun e w' => e = .returned (.bool (inB n a b)) ∧ w' = w := by
  go_enter Tryd.func60, Tryd.ntmps60
  go_wp2
  all_goals go_ret
  all_goals exact ⟨ret_bool (by rw [Bool.eq_iff_iff]; simp [inB]; try omega), rfl⟩
end Go.Proofs.YtghcagibdcblnaaDoor

/- What the program answers whether a memory is right, and what is at fault with what is asked of one. -/
namespace Go.Proofs.YtghcagibdcblnaaDoor
open Go.ChangeShapes Go.WideShapes Go.ChangeAt Go.RowKit
set_option linter.unusedVariables false
set_option linter.unusedSimpArgs false

theorem cell_new1 (W : World) (v : Value) (t : TypeId) : (W.alloc (.cells #[v] t)).cell? ⟨W.heap.size, 0, none⟩ = some v := (Blk.new W #[v] t).cell 0
theorem cell_new2 (W : World) (o : Obj) (v : Value) (t : TypeId) : ((W.alloc o).alloc (.cells #[v] t)).cell? ⟨W.heap.size + 1, 0, none⟩ = some v := by
  have := cell_new1 (W.alloc o) v t
  rw [World.size_alloc] at this
  exact this
/-- the code that these numbers beside a memory get -/
def faultM (M : Mem) (zs : List Int) : Int := if okM M = true then (if zs.all (fun z => inB z 0 255) = true then 0 else 4) else 1
theorem fault_one (M : Mem) (a : Int) : faultM M [a] = askM M a := by
  unfold faultM askM
  simp
theorem fault_no {M : Mem} {zs : List Int} {k : Nat} (ho : okM M = true) (hk : k < zs.length) (h : inB (zs.getD k 0) 0 255 = false) : faultM M zs = 4 := by
  unfold faultM
  rw [if_pos ho, if_neg]
  rw [Bool.not_eq_true, List.all_eq_false]
  refine ⟨zs[k], List.getElem_mem hk, ?_⟩
  rw [List.getD_eq_getElem?_getD, List.getElem?_eq_getElem hk] at h
  simpa using h
theorem fault_all {M : Mem} {zs : List Int} (ho : okM M = true) (h : ∀ i, i < zs.length → inB (zs.getD i 0) 0 255 = true) : faultM M zs = 0 := by
  unfold faultM
  rw [if_pos ho, if_pos]
  rw [List.all_eq_true]
  intro z hz
  obtain ⟨i, hi, rfl⟩ := List.mem_iff_getElem.1 hz
  have := h i hi
  simpa [List.getD_eq_getElem?_getD, List.getElem?_eq_getElem hi] using this
end Go.Proofs.YtghcagibdcblnaaDoor

/- What the program's copies answer: a bank's, and a memory's, in blocks of its own. -/
namespace Go.Proofs.YtghcagibdcblnaaDoor
open Go.ChangeShapes Go.WideShapes Go.ChangeAt Go.RowKit
set_option linter.unusedVariables false
set_option linter.unusedSimpArgs false

/-- a row of its own at the end of the heap, and a bank that points to it behind it -/
structure Copied (w w' : World) (zs : List Int) : Prop where
  bank : Blk w' (w.heap.size + 1) #[.slice (some ⟨w.heap.size, 0, none⟩) zs.length zs.length]
  row : RowO w' w.heap.size (.slice (some ⟨w.heap.size, 0, none⟩) zs.length zs.length) zs
  bel : Below w.heap.size w w'
theorem ret_ptr {a b : Nat} (h : a = b) : Ending.returned (.pointer (some ⟨a, 0, none⟩)) = Ending.returned (.pointer (some ⟨b, 0, none⟩)) := by rw [h]
/-- one row more, wherever it was made -/
theorem Built.stepG {w wr w1 : World} {zss : List (List Int)} {k g : Nat} {u : Value} (h : Built w wr zss k) (hk : k < zss.length) (hr : RowO w1 g u (zss.getD k [])) (hg : wr.heap.size ≤ g) (hb : Below wr.heap.size wr w1) :
    Built w (w1.setCell ⟨w.heap.size, k, none⟩ u) zss (k + 1) := by
  have hl := h.lt
  obtain ⟨c, t, G, V, h1, h2, h3, h4⟩ := h
  have h1' : w1.heap[w.heap.size]? = some (.cells c t (0, 0)) := (hb.block _ hl).trans h1
  have hs : (w1.setCell ⟨w.heap.size, k, none⟩ u).heap.size = w1.heap.size := by simp [World.setCell]
  have hlt := hr.lt
  refine ⟨c.setIfInBounds k u, t, fun i => if i = k then g else G i, fun i => if i = k then u else V i, heap_setCell_same' _ _ _ _ _ _ h1', by simpa using h2, fun i hi => ?_, fun i j hi hj e => ?_⟩
  · by_cases e : i = k
    · subst e
      simp only [if_true, hs]
      refine ⟨by rw [Array.getElem?_setIfInBounds]; simp; omega, hr.kept (Below.heap_setCell _ _ _ _ (by simp; omega)), by omega, hlt⟩
    · simp only [if_neg e, hs]
      obtain ⟨k1, k2, k3, k4⟩ := h3 i (by omega)
      refine ⟨by rw [Array.getElem?_setIfInBounds, if_neg (fun h => e h.symm)]; exact k1, k2.kept ((Below.heap_setCell _ _ _ _ (by simp; omega)).trans (hb.block _ k4)), k3, by have := hb.size; omega⟩
  · by_cases e1 : i = k
    · by_cases e2 : j = k
      · rw [e1, e2]
      · simp only [if_pos e1, if_neg e2] at e
        have := (h3 j (by omega)).2.2.2
        omega
    · by_cases e2 : j = k
      · simp only [if_neg e1, if_pos e2] at e
        have := (h3 i (by omega)).2.2.2
        omega
      · simp only [if_neg e1, if_neg e2] at e
        exact h4 i j (by omega) (by omega) e
theorem Built.keptB {w wr w' : World} {zss : List (List Int)} {k : Nat} (h : Built w wr zss k) (hs : wr.heap.size ≤ w'.heap.size) (hk : ∀ b, w.heap.size ≤ b → b < wr.heap.size → w'.heap[b]? = wr.heap[b]?) : Built w w' zss k := by
  have hl := h.lt
  obtain ⟨c, t, G, V, h1, h2, h3, h4⟩ := h
  exact ⟨c, t, G, V, (hk _ (Nat.le_refl _) hl).trans h1, h2, fun i hi => by
    obtain ⟨k1, k2, k3, k4⟩ := h3 i hi
    exact ⟨k1, k2.kept (hk _ (by omega) k4), k3, by omega⟩, h4⟩
/-- a memory in blocks of its own, told by their numbers -/
structure Lies (w : World) (lo hi r s : Nat) (G : Nat → Nat) (M : Mem) : Prop where
  rom : RowO w r (.slice (some ⟨r, 0, none⟩) M.rom.length M.rom.length) M.rom
  ram : RowsO w s G (.slice (some ⟨s, 0, none⟩) M.ram.length M.ram.length) M.ram
  br : lo ≤ r ∧ r < hi
  bs : lo ≤ s ∧ s < hi
  bg : ∀ i, i < M.ram.length → lo ≤ G i ∧ G i < hi
  rs : r ≠ s
  gn : ∀ i, i < M.ram.length → G i ≠ r ∧ G i ≠ s
  inj : ∀ i j, i < M.ram.length → j < M.ram.length → G i = G j → i = j
theorem Lies.memO {w : World} {lo hi r s : Nat} {G : Nat → Nat} {M : Mem} (h : Lies w lo hi r s G M) : MemO w lo hi (memV (.slice (some ⟨r, 0, none⟩) M.rom.length M.rom.length) (.slice (some ⟨s, 0, none⟩) M.ram.length M.ram.length) M.page M.screen M.locked) M :=
  .inr ⟨_, _, r, s, G, rfl, h.rom, h.ram, h.br, h.bs, h.bg, h.rs, h.gn, h.inj⟩
theorem Lies.kept {w w' : World} {lo hi r s : Nat} {G : Nat → Nat} {M : Mem} (h : Lies w lo hi r s G M) (k : ∀ b, lo ≤ b → b < hi → w'.heap[b]? = w.heap[b]?) : Lies w' lo hi r s G M :=
  ⟨h.rom.kept (k _ h.br.1 h.br.2), h.ram.kept (k _ h.bs.1 h.bs.2) (fun i hi => k _ (h.bg i hi).1 (h.bg i hi).2), h.br, h.bs, h.bg, h.rs, h.gn, h.inj⟩
/-- while the rows of a memory are being copied -/
structure CmSt (w w6 wr : World) (r : Nat) (A0 A2 : Array Value) (M : Mem) (k : Nat) : Prop where
  q0 : Blk wr w.heap.size A0
  q1 : Blk wr (w.heap.size + 1) #[.slice none 0 0, .slice none 0 0, .int .i64 0, .int .i64 0, .bool false]
  q2 : Blk wr (w.heap.size + 1 + 1) A2
  row : RowO wr r (.slice (some ⟨r, 0, none⟩) M.rom.length M.rom.length) M.rom
  ord : w.heap.size + 1 + 1 < r ∧ r < w6.heap.size
  built : Built w6 wr M.ram k
  bel : Below w.heap.size w wr
theorem CmSt.step {w w6 wr w1 : World} {r : Nat} {A0 A2 : Array Value} {M : Mem} {k g : Nat} {u : Value} (h : CmSt w w6 wr r A0 A2 M k) (hk : k < M.ram.length) (hr : RowO w1 g u (M.ram.getD k [])) (hg : wr.heap.size ≤ g) (hb : Below wr.heap.size wr w1) :
    CmSt w w6 (w1.setCell ⟨w6.heap.size, k, none⟩ u) r A0 A2 M (k + 1) := by
  obtain ⟨q0, q1, q2, row, ord, built, bel⟩ := h
  have hl := built.lt
  exact ⟨(q0.below hb (by omega)).other (by simp; omega) _, (q1.below hb (by omega)).other (by simp; omega) _, (q2.below hb (by omega)).other (by simp; omega) _, row.kept ((Below.heap_setCell _ _ _ _ (by simp; omega)).trans (hb.block _ (by omega))), ord, built.stepG hk hr hg hb, (bel.trans (hb.mono bel.size)).setCell (p := ⟨w6.heap.size, k, none⟩) (by simp; omega) _⟩
theorem CmSt.lies {w w6 wr W' : World} {r : Nat} {A0 A2 : Array Value} {M : Mem} (h : CmSt w w6 wr r A0 A2 M M.ram.length) (hs : wr.heap.size ≤ W'.heap.size) (hk : ∀ b, w.heap.size + 1 + 1 < b → b < wr.heap.size → W'.heap[b]? = wr.heap[b]?) : ∃ G, Lies W' w.heap.size W'.heap.size r w6.heap.size G M := by
  obtain ⟨q0, q1, q2, row, ord, built, bel⟩ := h
  have hl := built.lt
  obtain ⟨c, t, G, V, h1, h2, h3, h4⟩ := built
  refine ⟨G, row.kept (hk _ ord.1 (by omega)), ⟨_, c, t, V, rfl, (hk _ (by omega) hl).trans h1, fun i hi => (h3 i hi).1, fun i hi => (h3 i hi).2.1.kept (hk _ (by have := (h3 i hi).2.2.1; omega) (h3 i hi).2.2.2)⟩, by omega, by omega, fun i hi => by have := (h3 i hi).2.2; omega, by omega, fun i hi => by have := (h3 i hi).2.2; omega, h4⟩
end Go.Proofs.YtghcagibdcblnaaDoor
