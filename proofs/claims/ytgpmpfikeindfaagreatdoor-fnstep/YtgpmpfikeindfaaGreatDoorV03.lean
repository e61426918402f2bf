/- What the exact laws' copies of rows of rows and of memories answer, and their helpers over memories. -/
import Derived.Test.YtgpmpfikeindfaaGreatDoorV00
import Derived.Deep.AppendLies
import Derived.OwnWalk
import Derived.Test.YtgpmpfikeindfaaGreatDoorV02
namespace Go.Proofs.YtgpmpfikeindfaaGreatDoor
open Go.ChangeShapes Go.WideShapes Go.ChangeAt Go.RowKit
set_option linter.unusedVariables false

/-- the first k rows are copied into blocks of their own, the outer slice standing at the end of w's heap -/
def Built (w wr : World) (zss : List (List Int)) (k : Nat) : Prop :=
  ∃ (c : Array Value) (t : TypeId) (G : Nat → Nat) (V : Nat → Value), wr.heap[w.heap.size]? = some (.cells c t (0, 0)) ∧ c.size = zss.length ∧
    (∀ i, i < k → c[i]? = some (V i) ∧ RowO wr (G i) (V i) (zss.getD i []) ∧ w.heap.size < G i ∧ G i < wr.heap.size) ∧ ∀ i j, i < k → j < k → G i = G j → i = j
theorem Built.lt {w wr : World} {zss : List (List Int)} {k : Nat} (h : Built w wr zss k) : w.heap.size < wr.heap.size := by
  obtain ⟨c, t, G, V, h1, _⟩ := h
  exact (Array.getElem?_eq_some_iff.1 h1).1
theorem Built.cell {w wr : World} {zss : List (List Int)} {k : Nat} (h : Built w wr zss k) {i : Nat} (hi : i < zss.length) : (∃ u, wr.cell? ⟨w.heap.size, i, none⟩ = some u) ∧ wr.frozen? ⟨w.heap.size, i, none⟩ = false := by
  obtain ⟨c, t, G, V, h1, h2, _⟩ := h
  have h3 : i < c.size := by omega
  exact ⟨⟨c[i], by simp [World.cell?, h1, h3]⟩, by simp [World.frozen?, h1]⟩
theorem Built.step {w wr w1 : World} {zss : List (List Int)} {k : Nat} {u : Value} (h : Built w wr zss k) (hk : k < zss.length) (hr : RowO w1 wr.heap.size u (zss.getD k [])) (hb : Below wr.heap.size wr w1) :
    Built w (w1.setCell ⟨w.heap.size, k, none⟩ u) zss (k + 1) := by
  have hl := h.lt
  obtain ⟨c, t, G, V, h1, h2, h3, h4⟩ := h
  have h1' : w1.heap[w.heap.size]? = some (.cells c t (0, 0)) := (hb.block _ hl).trans h1
  have hs : (w1.setCell ⟨w.heap.size, k, none⟩ u).heap.size = w1.heap.size := by simp [World.setCell]
  have hlt := hr.lt
  refine ⟨c.setIfInBounds k u, t, fun i => if i = k then wr.heap.size else G i, fun i => if i = k then u else V i, heap_setCell_same' _ _ _ _ _ _ h1', by simpa using h2, fun i hi => ?_, fun i j hi hj e => ?_⟩
  · by_cases e : i = k
    · subst e
      simp only [if_true, hs]
      refine ⟨by rw [Array.getElem?_setIfInBounds]; simp; omega, hr.kept (Below.heap_setCell _ _ _ _ (by simp; omega)), hl, hlt⟩
    · simp only [if_neg e, hs]
      obtain ⟨k1, k2, k3, k4⟩ := h3 i (by omega)
      refine ⟨by rw [Array.getElem?_setIfInBounds, if_neg (fun h => e h.symm)]; exact k1, k2.kept ((Below.heap_setCell _ _ _ _ (by simp; omega)).trans (hb.block _ k4)), k3, by have := hb.size; omega⟩
  · by_cases e1 : i = k
    · by_cases e2 : j = k
      · rw [e1, e2]
      · simp only [if_pos e1, if_neg e2] at e
        have := (h3 j (by omega)).2.2.2
        omega
    · by_cases e2 : j = k
      · simp only [if_neg e1, if_pos e2] at e
        have := (h3 i (by omega)).2.2.2
        omega
      · simp only [if_neg e1, if_neg e2] at e
        exact h4 i j (by omega) (by omega) e
/-- rows of rows in blocks of their own, from lo up to the heap's end -/
def RowsN (w : World) (lo : Nat) (v : Value) (zss : List (List Int)) : Prop :=
  ∃ s G, RowsO w s G v zss ∧ (lo ≤ s ∧ s < w.heap.size) ∧ (∀ i, i < zss.length → lo ≤ G i ∧ G i < w.heap.size) ∧ (∀ i, i < zss.length → G i ≠ s) ∧ ∀ i j, i < zss.length → j < zss.length → G i = G j → i = j
theorem Built.done {w wr : World} {zss : List (List Int)} (h : Built w wr zss zss.length) (cap : Nat) : RowsN wr w.heap.size (.slice (some ⟨w.heap.size, 0, none⟩) zss.length cap) zss := by
  have hl := h.lt
  obtain ⟨c, t, G, V, h1, h2, h3, h4⟩ := h
  exact ⟨w.heap.size, G, ⟨cap, c, t, V, rfl, h1, fun i hi => (h3 i hi).1, fun i hi => (h3 i hi).2.1⟩, ⟨Nat.le_refl _, hl⟩, fun i hi => ⟨Nat.le_of_lt (h3 i hi).2.2.1, (h3 i hi).2.2.2⟩, fun i hi e => by have := (h3 i hi).2.2.1; omega, h4⟩
theorem RowsN.kept {w w' : World} {lo : Nat} {v : Value} {zss : List (List Int)} (h : RowsN w lo v zss) (hs : w.heap.size ≤ w'.heap.size) (k : ∀ b, lo ≤ b → b < w.heap.size → w'.heap[b]? = w.heap[b]?) : RowsN w' lo v zss := by
  obtain ⟨s, G, h1, h2, h3, h4, h5⟩ := h
  exact ⟨s, G, h1.kept (k s h2.1 h2.2) (fun i hi => k _ (h3 i hi).1 (h3 i hi).2), by omega, fun i hi => by have := h3 i hi; omega, h4, h5⟩
theorem infoMM : (Tryz.prog.info? 27).map (fun i => (i.zero, i.size, i.bytes)) = some (some (.slice none 0 0), 1, 24) := by kernel_rfl
theorem built0 (w : World) (zss : List (List Int)) (t : TypeId) : Built w (w.alloc (.cells (madeCells #[.slice none 0 0] zss.length) t)) zss 0 :=
  ⟨madeCells #[.slice none 0 0] zss.length, t, fun _ => 0, fun _ => .slice none 0 0, heap_alloc_new w _, by rw [← Array.length_toList, toList_madeCells_one, List.length_replicate], fun i hi => by omega, fun i j hi => by omega⟩
end Go.Proofs.YtgpmpfikeindfaaGreatDoor

/- Rows of rows that are gathered by append, each row a copy in a block of its own. -/
namespace Go.Proofs.YtgpmpfikeindfaaGreatDoor
open Go.ChangeShapes Go.WideShapes Go.ChangeAt Go.RowKit
set_option linter.unusedVariables false

theorem add_plain (b off j : Nat) : (⟨b, off, none⟩ : Addr).add j = ⟨b, off + j, none⟩ := by unfold Addr.add; split <;> simp_all
theorem news_of_row {w : World} {b off : Nat} {zs : List Int} (h : ∀ i, i < zs.length → w.cell? ⟨b, off + i, none⟩ = some (.int .i64 (zs.getD i 0))) :
    ∀ j u, (zs.map (Value.int .i64))[j]? = some u → w.cell? ((⟨b, off, none⟩ : Addr).add j) = some u := by
  intro j u hu
  have hj : j < zs.length := by
    have := (List.getElem?_eq_some_iff.1 hu).1
    simpa using this
  rw [add_plain, h j hj, ← hu, List.getElem?_map, List.getElem?_eq_getElem hj, List.getD_eq_getElem?_getD, List.getElem?_eq_getElem hj]
  rfl
theorem one_cells (zs : List Int) : ∀ u ∈ zs.map (Value.int .i64), u.oneCell' = true := by
  intro u hu
  obtain ⟨z, _, rfl⟩ := List.mem_map.1 hu
  rfl
theorem RowO.of_owns' {w : World} {B g cap : Nat} {t : TypeId} {n : Nat} {zs : List Int} (h : w.ownsRow B t 1 (.slice (some ⟨g, 0, none⟩) n cap) n (zs.map (Value.int .i64))) (hn : 0 < n) : RowO w g (.slice (some ⟨g, 0, none⟩) n cap) zs ∧ B ≤ g ∧ zs.length = n := by
  have hz : zs.length = n := by simpa using h.1
  obtain ⟨g', hb, hr⟩ := RowO.of_owns h hn
  obtain ⟨c', _, _, e, _, _⟩ := id hr
  injection e with e1 _ _
  injection e1 with e1
  injection e1 with e1 _ _
  subst e1
  exact ⟨hr, hb, hz⟩
/-- k rows have been gathered in the slice u, all in blocks from lo on, none of them block r -/
def Gath (w : World) (lo r : Nat) (t : TypeId) (u : Value) (zss : List (List Int)) (k : Nat) : Prop :=
  ∃ (G : Nat → Nat) (V : Nat → Value), w.ownsRow lo t 1 u k ((List.range k).map V) ∧ (∀ i, i < k → RowO w (G i) (V i) (zss.getD i []) ∧ lo ≤ G i ∧ G i < w.heap.size ∧ u.ownBlock ≠ some (G i)) ∧ (∀ i j, i < k → j < k → G i = G j → i = j) ∧ (∀ i, i < k → G i ≠ r) ∧ u.ownBlock ≠ some r
theorem Gath.start (w : World) (t : TypeId) (zss : List (List Int)) (r : Nat) (hr : r < w.heap.size) : Gath (w.alloc (.cells #[] t)) w.heap.size r t (.slice (some ⟨w.heap.size, 0, none⟩) 0 0) zss 0 :=
  ⟨fun _ => 0, fun _ => .slice none 0 0, World.ownsRow_lit w #[] 0 (Nat.le_refl _) (by decide) rfl, fun i hi => by omega, fun i j hi => by omega, fun i hi => by omega, by simp [Value.ownBlock]; omega⟩
theorem Gath.own {w : World} {lo r : Nat} {t : TypeId} {u : Value} {zss : List (List Int)} {k : Nat} (h : Gath w lo r t u zss k) : ∃ V : Nat → Value, w.ownsRow lo t 1 u k ((List.range k).map V) := by
  obtain ⟨G, V, h, _⟩ := h
  exact ⟨V, h⟩
theorem Gath.step {w w1 w2 : World} {lo r g g2 c2 : Nat} {t : TypeId} {u v : Value} {zss : List (List Int)} {k : Nat} {V : Nat → Value}
    (h : Gath w lo r t u zss k) (hrr : r < w.heap.size) (hV : w.ownsRow lo t 1 u k ((List.range k).map V)) (hlo : lo ≤ w.heap.size) (hr : RowO w1 g v (zss.getD k [])) (hg : w.heap.size ≤ g) (h1 : Below w.heap.size w w1)
    (ho : w2.ownsRow lo t 1 (.slice (some ⟨g2, 0, none⟩) (k + 1) c2) (k + 1) ((List.range k).map V ++ [v])) (h2 : w1.grownBy w2 u.ownBlock) (hat : u.ownBlock = some g2 ∨ w1.heap.size ≤ g2) :
    Gath w2 lo r t (.slice (some ⟨g2, 0, none⟩) (k + 1) c2) zss (k + 1) := by
  obtain ⟨G, V', hown, hrows, hinj, hav, hub⟩ := h
  have hVV : ∀ i, i < k → V' i = V i := by
    intro i hi
    have hc : ∀ (X : Nat → Value), w.ownsRow lo t 1 u k ((List.range k).map X) → ∀ g0, u.ownBlock = some g0 → w.cell? ((⟨g0, 0, none⟩ : Addr).add i) = some (X i) := by
      intro X hX g0 hg0
      refine hX.cells hg0 i (X i) ?_
      rw [List.getElem?_map, List.getElem?_range hi]
      rfl
    rcases hown.2 with ⟨rfl, h0⟩ | ⟨g0, cap, cur, rfl, _⟩
    · omega
    · have e1 := hc V' hown g0 rfl
      have e2 := hc V hV g0 rfl
      rw [e1] at e2
      exact Option.some.inj e2
  have hlt := hr.lt
  have hu : ∀ b, u.ownBlock = some b → lo ≤ b ∧ b < w.heap.size := fun b hb => hown.lt b hb
  have hne : ∀ b, w.heap.size ≤ b → some b ≠ u.ownBlock := fun b hb e => by
    have := hu b e.symm
    omega
  refine ⟨fun i => if i = k then g else G i, fun i => if i = k then v else V i, ?_, fun i hi => ?_, fun i j hi hj e => ?_, fun i hi => ?_, ?_⟩
  · have e : (List.range (k + 1)).map (fun i => if i = k then v else V i) = (List.range k).map V ++ [v] := by
      rw [List.range_succ, List.map_append]
      congr 1
      · apply List.map_congr_left
        intro i hi
        have := List.mem_range.1 hi
        rw [if_neg (by omega)]
      · simp
    rw [e]
    exact ho
  · by_cases e : i = k
    · subst e
      simp only [if_true]
      refine ⟨hr.kept (h2.block g hlt (hne g hg)), by omega, by have := h2.size; omega, ?_⟩
      rintro e2
      have e2 : g2 = g := by simpa [Value.ownBlock] using e2
      subst e2
      rcases hat with hat | hat
      · exact hne _ hg hat.symm
      · omega
    · simp only [if_neg e]
      obtain ⟨k1, k2, k3, k4⟩ := hrows i (by omega)
      rw [hVV i (by omega)] at k1
      have hs1 := h1.size
      refine ⟨k1.kept ((h2.block _ (by omega) (fun e => k4 e.symm)).trans (h1.block _ k3)), k2, by have := h2.size; omega, ?_⟩
      rintro e2
      have e2 : g2 = G i := by simpa [Value.ownBlock] using e2
      rcases hat with hat | hat
      · exact k4 (by rw [hat, e2])
      · omega
  · by_cases e1 : i = k
    · by_cases e2 : j = k
      · rw [e1, e2]
      · simp only [if_pos e1, if_neg e2] at e
        have := (hrows j (by omega)).2.2.1
        omega
    · by_cases e2 : j = k
      · simp only [if_neg e1, if_pos e2] at e
        have := (hrows i (by omega)).2.2.1
        omega
      · simp only [if_neg e1, if_neg e2] at e
        exact hinj i j (by omega) (by omega) e
  · by_cases e : i = k
    · simp only [if_pos e]
      omega
    · simp only [if_neg e]
      exact hav i (by omega)
  · rintro e2
    have e2 : g2 = r := by simpa [Value.ownBlock] using e2
    rcases hat with hat | hat
    · exact hub (by rw [hat, e2])
    · have := h1.size
      omega
theorem Gath.done {w : World} {lo r : Nat} {t : TypeId} {u : Value} {zss : List (List Int)} (h : Gath w lo r t u zss zss.length) (hn : 0 < zss.length) : RowsN w lo u zss := by
  obtain ⟨G, V, hown, hrows, hinj, _, _⟩ := h
  have hl := hown.lt
  obtain ⟨hlen, ⟨rfl, h0⟩ | ⟨s, cap, cur, rfl, hb, hh, hnc, hm, hs, ht⟩⟩ := hown
  · omega
  · refine ⟨s, G, ⟨cap, cur, t, V, rfl, hh, fun i hi => ?_, fun i hi => (hrows i hi).1⟩, hl s rfl, fun i hi => ⟨(hrows i hi).2.1, (hrows i hi).2.2.1⟩, fun i hi e => (hrows i hi).2.2.2 (by rw [e]; rfl), hinj⟩
    have h1 : (cur.toList.take (zss.length * 1))[i]? = ((List.range zss.length).map V)[i]? := by rw [ht]
    rw [List.getElem?_take, if_pos (by omega), List.getElem?_map, List.getElem?_range hi] at h1
    simpa using h1
theorem Gath.kept {w w' : World} {lo r : Nat} {t : TypeId} {u : Value} {zss : List (List Int)} {k : Nat} (h : Gath w lo r t u zss k) (hs : w.heap.size ≤ w'.heap.size) (hk : ∀ b, lo ≤ b → b < w.heap.size → w'.heap[b]? = w.heap[b]?) : Gath w' lo r t u zss k := by
  obtain ⟨G, V, hown, hrows, hinj, hav, hub⟩ := h
  refine ⟨G, V, ?_, fun i hi => ?_, hinj, hav, hub⟩
  · obtain ⟨hl, h | ⟨g, cap, cur, rfl, hb, hh, r⟩⟩ := hown
    · exact ⟨hl, .inl h⟩
    · exact ⟨hl, .inr ⟨g, cap, cur, rfl, hb, (hk g hb (Array.getElem?_eq_some_iff.1 hh).1).trans hh, r⟩⟩
  · obtain ⟨k1, k2, k3, k4⟩ := hrows i hi
    exact ⟨k1.kept (hk _ k2 k3), k2, by omega, k4⟩
/-- .. with the blocks told, none of them r -/
theorem Gath.doneR {w : World} {lo r : Nat} {t : TypeId} {u : Value} {zss : List (List Int)} (h : Gath w lo r t u zss zss.length) (hn : 0 < zss.length) :
    ∃ s G, RowsO w s G u zss ∧ (lo ≤ s ∧ s < w.heap.size) ∧ (∀ i, i < zss.length → lo ≤ G i ∧ G i < w.heap.size) ∧ (∀ i, i < zss.length → G i ≠ s) ∧ (∀ i j, i < zss.length → j < zss.length → G i = G j → i = j) ∧ (∀ i, i < zss.length → G i ≠ r) ∧ s ≠ r := by
  obtain ⟨G, V, hown, hrows, hinj, hav, hub⟩ := h
  have hl := hown.lt
  obtain ⟨hlen, ⟨rfl, h0⟩ | ⟨s, cap, cur, rfl, hb, hh, hnc, hm, hs, ht⟩⟩ := hown
  · omega
  · refine ⟨s, G, ⟨cap, cur, t, V, rfl, hh, fun i hi => ?_, fun i hi => (hrows i hi).1⟩, hl s rfl, fun i hi => ⟨(hrows i hi).2.1, (hrows i hi).2.2.1⟩, fun i hi e => (hrows i hi).2.2.2 (by rw [e]; rfl), hinj, hav, fun e => hub (by rw [e]; rfl)⟩
    have h1 : (cur.toList.take (zss.length * 1))[i]? = ((List.range zss.length).map V)[i]? := by rw [ht]
    rw [List.getElem?_take, if_pos (by omega), List.getElem?_map, List.getElem?_range hi] at h1
    simpa using h1
end Go.Proofs.YtgpmpfikeindfaaGreatDoor

/- What the specification's copy of a memory answers: the same memory in blocks of its own. -/
namespace Go.Proofs.YtgpmpfikeindfaaGreatDoor
open Go.ChangeShapes Go.WideShapes Go.ChangeAt Go.RowKit
set_option linter.unusedVariables false

/-- while the rows of a memory are being copied: its boxes, its ROM's copy, the rows so far -/
def OwnSt (w wr : World) (N1 g1 : Nat) (A1 : Array Value) (vr u : Value) (M : Mem) (t : TypeId) (k : Nat) : Prop :=
  Blk wr w.heap.size A1 ∧ Blk wr (w.heap.size + 1) #[.slice none 0 0, .slice none 0 0, .int .i64 0, .int .i64 0, .bool false] ∧ RowO wr g1 vr M.rom ∧ Gath wr N1 g1 t u M.ram k ∧ Below w.heap.size w wr ∧ N1 ≤ wr.heap.size
theorem OwnSt.step {w wr w1 w2 : World} {N1 g1 g g2 c2 : Nat} {A1 : Array Value} {vr u v : Value} {M : Mem} {t : TypeId} {k : Nat} {V : Nat → Value}
    (h : OwnSt w wr N1 g1 A1 vr u M t k) (hn : w.heap.size + 1 < N1) (hg1 : g1 < N1) (hV : wr.ownsRow N1 t 1 u k ((List.range k).map V)) (hr : RowO w1 g v (M.ram.getD k [])) (hg : wr.heap.size ≤ g) (h1 : Below wr.heap.size wr w1)
    (ho : w2.ownsRow N1 t 1 (.slice (some ⟨g2, 0, none⟩) (k + 1) c2) (k + 1) ((List.range k).map V ++ [v])) (h2 : w1.grownBy w2 u.ownBlock) (hat : u.ownBlock = some g2 ∨ w1.heap.size ≤ g2) :
    OwnSt w w2 N1 g1 A1 vr (.slice (some ⟨g2, 0, none⟩) (k + 1) c2) M t (k + 1) := by
  obtain ⟨k1, k2, k3, k4, k5, k6⟩ := h
  have hu : ∀ b, u.ownBlock = some b → N1 ≤ b ∧ b < wr.heap.size := fun b hb => hV.lt b hb
  have hne : ∀ b, b < N1 → some b ≠ u.ownBlock := fun b hb e => by
    have := hu b e.symm
    omega
  refine ⟨(k1.below h1 (by omega)).grown h2 (hne _ (by omega)), (k2.below h1 (by omega)).grown h2 (hne _ (by omega)), ?_, k4.step (by omega) hV k6 hr hg h1 ho h2 hat, (k5.trans (h1.mono k5.size)).grown h2 (by have := k5.size; have := h1.size; omega) (fun b e => by have := hu b e; omega), by have := h1.size; have := h2.size; omega⟩
  exact k3.kept ((h2.block g1 (by have := h1.size; omega) (hne _ hg1)).trans (h1.block g1 (by omega)))
theorem OwnSt.start {w w1 : World} {g1 c1 p2 : Nat} {a2 : Option Addr} {x : Value} {M : Mem} (t : TypeId)
    (q0 : Blk w1 w.heap.size #[x, .slice a2 M.ram.length p2, .int .i64 M.page, .int .i64 M.screen, .bool M.locked]) (q1 : Blk w1 (w.heap.size + 1) #[.slice none 0 0, .slice none 0 0, .int .i64 0, .int .i64 0, .bool false]) (hro : RowO w1 g1 (.slice (some ⟨g1, 0, none⟩) M.rom.length c1) M.rom) (hB : Below w.heap.size w w1) (hg : w.heap.size + 1 + 1 ≤ g1) :
    OwnSt w ((w1.setCell ⟨w.heap.size, 0, none⟩ (.slice (some ⟨g1, 0, none⟩) M.rom.length c1)).alloc (.cells #[] t)) w1.heap.size g1 #[.slice (some ⟨g1, 0, none⟩) M.rom.length c1, .slice a2 M.ram.length p2, .int .i64 M.page, .int .i64 M.screen, .bool M.locked] (.slice (some ⟨g1, 0, none⟩) M.rom.length c1) (.slice (some ⟨w1.heap.size, 0, none⟩) 0 0) M t 0 := by
  have s0 := (q0.set 0 (.slice (some ⟨g1, 0, none⟩) M.rom.length c1)).alloc (.cells #[] t)
  simp at s0
  have s1 := (q1.other (p := ⟨w.heap.size, 0, none⟩) (by simp) (.slice (some ⟨g1, 0, none⟩) M.rom.length c1)).alloc (.cells #[] t)
  have s2 := Gath.start (w1.setCell ⟨w.heap.size, 0, none⟩ (.slice (some ⟨g1, 0, none⟩) M.rom.length c1)) t M.ram g1 (by rw [sizeSet]; exact hro.lt)
  have s3 := (hB.setCell (p := ⟨w.heap.size, 0, none⟩) (Nat.le_refl _) (.slice (some ⟨g1, 0, none⟩) M.rom.length c1)).alloc (by rw [sizeSet]; exact Nat.le_of_lt q0.lt) (.cells #[] t)
  have hlt := hro.lt
  rw [sizeSet] at s2
  refine ⟨s0, s1, hro.kept ?_, s2, s3, by rw [World.size_alloc, sizeSet]; omega⟩
  rw [Below.heap_alloc _ _ _ (by rw [sizeSet]; exact hlt), Below.heap_setCell _ _ _ _ (by simp; omega)]
theorem OwnSt.memO {w wr W' : World} {N1 g1 c1 : Nat} {A1 : Array Value} {u : Value} {M : Mem} {t : TypeId} (h : OwnSt w wr N1 g1 A1 (.slice (some ⟨g1, 0, none⟩) M.rom.length c1) u M t M.ram.length) (hr : 0 < M.ram.length) (hg : w.heap.size + 1 + 1 ≤ g1) (hg1 : g1 < N1)
    (hk : ∀ b, w.heap.size + 1 + 1 ≤ b → b < wr.heap.size → W'.heap[b]? = wr.heap[b]?) (hs : wr.heap.size ≤ W'.heap.size) :
    ∃ s c2, u = .slice (some ⟨s, 0, none⟩) M.ram.length c2 ∧ MemO W' w.heap.size W'.heap.size (memV (.slice (some ⟨g1, 0, none⟩) M.rom.length c1) u M.page M.screen M.locked) M := by
  obtain ⟨k1, k2, k3, k4, k5, k6⟩ := h
  obtain ⟨s, G, h1, h2, h3, h4, h5⟩ := (k4.done hr).kept hs (fun b hb1 hb2 => hk b (by omega) hb2)
  obtain ⟨c2, _, _, _, hv, _, _, _⟩ := id h1
  refine ⟨s, c2, hv, .inr ⟨_, _, g1, s, G, rfl, k3.kept (hk _ hg (by omega)), h1, by omega, by omega, fun i hi => by have := h3 i hi; omega, by omega, fun i hi => ⟨by have := h3 i hi; omega, h4 i hi⟩, h5⟩⟩
theorem infoI1 : (Tryz.prog.info? 3).map (fun i => (i.zero, i.size, i.bytes)) = some (some (.int .i64 0), 1, 8) := by kernel_rfl
theorem infoI2 : (Tryz.prog.info? 27).map (fun i => (i.zero, i.size, i.bytes)) = some (some (.slice none 0 0), 1, 24) := by kernel_rfl
set_option maxRecDepth 100000 in
set_option maxHeartbeats 2000000 in
theorem own_spec (v : Value) (M : Mem) (w : World) (h : MemR w v M) (hk : okM M = true) :
    Calls Tryz.prog 26 #[v] w fun e w' => ∃ u, e = .returned u ∧ MemO w' w.heap.size w'.heap.size u M ∧ Below w.heap.size w w' := by
  obtain ⟨i0, hi0, hz0, hz1, hz2⟩ := info_parts infoI1
  obtain ⟨i1, hi1, hy0, hy1, hy2⟩ := info_parts infoI2
  obtain ⟨hp1, hp2, hp3, _, hp5⟩ := ok_parts hk
  have hl := bytes_len hp1
  obtain ⟨a1, p1, a2, p2, rfl, r1, r2⟩ := h.form
  obtain ⟨b1, off1, rfl, hr1⟩ : ∃ b off, a1 = some ⟨b, off, none⟩ ∧ ∀ i, i < M.rom.length → w.cell? ⟨b, off + i, none⟩ = some (.int .i64 (M.rom.getD i 0)) := by
    rcases r1.disj with h | h
    · rw [h] at hl; simp at hl
    · exact h
  have hb1 := World.block_lt_of_cell? w _ (hr1 0 (by omega))
  dsimp only at hb1
  have F0 : Hid (∀ o o', (((w.alloc o).alloc o').alloc (.cells #[] 3)).ownsRow (w.heap.size + 1 + 1) 3 1 (.slice (some ⟨w.heap.size + 1 + 1, 0, none⟩) 0 0) 0 []) := fun o o' => by
    have := World.ownsRow_lit (base := w.heap.size + 1 + 1) (e := 3) (size := 1) ((w.alloc o).alloc o') #[] 0 (by simp) (by decide) rfl
    simp only [World.size_alloc] at this
    exact this
  have hB3 : Hid (∀ o o' o'', Below w.heap.size w (((w.alloc o).alloc o').alloc o'')) := fun o o' o'' => (((Below.refl _ _).alloc (Nat.le_refl _) _).alloc (by simp) _).alloc (by simp; omega) _
  have F1 : Hid (∀ o o' o'' j u, (M.rom.map (Value.int .i64))[j]? = some u → (((w.alloc o).alloc o').alloc o'').cell? ((⟨b1, off1, none⟩ : Addr).add j) = some u) := fun o o' o'' => news_of_row (fun i hi => by
    rw [(hB3.out o o' o'').cell (p := ⟨b1, off1 + i, none⟩) hb1]
    exact hr1 i hi)
  have hml : Hid ((M.rom.map (Value.int .i64)).length = M.rom.length * 1) := by unfold Hid; simp
  have hpos : 0 < M.rom.length := by omega
  have hle : M.rom.length ≤ 1000 := by omega
  have E1 : Hid (∀ g1 c1 w1, w1.ownsRow (w.heap.size + 1 + 1) 3 1 (.slice (some ⟨g1, 0, none⟩) (0 + M.rom.length) c1) (0 + M.rom.length) ([] ++ M.rom.map (Value.int .i64)) →
      (((w.alloc (.cells #[.slice (some ⟨b1, off1, none⟩) M.rom.length p1, .slice a2 M.ram.length p2, .int .i64 M.page, .int .i64 M.screen, .bool M.locked] 30)).alloc (.cells #[.slice none 0 0, .slice none 0 0, .int .i64 0, .int .i64 0, .bool false] 30)).alloc (.cells #[] 3)).grownBy w1 (some (w.heap.size + 1 + 1)) → RowO w1 g1 (.slice (some ⟨g1, 0, none⟩) M.rom.length c1) M.rom ∧ w.heap.size + 1 + 1 ≤ g1 ∧ Blk w1 w.heap.size #[.slice (some ⟨b1, off1, none⟩) M.rom.length p1, .slice a2 M.ram.length p2, .int .i64 M.page, .int .i64 M.screen, .bool M.locked] ∧ Blk w1 (w.heap.size + 1) #[.slice none 0 0, .slice none 0 0, .int .i64 0, .int .i64 0, .bool false] ∧ Below w.heap.size w w1) := by
    intro g1 c1 w1 h1 h2
    rw [Nat.zero_add, List.nil_append] at h1
    obtain ⟨k1, k2, _⟩ := RowO.of_owns' h1 hpos
    refine ⟨k1, k2, ?_, ?_, (hB3.out _ _ _).grown h2 (by simp; omega) (fun k e => by cases e; omega)⟩
    · exact (((Blk.new w _ _).alloc _).alloc _).grown h2 (by simp; omega)
    · have := (Blk.new (w.alloc (.cells #[.slice (some ⟨b1, off1, none⟩) M.rom.length p1, .slice a2 M.ram.length p2, .int .i64 M.page, .int .i64 M.screen, .bool M.locked] 30)) #[.slice none 0 0, .slice none 0 0, .int .i64 0, .int .i64 0, .bool false] 30).alloc (.cells #[] 3)
      rw [World.size_alloc] at this
      exact this.grown h2 (by simp)
  replace hl := hid hl
  replace r2 := hid r2
  replace hp5 := hid hp5
  replace hp2 := hid hp2
  clear h hk hp1 r1 hr1
  go_enter Tryz.func26, Tryz.ntmps26
  go_wp2_with (at_builtin; refine wpList_append_lies _ rfl _ _ 27 rfl (w.heap.size + 1 + 1) 3 i0 _ 1 8 Tryz.underlying27 hi0 hz0 hz1 hz2 rfl (by omega) _ 0 [] rfl (F0.out _ _) ⟨b1, off1, none⟩ M.rom.length p1 (M.rom.map (Value.int .i64)) rfl hml.out (F1.out _ _ _) (one_cells _) hpos (by unfold maxLen; omega) (by omega) (by simp) _ rfl ?_; intro g1 c1 w1 hown1 hgrow1 hat1 hlt1; obtain ⟨hro, hg1, q0, q1, hB1⟩ := E1.out g1 c1 w1 hown1 hgrow1; have x0 := q0.cell; have f0 := q0.frozen; have hz := q1.lt; replace hro := hid hro; replace q0 := hid q0; replace q1 := hid q1; replace hB1 := hid hB1; clear hown1 hgrow1 hat1 E1 F0 F1)
  have h0 := hid (OwnSt.start 27 q0.out q1.out hro.out hB1.out hg1)
  have hN : w.heap.size + 1 < w1.heap.size := hz
  clear q0 q1 hro hB1 x0 f0 hz hml hpos hle hB3
  go_loopw [3, 4] (fun u i wr => ∃ k : Nat, k ≤ M.ram.length ∧ i = .int .i64 k ∧ OwnSt w wr w1.heap.size g1 #[.slice (some ⟨g1, 0, none⟩) M.rom.length c1, .slice a2 M.ram.length p2, .int .i64 M.page, .int .i64 M.screen, .bool M.locked] (.slice (some ⟨g1, 0, none⟩) M.rom.length c1) u M 27 k) (fun _ i _ => M.ram.length - (intOf i).toNat)
  case atStart => exact ⟨0, by omega, rfl, h0.out⟩
  case round =>
    obtain ⟨k, hk, rfl, hS⟩ := hrel
    have q0 := hS.1
    have hB := hS.2.2.2.2.1
    have x0 := q0.cell
    have hz := q0.lt
    by_cases hlt : k < M.ram.length
    · obtain ⟨b, off, a3, p3, rfl, d1, hb, r3⟩ := rows_at r2.out hlt
      have hlz := bytes_len (hp5.out k hlt)
      obtain ⟨b3, off3, rfl, hr3⟩ : ∃ b off, a3 = some ⟨b, off, none⟩ ∧ ∀ i, i < (M.ram.getD k []).length → w.cell? ⟨b, off + i, none⟩ = some (.int .i64 ((M.ram.getD k []).getD i 0)) := by
        rcases r3.disj with h | h
        · rw [h] at hlz; simp at hlz
        · exact h
      have hb3 := World.block_lt_of_cell? w _ (hr3 0 (by omega))
      dsimp only at hb3
      have d2 : wr.cell? ⟨b, off + k, none⟩ = some (.slice (some ⟨b3, off3, none⟩) (M.ram.getD k []).length p3) := by rw [hB.cell (p := ⟨b, off + k, none⟩) hb]; exact d1
      obtain ⟨V, hV⟩ := hS.2.2.2.1.own
      have hNle := hS.2.2.2.2.2
      have G0 : Hid ((wr.alloc (.cells #[] 3)).ownsRow wr.heap.size 3 1 (.slice (some ⟨wr.heap.size, 0, none⟩) 0 0) 0 []) := World.ownsRow_lit wr #[] 0 (Nat.le_refl _) (by decide) rfl
      have G1 : Hid (∀ j u, ((M.ram.getD k []).map (Value.int .i64))[j]? = some u → (wr.alloc (.cells #[] 3)).cell? ((⟨b3, off3, none⟩ : Addr).add j) = some u) := news_of_row (fun i hi => by
        rw [World.cell?_alloc_past _ _ _ (by have := hB.size; omega), hB.cell (p := ⟨b3, off3 + i, none⟩) hb3]
        exact hr3 i hi)
      have G2 : Hid (∀ g c w1', w1'.ownsRow wr.heap.size 3 1 (.slice (some ⟨g, 0, none⟩) (0 + (M.ram.getD k []).length) c) (0 + (M.ram.getD k []).length) ([] ++ (M.ram.getD k []).map (Value.int .i64)) → (wr.alloc (.cells #[] 3)).grownBy w1' (some wr.heap.size) →
          RowO w1' g (.slice (some ⟨g, 0, none⟩) (M.ram.getD k []).length c) (M.ram.getD k []) ∧ wr.heap.size ≤ g ∧ Below wr.heap.size wr w1' ∧ w1'.ownsRow w1.heap.size 27 1 u3 k ((List.range k).map V)) := by
        intro g c w1' h1 h2
        rw [Nat.zero_add, List.nil_append] at h1
        obtain ⟨k1, k2, _⟩ := RowO.of_owns' h1 (by omega)
        have k3 : Below wr.heap.size wr w1' := ((Below.refl _ _).alloc (Nat.le_refl _) _).grown h2 (by simp) (fun b e => by cases e; exact Nat.le_refl _)
        refine ⟨k1, k2, k3, (hV.alloc (.cells #[] 3)).kept h2 ?_⟩
        cases hub : u3.ownBlock with
        | none => exact .inl rfl
        | some b0 => exact .inr (by have := (hV.lt b0 hub).2; simp; omega)
      have G3 : Hid (∀ g c w1' g2 c2 w2, RowO w1' g (.slice (some ⟨g, 0, none⟩) (M.ram.getD k []).length c) (M.ram.getD k []) → wr.heap.size ≤ g → Below wr.heap.size wr w1' → w2.ownsRow w1.heap.size 27 1 (.slice (some ⟨g2, 0, none⟩) (k + 1) c2) (k + 1) ((List.range k).map V ++ [.slice (some ⟨g, 0, none⟩) (M.ram.getD k []).length c]) →
          (w1'.alloc (.cells #[.slice (some ⟨g, 0, none⟩) (M.ram.getD k []).length c] 27)).grownBy w2 u3.ownBlock → (u3.ownBlock = some g2 ∨ g2 = (w1'.alloc (.cells #[.slice (some ⟨g, 0, none⟩) (M.ram.getD k []).length c] 27)).heap.size) →
          OwnSt w w2 w1.heap.size g1 #[.slice (some ⟨g1, 0, none⟩) M.rom.length c1, .slice (some ⟨b, off, none⟩) M.ram.length p2, .int .i64 M.page, .int .i64 M.screen, .bool M.locked] (.slice (some ⟨g1, 0, none⟩) M.rom.length c1) (.slice (some ⟨g2, 0, none⟩) (k + 1) c2) M 27 (k + 1)) := by
        intro g c w1' g2 c2 w2 h1 h2 h3 h4 h5 h6
        exact hS.step hN hlt1 hV (h1.kept (Below.heap_alloc _ _ _ h1.lt)) h2 (h3.alloc h3.size _) h4 h5 (h6.imp id (fun e => by omega))
      have hml : Hid (((M.ram.getD k []).map (Value.int .i64)).length = (M.ram.getD k []).length * 1) := by unfold Hid; simp
      have hsz := hB.size
      have hbw : b < wr.heap.size := by omega
      clear hS q0 hB d1 r3 hr3 hV
      generalize M.ram.getD k [] = z at *
      have hz64 : 0 < z.length ∧ z.length ≤ 1000 := by omega
      have hk4 : k ≤ 1000 := by have := hp2.out; omega
      clear hlz
      go_wp2_with (first | (at_builtin; refine wpList_append_lies _ rfl _ _ 27 rfl wr.heap.size 3 i0 _ 1 8 Tryz.underlying27 hi0 hz0 hz1 hz2 rfl (by omega) _ 0 [] rfl G0.out ⟨b3, off3, none⟩ z.length p3 (z.map (Value.int .i64)) rfl hml.out G1.out (one_cells _) hz64.1 (by unfold maxLen; omega) (by omega) (by simp) _ rfl ?_; intro g c w2 ho2 hg2 hat2 hlt2; obtain ⟨hr2, hge2, hb2, hV2⟩ := G2.out g c w2 ho2 hg2; clear ho2 hg2 hat2 G2 G0 G1 hml; have hsz2 := hb2.size; replace hr2 := hid hr2; replace hb2 := hid hb2) | (at_builtin; refine wpList_append_lies _ rfl _ _ 28 rfl w1.heap.size 27 i1 _ 1 24 Tryz.underlying28 hi1 hy0 hy1 hy2 rfl (by omega) _ k ((List.range k).map V) rfl (hV2.alloc _) ⟨_, 0, none⟩ 1 1 [.slice (some ⟨g, 0, none⟩) z.length c] rfl rfl (World.news_of_block (cs := #[.slice (some ⟨g, 0, none⟩) z.length c]) (t := 27) (fr := (0, 0)) (heap_alloc_new _ _)) (by simp [Value.oneCell']) (by omega) (by unfold maxLen; omega) (by omega) (by simp; omega) _ rfl ?_; intro g3 c3 w3 ho3 hg3 hat3 hlt3; have hE := hid (G3.out g c w2 g3 c3 w3 hr2.out hge2 hb2.out ho3 hg3 hat3); clear ho3 hg3 hat3 G3 hV2 hr2 hb2))
      go_roundw
      case rel => exact ⟨k + 1, by omega, by go_num, hE.out⟩
      case measure => simp [intOf]; omega
    · obtain rfl : k = M.ram.length := by omega
      have hrp : 0 < M.ram.length := by have := hp2.out; omega
      obtain ⟨s, c2, hu, _⟩ := hS.memO (W' := wr) hrp hg1 hlt1 (fun _ _ _ => rfl) (Nat.le_refl _)
      subst hu
      have q1 := hS.2.1
      have x1 := q1.cell
      have f0 := q0.frozen
      have f1 := q1.frozen
      have hz2 := q1.lt
      replace hS := hid hS
      replace hB := hid hB
      clear q0 q1 r2 h0 hp5
      go_wp2
      refine bodyPost_ret (v := memV (.slice (some ⟨g1, 0, none⟩) M.rom.length c1) (.slice (some ⟨s, 0, none⟩) M.ram.length c2) M.page M.screen M.locked) (by simp [results, Tryz.results26, go_sem, x1]) rfl ⟨_, rfl, ?_, ?_⟩
      · obtain ⟨s', c2', hu, hO⟩ := hS.out.memO (W' := (((((wr.setCell ⟨w.heap.size, 1, none⟩ (.slice (some ⟨s, 0, none⟩) M.ram.length c2)).setCell ⟨w.heap.size + 1, 0, none⟩ (.slice (some ⟨g1, 0, none⟩) M.rom.length c1)).setCell ⟨w.heap.size + 1, 1, none⟩ (.slice (some ⟨s, 0, none⟩) M.ram.length c2)).setCell ⟨w.heap.size + 1, 2, none⟩ (.int .i64 M.page)).setCell ⟨w.heap.size + 1, 3, none⟩ (.int .i64 M.screen)).setCell ⟨w.heap.size + 1, 4, none⟩ (.bool M.locked)) hrp hg1 hlt1 (fun b h0 h1 => by
            iterate 6 rw [Below.heap_setCell _ _ _ _ (by simp; omega)]) (by
            iterate 6 rw [sizeSet]
            exact Nat.le_refl _)
        exact hO
      · iterate 6 refine Below.setCell ?_ (by first | omega | (simp; done) | (simp; omega)) _
        exact hB.out
end Go.Proofs.YtgpmpfikeindfaaGreatDoor
