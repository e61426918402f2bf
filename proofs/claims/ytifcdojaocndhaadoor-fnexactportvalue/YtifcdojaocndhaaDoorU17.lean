/- What the exact laws' copies of rows of rows and of memories answer, and their helpers over memories. -/
import Derived.Test.YtifcdojaocndhaaDoorMcu
import Derived.Test.YtifcdojaocndhaaDoorU00
import Derived.Deep.AppendLies
import Derived.OwnWalk
namespace Go.Proofs.YtifcdojaocndhaaDoor
open Go.ChangeShapes Go.WideShapes Go.ChangeAt Go.RowKit
set_option linter.unusedVariables false

/-- the first k rows are copied into blocks of their own, the outer slice standing at the end of w's heap -/
def Built (w wr : World) (zss : List (List Int)) (k : Nat) : Prop :=
  ∃ (c : Array Value) (t : TypeId) (G : Nat → Nat) (V : Nat → Value), wr.heap[w.heap.size]? = some (.cells c t (0, 0)) ∧ c.size = zss.length ∧
    (∀ i, i < k → c[i]? = some (V i) ∧ RowO wr (G i) (V i) (zss.getD i []) ∧ w.heap.size < G i ∧ G i < wr.heap.size) ∧ ∀ i j, i < k → j < k → G i = G j → i = j
theorem Built.lt {w wr : World} {zss : List (List Int)} {k : Nat} (h : Built w wr zss k) : w.heap.size < wr.heap.size := by
  obtain ⟨c, t, G, V, h1, _⟩ := h
  exact (Array.getElem?_eq_some_iff.1 h1).1
theorem Built.cell {w wr : World} {zss : List (List Int)} {k : Nat} (h : Built w wr zss k) {i : Nat} (hi : i < zss.length) : (∃ u, wr.cell? ⟨w.heap.size, i, none⟩ = some u) ∧ wr.frozen? ⟨w.heap.size, i, none⟩ = false := by
  obtain ⟨c, t, G, V, h1, h2, _⟩ := h
  have h3 : i < c.size := by omega
  exact ⟨⟨c[i], by simp [World.cell?, h1, h3]⟩, by simp [World.frozen?, h1]⟩
theorem Built.step {w wr w1 : World} {zss : List (List Int)} {k : Nat} {u : Value} (h : Built w wr zss k) (hk : k < zss.length) (hr : RowO w1 wr.heap.size u (zss.getD k [])) (hb : Below wr.heap.size wr w1) :
    Built w (w1.setCell ⟨w.heap.size, k, none⟩ u) zss (k + 1) := by
  have hl := h.lt
  obtain ⟨c, t, G, V, h1, h2, h3, h4⟩ := h
  have h1' : w1.heap[w.heap.size]? = some (.cells c t (0, 0)) := (hb.block _ hl).trans h1
  have hs : (w1.setCell ⟨w.heap.size, k, none⟩ u).heap.size = w1.heap.size := by simp [World.setCell]
  have hlt := hr.lt
  refine ⟨c.setIfInBounds k u, t, fun i => if i = k then wr.heap.size else G i, fun i => if i = k then u else V i, heap_setCell_same' _ _ _ _ _ _ h1', by simpa using h2, fun i hi => ?_, fun i j hi hj e => ?_⟩
  · by_cases e : i = k
    · subst e
      simp only [if_true, hs]
      refine ⟨by rw [Array.getElem?_setIfInBounds]; simp; omega, hr.kept (Below.heap_setCell _ _ _ _ (by simp; omega)), hl, hlt⟩
    · simp only [if_neg e, hs]
      obtain ⟨k1, k2, k3, k4⟩ := h3 i (by omega)
      refine ⟨by rw [Array.getElem?_setIfInBounds, if_neg (fun h => e h.symm)]; exact k1, k2.kept ((Below.heap_setCell _ _ _ _ (by simp; omega)).trans (hb.block _ k4)), k3, by have := hb.size; omega⟩
  · by_cases e1 : i = k
    · by_cases e2 : j = k
      · rw [e1, e2]
      · simp only [if_pos e1, if_neg e2] at e
        have := (h3 j (by omega)).2.2.2
        omega
    · by_cases e2 : j = k
      · simp only [if_neg e1, if_pos e2] at e
        have := (h3 i (by omega)).2.2.2
        omega
      · simp only [if_neg e1, if_neg e2] at e
        exact h4 i j (by omega) (by omega) e
/-- rows of rows in blocks of their own, from lo up to the heap's end -/
def RowsN (w : World) (lo : Nat) (v : Value) (zss : List (List Int)) : Prop :=
  ∃ s G, RowsO w s G v zss ∧ (lo ≤ s ∧ s < w.heap.size) ∧ (∀ i, i < zss.length → lo ≤ G i ∧ G i < w.heap.size) ∧ (∀ i, i < zss.length → G i ≠ s) ∧ ∀ i j, i < zss.length → j < zss.length → G i = G j → i = j
theorem Built.done {w wr : World} {zss : List (List Int)} (h : Built w wr zss zss.length) (cap : Nat) : RowsN wr w.heap.size (.slice (some ⟨w.heap.size, 0, none⟩) zss.length cap) zss := by
  have hl := h.lt
  obtain ⟨c, t, G, V, h1, h2, h3, h4⟩ := h
  exact ⟨w.heap.size, G, ⟨cap, c, t, V, rfl, h1, fun i hi => (h3 i hi).1, fun i hi => (h3 i hi).2.1⟩, ⟨Nat.le_refl _, hl⟩, fun i hi => ⟨Nat.le_of_lt (h3 i hi).2.2.1, (h3 i hi).2.2.2⟩, fun i hi e => by have := (h3 i hi).2.2.1; omega, h4⟩
theorem RowsN.kept {w w' : World} {lo : Nat} {v : Value} {zss : List (List Int)} (h : RowsN w lo v zss) (hs : w.heap.size ≤ w'.heap.size) (k : ∀ b, lo ≤ b → b < w.heap.size → w'.heap[b]? = w.heap[b]?) : RowsN w' lo v zss := by
  obtain ⟨s, G, h1, h2, h3, h4, h5⟩ := h
  exact ⟨s, G, h1.kept (k s h2.1 h2.2) (fun i hi => k _ (h3 i hi).1 (h3 i hi).2), by omega, fun i hi => by have := h3 i hi; omega, h4, h5⟩
theorem infoMM : (Tryd.prog.info? 27).map (fun i => (i.zero, i.size, i.bytes)) = some (some (.slice none 0 0), 1, 24) := by kernel_rfl
theorem built0 (w : World) (zss : List (List Int)) (t : TypeId) : Built w (w.alloc (.cells (madeCells #[.slice none 0 0] zss.length) t)) zss 0 :=
  ⟨madeCells #[.slice none 0 0] zss.length, t, fun _ => 0, fun _ => .slice none 0 0, heap_alloc_new w _, by rw [← Array.length_toList, toList_madeCells_one, List.length_replicate], fun i hi => by omega, fun i j hi => by omega⟩
set_option maxRecDepth 100000 in
theorem toss (v : Value) (zss : List (List Int)) (w : World) (h : RowsR w v zss) (hl : zss.length ≤ 1000000000) (hr : ∀ i, i < zss.length → (zss.getD i []).length ≤ 1000000000) :
    Calls Tryd.prog 105 #[v] w fun e w' => ∃ u, e = .returned u ∧ RowsN w' w.heap.size u zss ∧ Below w.heap.size w w' := by
  obtain ⟨a, cap, rfl, h⟩ := h
  have hmk := fun W => run_make_row' (P := Tryd.prog) 28 27 (.slice none 0 0) 24 Tryd.underlying28 infoMM rfl .i64 .i64 zss.length (by omega) (by omega) W
  have h0 : Hid (Built w (w.alloc (.cells (madeCells #[.slice none 0 0] zss.length) 27)) zss 0) := built0 w zss _
  replace h := hid (h)
  replace hr : Hid (∀ i, i < zss.length → (zss.getD i []).length ≤ 1000000000) := hr
  generalize madeCells #[.slice none 0 0] zss.length = MC at *
  go_enter Tryd.func105, Tryd.ntmps105
  go_wp2
  clear hmk
  go_loopw [4] (fun i wr => ∃ k : Nat, k ≤ zss.length ∧ i = .int .i64 k ∧ Built w wr zss k ∧ Below w.heap.size w wr) (fun i _ => zss.length - (intOf i).toNat)
  case atStart => exact ⟨0, by omega, rfl, h0.out, (Below.refl _ _).alloc (Nat.le_refl _) _⟩
  case round =>
    obtain ⟨k, hk, rfl, hM, hB⟩ := hrel
    by_cases hlt : k < zss.length
    · obtain ⟨b, off, a1, p1, rfl, c1, r1⟩ := rows_some h.out hlt
      have hb := World.block_lt_of_cell? w _ c1
      have c2 : wr.cell? ⟨b, off + k, none⟩ = some (.slice a1 (zss.getD k []).length p1) := by rw [hB.cell (p := ⟨b, off + k, none⟩) hb]; exact c1
      have hbd := hr.out k hlt
      have hz := hM.lt
      obtain ⟨⟨x, hx⟩, hfr⟩ := hM.cell hlt
      replace r1 := hid (r1.below hB)
      have E : Hid (∀ w1 u, RowO w1 wr.heap.size u (zss.getD k []) → Below wr.heap.size wr w1 → Built w (w1.setCell ⟨w.heap.size, k, none⟩ u) zss (k + 1) ∧ Below w.heap.size w (w1.setCell ⟨w.heap.size, k, none⟩ u)) := fun w1 u h1 h2 =>
        ⟨hM.step hlt h1 h2, (hB.trans (h2.mono hB.size)).setCell (p := ⟨w.heap.size, k, none⟩) (Nat.le_refl _) _⟩
      clear hM hB c1 hb h hr
      generalize zss.getD k [] = z at *
      go_wp2_with fail
      refine (tor _ z _ r1.out hbd).mono ?_
      rintro e w1 ⟨u, rfl, hro, hb1⟩
      have E1 := E.out w1 u hro hb1
      obtain ⟨pc, _, _, rfl, _, _⟩ := hro
      have hx1 : w1.cell? ⟨w.heap.size, k, none⟩ = some x := by rw [hb1.cell (p := ⟨w.heap.size, k, none⟩) hz]; exact hx
      have hf1 : w1.frozen? ⟨w.heap.size, k, none⟩ = false := by rw [hb1.frozen (p := ⟨w.heap.size, k, none⟩) hz]; exact hfr
      replace E1 := hid (E1)
      clear E hb1 hx hfr c2
      go_wp2
      go_roundw
      case rel => exact ⟨k + 1, by omega, by go_num, E1.out.1, E1.out.2⟩
      case measure => simp [intOf]; omega
    · obtain rfl : k = zss.length := by omega
      go_wp2
      go_ret
      exact ⟨_, rfl, hM.done _, hB⟩
end Go.Proofs.YtifcdojaocndhaaDoor

/- Rows of rows that are gathered by append, each row a copy in a block of its own. -/
namespace Go.Proofs.YtifcdojaocndhaaDoor
open Go.ChangeShapes Go.WideShapes Go.ChangeAt Go.RowKit
set_option linter.unusedVariables false

theorem add_plain (b off j : Nat) : (⟨b, off, none⟩ : Addr).add j = ⟨b, off + j, none⟩ := by unfold Addr.add; split <;> simp_all
theorem news_of_row {w : World} {b off : Nat} {zs : List Int} (h : ∀ i, i < zs.length → w.cell? ⟨b, off + i, none⟩ = some (.int .i64 (zs.getD i 0))) :
    ∀ j u, (zs.map (Value.int .i64))[j]? = some u → w.cell? ((⟨b, off, none⟩ : Addr).add j) = some u := by
  intro j u hu
  have hj : j < zs.length := by
    have := (List.getElem?_eq_some_iff.1 hu).1
    simpa using this
  rw [add_plain, h j hj, ← hu, List.getElem?_map, List.getElem?_eq_getElem hj, List.getD_eq_getElem?_getD, List.getElem?_eq_getElem hj]
  rfl
theorem one_cells (zs : List Int) : ∀ u ∈ zs.map (Value.int .i64), u.oneCell' = true := by
  intro u hu
  obtain ⟨z, _, rfl⟩ := List.mem_map.1 hu
  rfl
theorem RowO.of_owns' {w : World} {B g cap : Nat} {t : TypeId} {n : Nat} {zs : List Int} (h : w.ownsRow B t 1 (.slice (some ⟨g, 0, none⟩) n cap) n (zs.map (Value.int .i64))) (hn : 0 < n) : RowO w g (.slice (some ⟨g, 0, none⟩) n cap) zs ∧ B ≤ g ∧ zs.length = n := by
  have hz : zs.length = n := by simpa using h.1
  obtain ⟨g', hb, hr⟩ := RowO.of_owns h hn
  obtain ⟨c', _, _, e, _, _⟩ := id hr
  injection e with e1 _ _
  injection e1 with e1
  injection e1 with e1 _ _
  subst e1
  exact ⟨hr, hb, hz⟩
/-- k rows have been gathered in the slice u, all in blocks from lo on, none of them block r -/
def Gath (w : World) (lo r : Nat) (t : TypeId) (u : Value) (zss : List (List Int)) (k : Nat) : Prop :=
  ∃ (G : Nat → Nat) (V : Nat → Value), w.ownsRow lo t 1 u k ((List.range k).map V) ∧ (∀ i, i < k → RowO w (G i) (V i) (zss.getD i []) ∧ lo ≤ G i ∧ G i < w.heap.size ∧ u.ownBlock ≠ some (G i)) ∧ (∀ i j, i < k → j < k → G i = G j → i = j) ∧ (∀ i, i < k → G i ≠ r) ∧ u.ownBlock ≠ some r
theorem Gath.start (w : World) (t : TypeId) (zss : List (List Int)) (r : Nat) (hr : r < w.heap.size) : Gath (w.alloc (.cells #[] t)) w.heap.size r t (.slice (some ⟨w.heap.size, 0, none⟩) 0 0) zss 0 :=
  ⟨fun _ => 0, fun _ => .slice none 0 0, World.ownsRow_lit w #[] 0 (Nat.le_refl _) (by decide) rfl, fun i hi => by omega, fun i j hi => by omega, fun i hi => by omega, by simp [Value.ownBlock]; omega⟩
theorem Gath.own {w : World} {lo r : Nat} {t : TypeId} {u : Value} {zss : List (List Int)} {k : Nat} (h : Gath w lo r t u zss k) : ∃ V : Nat → Value, w.ownsRow lo t 1 u k ((List.range k).map V) := by
  obtain ⟨G, V, h, _⟩ := h
  exact ⟨V, h⟩
theorem Gath.step {w w1 w2 : World} {lo r g g2 c2 : Nat} {t : TypeId} {u v : Value} {zss : List (List Int)} {k : Nat} {V : Nat → Value}
    (h : Gath w lo r t u zss k) (hrr : r < w.heap.size) (hV : w.ownsRow lo t 1 u k ((List.range k).map V)) (hlo : lo ≤ w.heap.size) (hr : RowO w1 g v (zss.getD k [])) (hg : w.heap.size ≤ g) (h1 : Below w.heap.size w w1)
    (ho : w2.ownsRow lo t 1 (.slice (some ⟨g2, 0, none⟩) (k + 1) c2) (k + 1) ((List.range k).map V ++ [v])) (h2 : w1.grownBy w2 u.ownBlock) (hat : u.ownBlock = some g2 ∨ w1.heap.size ≤ g2) :
    Gath w2 lo r t (.slice (some ⟨g2, 0, none⟩) (k + 1) c2) zss (k + 1) := by
  obtain ⟨G, V', hown, hrows, hinj, hav, hub⟩ := h
  have hVV : ∀ i, i < k → V' i = V i := by
    intro i hi
    have hc : ∀ (X : Nat → Value), w.ownsRow lo t 1 u k ((List.range k).map X) → ∀ g0, u.ownBlock = some g0 → w.cell? ((⟨g0, 0, none⟩ : Addr).add i) = some (X i) := by
      intro X hX g0 hg0
      refine hX.cells hg0 i (X i) ?_
      rw [List.getElem?_map, List.getElem?_range hi]
      rfl
    rcases hown.2 with ⟨rfl, h0⟩ | ⟨g0, cap, cur, rfl, _⟩
    · omega
    · have e1 := hc V' hown g0 rfl
      have e2 := hc V hV g0 rfl
      rw [e1] at e2
      exact Option.some.inj e2
  have hlt := hr.lt
  have hu : ∀ b, u.ownBlock = some b → lo ≤ b ∧ b < w.heap.size := fun b hb => hown.lt b hb
  have hne : ∀ b, w.heap.size ≤ b → some b ≠ u.ownBlock := fun b hb e => by
    have := hu b e.symm
    omega
  refine ⟨fun i => if i = k then g else G i, fun i => if i = k then v else V i, ?_, fun i hi => ?_, fun i j hi hj e => ?_, fun i hi => ?_, ?_⟩
  · have e : (List.range (k + 1)).map (fun i => if i = k then v else V i) = (List.range k).map V ++ [v] := by
      rw [List.range_succ, List.map_append]
      congr 1
      · apply List.map_congr_left
        intro i hi
        have := List.mem_range.1 hi
        rw [if_neg (by omega)]
      · simp
    rw [e]
    exact ho
  · by_cases e : i = k
    · subst e
      simp only [if_true]
      refine ⟨hr.kept (h2.block g hlt (hne g hg)), by omega, by have := h2.size; omega, ?_⟩
      rintro e2
      have e2 : g2 = g := by simpa [Value.ownBlock] using e2
      subst e2
      rcases hat with hat | hat
      · exact hne _ hg hat.symm
      · omega
    · simp only [if_neg e]
      obtain ⟨k1, k2, k3, k4⟩ := hrows i (by omega)
      rw [hVV i (by omega)] at k1
      have hs1 := h1.size
      refine ⟨k1.kept ((h2.block _ (by omega) (fun e => k4 e.symm)).trans (h1.block _ k3)), k2, by have := h2.size; omega, ?_⟩
      rintro e2
      have e2 : g2 = G i := by simpa [Value.ownBlock] using e2
      rcases hat with hat | hat
      · exact k4 (by rw [hat, e2])
      · omega
  · by_cases e1 : i = k
    · by_cases e2 : j = k
      · rw [e1, e2]
      · simp only [if_pos e1, if_neg e2] at e
        have := (hrows j (by omega)).2.2.1
        omega
    · by_cases e2 : j = k
      · simp only [if_neg e1, if_pos e2] at e
        have := (hrows i (by omega)).2.2.1
        omega
      · simp only [if_neg e1, if_neg e2] at e
        exact hinj i j (by omega) (by omega) e
  · by_cases e : i = k
    · simp only [if_pos e]
      omega
    · simp only [if_neg e]
      exact hav i (by omega)
  · rintro e2
    have e2 : g2 = r := by simpa [Value.ownBlock] using e2
    rcases hat with hat | hat
    · exact hub (by rw [hat, e2])
    · have := h1.size
      omega
theorem Gath.done {w : World} {lo r : Nat} {t : TypeId} {u : Value} {zss : List (List Int)} (h : Gath w lo r t u zss zss.length) (hn : 0 < zss.length) : RowsN w lo u zss := by
  obtain ⟨G, V, hown, hrows, hinj, _, _⟩ := h
  have hl := hown.lt
  obtain ⟨hlen, ⟨rfl, h0⟩ | ⟨s, cap, cur, rfl, hb, hh, hnc, hm, hs, ht⟩⟩ := hown
  · omega
  · refine ⟨s, G, ⟨cap, cur, t, V, rfl, hh, fun i hi => ?_, fun i hi => (hrows i hi).1⟩, hl s rfl, fun i hi => ⟨(hrows i hi).2.1, (hrows i hi).2.2.1⟩, fun i hi e => (hrows i hi).2.2.2 (by rw [e]; rfl), hinj⟩
    have h1 : (cur.toList.take (zss.length * 1))[i]? = ((List.range zss.length).map V)[i]? := by rw [ht]
    rw [List.getElem?_take, if_pos (by omega), List.getElem?_map, List.getElem?_range hi] at h1
    simpa using h1
theorem Gath.kept {w w' : World} {lo r : Nat} {t : TypeId} {u : Value} {zss : List (List Int)} {k : Nat} (h : Gath w lo r t u zss k) (hs : w.heap.size ≤ w'.heap.size) (hk : ∀ b, lo ≤ b → b < w.heap.size → w'.heap[b]? = w.heap[b]?) : Gath w' lo r t u zss k := by
  obtain ⟨G, V, hown, hrows, hinj, hav, hub⟩ := h
  refine ⟨G, V, ?_, fun i hi => ?_, hinj, hav, hub⟩
  · obtain ⟨hl, h | ⟨g, cap, cur, rfl, hb, hh, r⟩⟩ := hown
    · exact ⟨hl, .inl h⟩
    · exact ⟨hl, .inr ⟨g, cap, cur, rfl, hb, (hk g hb (Array.getElem?_eq_some_iff.1 hh).1).trans hh, r⟩⟩
  · obtain ⟨k1, k2, k3, k4⟩ := hrows i hi
    exact ⟨k1.kept (hk _ k2 k3), k2, by omega, k4⟩
/-- .. with the blocks told, none of them r -/
theorem Gath.doneR {w : World} {lo r : Nat} {t : TypeId} {u : Value} {zss : List (List Int)} (h : Gath w lo r t u zss zss.length) (hn : 0 < zss.length) :
    ∃ s G, RowsO w s G u zss ∧ (lo ≤ s ∧ s < w.heap.size) ∧ (∀ i, i < zss.length → lo ≤ G i ∧ G i < w.heap.size) ∧ (∀ i, i < zss.length → G i ≠ s) ∧ (∀ i j, i < zss.length → j < zss.length → G i = G j → i = j) ∧ (∀ i, i < zss.length → G i ≠ r) ∧ s ≠ r := by
  obtain ⟨G, V, hown, hrows, hinj, hav, hub⟩ := h
  have hl := hown.lt
  obtain ⟨hlen, ⟨rfl, h0⟩ | ⟨s, cap, cur, rfl, hb, hh, hnc, hm, hs, ht⟩⟩ := hown
  · omega
  · refine ⟨s, G, ⟨cap, cur, t, V, rfl, hh, fun i hi => ?_, fun i hi => (hrows i hi).1⟩, hl s rfl, fun i hi => ⟨(hrows i hi).2.1, (hrows i hi).2.2.1⟩, fun i hi e => (hrows i hi).2.2.2 (by rw [e]; rfl), hinj, hav, fun e => hub (by rw [e]; rfl)⟩
    have h1 : (cur.toList.take (zss.length * 1))[i]? = ((List.range zss.length).map V)[i]? := by rw [ht]
    rw [List.getElem?_take, if_pos (by omega), List.getElem?_map, List.getElem?_range hi] at h1
    simpa using h1
end Go.Proofs.YtifcdojaocndhaaDoor
