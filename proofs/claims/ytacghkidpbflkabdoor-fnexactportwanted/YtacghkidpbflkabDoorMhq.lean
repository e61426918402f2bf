/- Rows of rows that are gathered by append, each row a copy in a block of its own. -/
import Derived.Test.YtacghkidpbflkabDoorMdq
import Derived.Test.YtacghkidpbflkabDoorBlq
import Derived.Deep.AppendLies
import Derived.OwnWalk
namespace Go.Proofs.YtacghkidpbflkabDoor
open Go.ChangeShapes Go.WideShapes Go.ChangeAt Go.RowKit
set_option linter.unusedVariables false

theorem add_plain (b off j : Nat) : (⟨b, off, none⟩ : Addr).add j = ⟨b, off + j, none⟩ := by unfold Addr.add; split <;> simp_all
theorem news_of_row {w : World} {b off : Nat} {zs : List Int} (h : ∀ i, i < zs.length → w.cell? ⟨b, off + i, none⟩ = some (.int .i64 (zs.getD i 0))) :
    ∀ j u, (zs.map (Value.int .i64))[j]? = some u → w.cell? ((⟨b, off, none⟩ : Addr).add j) = some u := by
  intro j u hu
  have hj : j < zs.length := by
    have := (List.getElem?_eq_some_iff.1 hu).1
    simpa using this
  rw [add_plain, h j hj, ← hu, List.getElem?_map, List.getElem?_eq_getElem hj, List.getD_eq_getElem?_getD, List.getElem?_eq_getElem hj]
  rfl
theorem one_cells (zs : List Int) : ∀ u ∈ zs.map (Value.int .i64), u.oneCell' = true := by
  intro u hu
  obtain ⟨z, _, rfl⟩ := List.mem_map.1 hu
  rfl
theorem RowO.of_owns' {w : World} {B g cap : Nat} {t : TypeId} {n : Nat} {zs : List Int} (h : w.ownsRow B t 1 (.slice (some ⟨g, 0, none⟩) n cap) n (zs.map (Value.int .i64))) (hn : 0 < n) : RowO w g (.slice (some ⟨g, 0, none⟩) n cap) zs ∧ B ≤ g ∧ zs.length = n := by
  have hz : zs.length = n := by simpa using h.1
  obtain ⟨g', hb, hr⟩ := RowO.of_owns h hn
  obtain ⟨c', _, _, e, _, _⟩ := id hr
  injection e with e1 _ _
  injection e1 with e1
  injection e1 with e1 _ _
  subst e1
  exact ⟨hr, hb, hz⟩
/-- k rows have been gathered in the slice u, all in blocks from lo on, none of them block r -/
def Gath (w : World) (lo r : Nat) (t : TypeId) (u : Value) (zss : List (List Int)) (k : Nat) : Prop :=
  ∃ (G : Nat → Nat) (V : Nat → Value), w.ownsRow lo t 1 u k ((List.range k).map V) ∧ (∀ i, i < k → RowO w (G i) (V i) (zss.getD i []) ∧ lo ≤ G i ∧ G i < w.heap.size ∧ u.ownBlock ≠ some (G i)) ∧ (∀ i j, i < k → j < k → G i = G j → i = j) ∧ (∀ i, i < k → G i ≠ r) ∧ u.ownBlock ≠ some r
theorem Gath.start (w : World) (t : TypeId) (zss : List (List Int)) (r : Nat) (hr : r < w.heap.size) : Gath (w.alloc (.cells #[] t)) w.heap.size r t (.slice (some ⟨w.heap.size, 0, none⟩) 0 0) zss 0 :=
  ⟨fun _ => 0, fun _ => .slice none 0 0, World.ownsRow_lit w #[] 0 (Nat.le_refl _) (by decide) rfl, fun i hi => by omega, fun i j hi => by omega, fun i hi => by omega, by simp [Value.ownBlock]; omega⟩
theorem Gath.own {w : World} {lo r : Nat} {t : TypeId} {u : Value} {zss : List (List Int)} {k : Nat} (h : Gath w lo r t u zss k) : ∃ V : Nat → Value, w.ownsRow lo t 1 u k ((List.range k).map V) := by
  obtain ⟨G, V, h, _⟩ := h
  exact ⟨V, h⟩
theorem Gath.step {w w1 w2 : World} {lo r g g2 c2 : Nat} {t : TypeId} {u v : Value} {zss : List (List Int)} {k : Nat} {V : Nat → Value}
    (h : Gath w lo r t u zss k) (hrr : r < w.heap.size) (hV : w.ownsRow lo t 1 u k ((List.range k).map V)) (hlo : lo ≤ w.heap.size) (hr : RowO w1 g v (zss.getD k [])) (hg : w.heap.size ≤ g) (h1 : Below w.heap.size w w1)
    (ho : w2.ownsRow lo t 1 (.slice (some ⟨g2, 0, none⟩) (k + 1) c2) (k + 1) ((List.range k).map V ++ [v])) (h2 : w1.grownBy w2 u.ownBlock) (hat : u.ownBlock = some g2 ∨ w1.heap.size ≤ g2) :
    Gath w2 lo r t (.slice (some ⟨g2, 0, none⟩) (k + 1) c2) zss (k + 1) := by
  obtain ⟨G, V', hown, hrows, hinj, hav, hub⟩ := h
  have hVV : ∀ i, i < k → V' i = V i := by
    intro i hi
    have hc : ∀ (X : Nat → Value), w.ownsRow lo t 1 u k ((List.range k).map X) → ∀ g0, u.ownBlock = some g0 → w.cell? ((⟨g0, 0, none⟩ : Addr).add i) = some (X i) := by
      intro X hX g0 hg0
      refine hX.cells hg0 i (X i) ?_
      rw [List.getElem?_map, List.getElem?_range hi]
      rfl
    rcases hown.2 with ⟨rfl, h0⟩ | ⟨g0, cap, cur, rfl, _⟩
    · omega
    · have e1 := hc V' hown g0 rfl
      have e2 := hc V hV g0 rfl
      rw [e1] at e2
      exact Option.some.inj e2
  have hlt := hr.lt
  have hu : ∀ b, u.ownBlock = some b → lo ≤ b ∧ b < w.heap.size := fun b hb => hown.lt b hb
  have hne : ∀ b, w.heap.size ≤ b → some b ≠ u.ownBlock := fun b hb e => by
    have := hu b e.symm
    omega
  refine ⟨fun i => if i = k then g else G i, fun i => if i = k then v else V i, ?_, fun i hi => ?_, fun i j hi hj e => ?_, fun i hi => ?_, ?_⟩
  · have e : (List.range (k + 1)).map (fun i => if i = k then v else V i) = (List.range k).map V ++ [v] := by
      rw [List.range_succ, List.map_append]
      congr 1
      · apply List.map_congr_left
        intro i hi
        have := List.mem_range.1 hi
        rw [if_neg (by omega)]
      · simp
    rw [e]
    exact ho
  · by_cases e : i = k
    · subst e
      simp only [if_true]
      refine ⟨hr.kept (h2.block g hlt (hne g hg)), by omega, by have := h2.size; omega, ?_⟩
      rintro e2
      have e2 : g2 = g := by simpa [Value.ownBlock] using e2
      subst e2
      rcases hat with hat | hat
      · exact hne _ hg hat.symm
      · omega
    · simp only [if_neg e]
      obtain ⟨k1, k2, k3, k4⟩ := hrows i (by omega)
      rw [hVV i (by omega)] at k1
      have hs1 := h1.size
      refine ⟨k1.kept ((h2.block _ (by omega) (fun e => k4 e.symm)).trans (h1.block _ k3)), k2, by have := h2.size; omega, ?_⟩
      rintro e2
      have e2 : g2 = G i := by simpa [Value.ownBlock] using e2
      rcases hat with hat | hat
      · exact k4 (by rw [hat, e2])
      · omega
  · by_cases e1 : i = k
    · by_cases e2 : j = k
      · rw [e1, e2]
      · simp only [if_pos e1, if_neg e2] at e
        have := (hrows j (by omega)).2.2.1
        omega
    · by_cases e2 : j = k
      · simp only [if_neg e1, if_pos e2] at e
        have := (hrows i (by omega)).2.2.1
        omega
      · simp only [if_neg e1, if_neg e2] at e
        exact hinj i j (by omega) (by omega) e
  · by_cases e : i = k
    · simp only [if_pos e]
      omega
    · simp only [if_neg e]
      exact hav i (by omega)
  · rintro e2
    have e2 : g2 = r := by simpa [Value.ownBlock] using e2
    rcases hat with hat | hat
    · exact hub (by rw [hat, e2])
    · have := h1.size
      omega
theorem Gath.done {w : World} {lo r : Nat} {t : TypeId} {u : Value} {zss : List (List Int)} (h : Gath w lo r t u zss zss.length) (hn : 0 < zss.length) : RowsN w lo u zss := by
  obtain ⟨G, V, hown, hrows, hinj, _, _⟩ := h
  have hl := hown.lt
  obtain ⟨hlen, ⟨rfl, h0⟩ | ⟨s, cap, cur, rfl, hb, hh, hnc, hm, hs, ht⟩⟩ := hown
  · omega
  · refine ⟨s, G, ⟨cap, cur, t, V, rfl, hh, fun i hi => ?_, fun i hi => (hrows i hi).1⟩, hl s rfl, fun i hi => ⟨(hrows i hi).2.1, (hrows i hi).2.2.1⟩, fun i hi e => (hrows i hi).2.2.2 (by rw [e]; rfl), hinj⟩
    have h1 : (cur.toList.take (zss.length * 1))[i]? = ((List.range zss.length).map V)[i]? := by rw [ht]
    rw [List.getElem?_take, if_pos (by omega), List.getElem?_map, List.getElem?_range hi] at h1
    simpa using h1
theorem Gath.kept {w w' : World} {lo r : Nat} {t : TypeId} {u : Value} {zss : List (List Int)} {k : Nat} (h : Gath w lo r t u zss k) (hs : w.heap.size ≤ w'.heap.size) (hk : ∀ b, lo ≤ b → b < w.heap.size → w'.heap[b]? = w.heap[b]?) : Gath w' lo r t u zss k := by
  obtain ⟨G, V, hown, hrows, hinj, hav, hub⟩ := h
  refine ⟨G, V, ?_, fun i hi => ?_, hinj, hav, hub⟩
  · obtain ⟨hl, h | ⟨g, cap, cur, rfl, hb, hh, r⟩⟩ := hown
    · exact ⟨hl, .inl h⟩
    · exact ⟨hl, .inr ⟨g, cap, cur, rfl, hb, (hk g hb (Array.getElem?_eq_some_iff.1 hh).1).trans hh, r⟩⟩
  · obtain ⟨k1, k2, k3, k4⟩ := hrows i hi
    exact ⟨k1.kept (hk _ k2 k3), k2, by omega, k4⟩
/-- .. with the blocks told, none of them r -/
theorem Gath.doneR {w : World} {lo r : Nat} {t : TypeId} {u : Value} {zss : List (List Int)} (h : Gath w lo r t u zss zss.length) (hn : 0 < zss.length) :
    ∃ s G, RowsO w s G u zss ∧ (lo ≤ s ∧ s < w.heap.size) ∧ (∀ i, i < zss.length → lo ≤ G i ∧ G i < w.heap.size) ∧ (∀ i, i < zss.length → G i ≠ s) ∧ (∀ i j, i < zss.length → j < zss.length → G i = G j → i = j) ∧ (∀ i, i < zss.length → G i ≠ r) ∧ s ≠ r := by
  obtain ⟨G, V, hown, hrows, hinj, hav, hub⟩ := h
  have hl := hown.lt
  obtain ⟨hlen, ⟨rfl, h0⟩ | ⟨s, cap, cur, rfl, hb, hh, hnc, hm, hs, ht⟩⟩ := hown
  · omega
  · refine ⟨s, G, ⟨cap, cur, t, V, rfl, hh, fun i hi => ?_, fun i hi => (hrows i hi).1⟩, hl s rfl, fun i hi => ⟨(hrows i hi).2.1, (hrows i hi).2.2.1⟩, fun i hi e => (hrows i hi).2.2.2 (by rw [e]; rfl), hinj, hav, fun e => hub (by rw [e]; rfl)⟩
    have h1 : (cur.toList.take (zss.length * 1))[i]? = ((List.range zss.length).map V)[i]? := by rw [ht]
    rw [List.getElem?_take, if_pos (by omega), List.getElem?_map, List.getElem?_range hi] at h1
    simpa using h1
end Go.Proofs.YtacghkidpbflkabDoor
