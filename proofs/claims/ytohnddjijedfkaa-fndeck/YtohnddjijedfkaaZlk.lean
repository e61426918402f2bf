/- Lists of blocks: how they come in, and what the exact laws' helpers over them answer. -/
import Derived.Test.YtohnddjijedfkaaUfk
import Derived.Test.YtohnddjijedfkaaZhk
import Derived.Deep.Matrix
import Derived.Lib.SmallJoins
import Derived.OwnWalk
import Derived.Laws.MakeOwn
import Derived.Deep.DeepCutAuto
import Derived.Deep.RegionWith
namespace Go.Proofs.Ytohnddjijedfkaa
open Go.ChangeShapes Go.WideShapes Go.ChangeAt Go.RowKit Go.Joins Go.Deep
set_option linter.unusedVariables false
set_option linter.unusedSimpArgs false

section
variable {H : Type} {enc : TypeId × Value → H} {P : Program} {w : World} {base : Nat} {held : Bool}
theorem addr_noneZ {w : World} {a : Addr} {v : Value} (h : w.cell? (a.add 0) = some v) : a = ⟨a.block, a.off, none⟩ := by
  obtain ⟨b, off, spot⟩ := a
  have hspot : spot = none := by simpa [Addr.add] using World.cell?_spot h
  subst hspot
  rfl
theorem add_plainZ (b off j : Nat) : (⟨b, off, none⟩ : Addr).add j = ⟨b, off + j, none⟩ := by unfold Addr.add; split <;> simp_all
/-- a slice of blocks that comes in reads as numbers and texts -/
theorem blocks_in {t e : TypeId} {f0 f1 : Field} {fuel : Nat} {v : Value} {x : DataW H × List MemPlace} (ht : P.underlying t = some (.slice e)) (he : P.underlying e = some (.struct #[f0, f1])) (hone : oneCellFields P #[f0, f1] = true) (ce : P.cellsOf e = 2)
    (i0 : P.underlying f0.type = some (.int .i64)) (i1 : P.underlying f1.type = some .string)
    (h : DataW.trod enc P w base (fun _ => true) held fuel t [v] = some x) : ∃ a cap l, v = .slice a l.length cap ∧ BkR w a l ∧ l.length ≤ maxLen ∧ ∀ y ∈ l, y.2.size ≤ maxLen := by
  rcases DataW.trod_slice ht h with ⟨hcs, _⟩ | ⟨a, len, cap, elems, rest, n, _, hcs, _, hb, hl, hm, hel, hE, _, _⟩
  · obtain rfl : v = .slice none 0 0 := by simpa using hcs
    exact ⟨none, 0, [], rfl, .inl rfl, Nat.zero_le _, fun y hy => by cases hy⟩
  · obtain rfl : v = .slice (some a) len cap := by simpa using hcs
    have each : ∀ i, i < len → ∃ y : Int × ByteArray, w.cell? (a.add (i * 2)) = some (.int .i64 y.1) ∧ w.cell? ((a.add (i * 2)).add 1) = some (.string y.2) ∧ y.2.size ≤ maxLen := by
      intro i hi
      have h1 := hE i hi
      rw [ce] at h1
      obtain ⟨z, hz⟩ : ∃ z, elems[i]? = some z := ⟨_, List.getElem?_eq_getElem (by omega)⟩
      rw [hz] at h1
      obtain ⟨cs, hc, ht2⟩ := Option.bind_eq_some_iff.1 h1
      obtain ⟨_, hlen, hcell⟩ := World.cells?_some hc
      obtain ⟨c0, c1, rfl⟩ : ∃ c0 c1, cs = [c0, c1] := by
        match cs, hlen with
        | [c0, c1], _ => exact ⟨c0, c1, rfl⟩
      obtain ⟨y0, y1, m, _, _, h0, h2⟩ := trod_struct2 he ht2
      obtain ⟨o0, k0⟩ := hone_of hone 0 f0 rfl
      obtain ⟨o1, k1⟩ := hone_of hone 1 f1 rfl
      rw [o0, k0] at h0
      rw [o1, k1] at h2
      obtain ⟨f, e0, _, _⟩ := DataW.trod_int i0 h0
      obtain ⟨s, e1, _, hs⟩ := DataW.trod_string i1 h2
      have g0 := hcell 0 (by omega)
      have g1 := hcell 1 (by omega)
      simp at e0 e1
      subst e0 e1
      refine ⟨(f, s), ?_, ?_, hs⟩
      · have : (a.add (i * 2)).add 0 = a.add (i * 2) := by unfold Addr.add; split <;> simp_all
        rw [← this]
        simpa using g0
      · simpa using g1
    obtain ⟨y, hy⟩ := choose_lt each
    have hgl : ((List.range len).map y).length = len := by simp
    have hg : ∀ i, i < len → ((List.range len).map y).getD i bkz = y i := fun i hi => by simp [List.getD_eq_getElem?_getD, List.getElem?_range hi]
    refine ⟨some a, cap, (List.range len).map y, by rw [hgl], ?_, by rw [hgl]; omega, ?_⟩
    · by_cases h0 : len = 0
      · left
        rw [h0]
        rfl
      · right
        have ha : a = ⟨a.block, a.off, none⟩ := by
          have := (hy 0 (by omega)).1
          rw [Nat.zero_mul] at this
          exact addr_noneZ this
        refine ⟨a.block, a.off, by rw [← ha], fun k hk => ?_⟩
        rw [hgl] at hk
        obtain ⟨p1, p2, _⟩ := hy k hk
        rw [ha, add_plainZ] at p1 p2
        rw [add_plainZ] at p2
        rw [hg k hk]
        exact ⟨p1, p2⟩
    · intro z hz
      obtain ⟨i, hi, rfl⟩ := List.mem_map.1 hz
      exact (hy i (List.mem_range.1 hi)).2.2
end
/-- a row of blocks of a block's own -/
structure BkO (W : World) (g : Nat) (l : List (Int × ByteArray)) : Prop where
  cell : ∀ k, k < l.length → W.cell? ⟨g, k * 2, none⟩ = some (.int .i64 (l.getD k bkz).1) ∧ W.cell? ⟨g, k * 2 + 1, none⟩ = some (.string (l.getD k bkz).2)
  fro : ∀ i, W.frozen? ⟨g, i, none⟩ = false
  lt : g < W.heap.size
theorem BkO.read {W : World} {g : Nat} {l : List (Int × ByteArray)} (h : BkO W g l) : BkR W (some ⟨g, 0, none⟩) l := .inr ⟨g, 0, rfl, fun k hk => by simpa using h.cell k hk⟩
theorem BkO.below {W W' : World} {g : Nat} {l : List (Int × ByteArray)} (h : BkO W g l) (hb : Below W.heap.size W W') : BkO W' g l :=
  ⟨fun k hk => ⟨cell_keptU hb (h.cell k hk).1, cell_keptU hb (h.cell k hk).2⟩, fun i => by rw [hb.frozen (p := ⟨g, i, none⟩) h.lt]; exact h.fro i, Nat.lt_of_lt_of_le h.lt hb.size⟩
theorem BkO.set {W : World} {g : Nat} {l : List (Int × ByteArray)} (h : BkO W g l) (k : Nat) (hk : k < l.length) (f : Int) (s : ByteArray) : BkO ((W.setCell ⟨g, k * 2, none⟩ (.int .i64 f)).setCell ⟨g, k * 2 + 1, none⟩ (.string s)) g (l.set k (f, s)) := by
  have o : ∀ (X : World) (i j : Nat) (u : Value), i ≠ j → (X.setCell ⟨g, j, none⟩ u).cell? ⟨g, i, none⟩ = X.cell? ⟨g, i, none⟩ := fun X i j u hne => World.cell?_setCell_other _ _ _ _ (by intro e; injection e with _ e2 _; exact hne e2.symm)
  have m : ∀ (X : World) (i : Nat) (u v : Value), X.cell? ⟨g, i, none⟩ = some v → (X.setCell ⟨g, i, none⟩ u).cell? ⟨g, i, none⟩ = some u := fun X i u v hv => World.cell?_setCell_same' _ _ _ (by rw [hv]; rfl)
  refine ⟨fun j hj => ?_, fun i => by rw [World.frozen?_setCell, World.frozen?_setCell]; exact h.fro i, by have := h.lt; simpa [World.setCell] using this⟩
  rw [List.length_set] at hj
  obtain ⟨c1, c2⟩ := h.cell j hj
  by_cases e : j = k
  · subst e
    have hg : (l.set j (f, s)).getD j bkz = (f, s) := by rw [List.getD_eq_getElem?_getD, List.getElem?_set_self hj]; rfl
    rw [hg]
    refine ⟨?_, m _ _ _ (.string (l.getD j bkz).2) (by rw [o _ _ _ _ (by omega)]; exact c2)⟩
    rw [o _ _ _ _ (by omega)]
    exact m _ _ _ _ c1
  · have hg : (l.set k (f, s)).getD j bkz = l.getD j bkz := by rw [List.getD_eq_getElem?_getD, List.getElem?_set_ne (fun e2 => e e2.symm), ← List.getD_eq_getElem?_getD]
    rw [hg, o _ _ _ _ (by omega), o _ _ _ _ (by omega), o _ _ _ _ (by omega), o _ _ _ _ (by omega)]
    exact ⟨c1, c2⟩
theorem BkO.made (w : World) (n : Nat) (t : TypeId) : BkO (w.alloc (.cells (madeCells #[.int .i64 0, .string ⟨#[]⟩] (n * 2)) t)) w.heap.size (List.replicate n bkz) := by
  have q := Blk.new w (madeCells #[.int .i64 0, .string ⟨#[]⟩] (n * 2)) t
  have c : ∀ i, (w.alloc (.cells (madeCells #[.int .i64 0, .string ⟨#[]⟩] (n * 2)) t)).cell? ⟨w.heap.size, i, none⟩ = (madeCells #[.int .i64 0, .string ⟨#[]⟩] (n * 2))[i]? := fun i => q.cell i
  refine ⟨fun k hk => ?_, fun i => q.frozen i, q.lt⟩
  rw [List.length_replicate] at hk
  have hg : (List.replicate n bkz).getD k bkz = bkz := by rw [List.getD_eq_getElem?_getD, List.getElem?_replicate, if_pos hk]; rfl
  rw [hg, c, c]
  have h0 : k * 2 % 2 = 0 := by omega
  have h1 : (k * 2 + 1) % 2 = 1 := by omega
  have h2 : k * 2 < n * 2 := by omega
  have h3 : k * 2 + 1 < n * 2 := by omega
  constructor
  · simp [madeCells, h0, h2]
  · simp [madeCells, h1, h3]
def cpB (l : List (Int × ByteArray)) : Nat → List (Int × ByteArray)
  | 0 => List.replicate l.length bkz
  | k + 1 => (cpB l k).set k (l.getD k bkz)
theorem cpB_len (l : List (Int × ByteArray)) (k : Nat) : (cpB l k).length = l.length := by
  induction k with
  | zero => simp [cpB]
  | succ k ih => simp [cpB, ih]
theorem cpB_at (l : List (Int × ByteArray)) (k j : Nat) (hj : j < l.length) : (cpB l k).getD j bkz = if j < k then l.getD j bkz else bkz := by
  induction k with
  | zero => simp [cpB, List.getD_eq_getElem?_getD, List.getElem?_replicate, hj]
  | succ k ih =>
    show ((cpB l k).set k (l.getD k bkz)).getD j bkz = _
    by_cases e : j = k
    · subst e
      rw [List.getD_eq_getElem?_getD, List.getElem?_set_self (by rw [cpB_len]; exact hj), if_pos (by omega)]
      rfl
    · rw [List.getD_eq_getElem?_getD, List.getElem?_set_ne (fun e2 => e e2.symm), ← List.getD_eq_getElem?_getD, ih]
      by_cases h : j < k
      · rw [if_pos h, if_pos (by omega)]
      · rw [if_neg h, if_neg (by omega)]
theorem cpB_all (l : List (Int × ByteArray)) : cpB l l.length = l := by
  apply List.ext_getElem?
  intro j
  by_cases h : j < l.length
  · have h1 := cpB_at l l.length j h
    rw [if_pos h, List.getD_eq_getElem?_getD, List.getD_eq_getElem?_getD, List.getElem?_eq_getElem (by rw [cpB_len]; exact h), List.getElem?_eq_getElem h] at h1
    rw [List.getElem?_eq_getElem (by rw [cpB_len]; exact h), List.getElem?_eq_getElem h]
    exact congrArg some h1
  · rw [List.getElem?_eq_none (by rw [cpB_len]; omega), List.getElem?_eq_none (by omega)]
end Go.Proofs.Ytohnddjijedfkaa
