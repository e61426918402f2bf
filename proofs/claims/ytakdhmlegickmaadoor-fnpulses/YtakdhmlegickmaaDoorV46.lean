/- Rows of ints in an exact law: a row that comes in, an answer that is marked and held. -/
import Derived.Test.YtakdhmlegickmaaDoorVbv
import Derived.Test.YtakdhmlegickmaaDoorV04
import Derived.Lib.SmallJoins
import Derived.Test.YtakdhmlegickmaaDoorXev
namespace Go.Proofs.YtakdhmlegickmaaDoor
open Go.ChangeShapes Go.WideShapes Go.ChangeAt Go.RowKit Go.Joins
set_option linter.unusedVariables false
set_option linter.unusedSimpArgs false

section
variable {H : Type} {enc : TypeId × Value → H} {P : Program} {w : World} {base : Nat} {spare : Nat → Bool} {held : Bool}
theorem addr_noneV {w : World} {a : Addr} {v : Value} (h : w.cell? (a.add 0) = some v) : a = ⟨a.block, a.off, none⟩ := by
  obtain ⟨b, off, spot⟩ := a
  have hspot : spot = none := by simpa [Addr.add] using World.cell?_spot h
  subst hspot
  rfl
theorem add_plainV (b off j : Nat) : (⟨b, off, none⟩ : Addr).add j = ⟨b, off + j, none⟩ := by unfold Addr.add; split <;> simp_all
theorem take_getDV (zs : List Int) (n i : Nat) (h : i < n) : (zs.take n).getD i 0 = zs.getD i 0 := by
  rw [List.getD_eq_getElem?_getD, List.getD_eq_getElem?_getD, List.getElem?_take, if_pos h]
/-- a slice of ints that comes in reads as numbers -/
theorem row_inV {t e : TypeId} {fuel : Nat} {v : Value} {x : DataW H × List MemPlace} (ht : P.underlying t = some (.slice e)) (he : P.underlying e = some (.int .i64)) (ce : P.cellsOf e = 1)
    (h : DataW.trod enc P w base (fun _ => true) held fuel t [v] = some x) : ∃ a cap zs, v = .slice a (List.length zs) cap ∧ RowR w v zs ∧ zs.length ≤ maxLen ∧ ∀ z ∈ zs, (Lit.int .i64 z).wf = true := by
  rcases open_ints ht he ce h with ⟨hcs, _⟩ | ⟨a, len, cap, zs, hcs, _, hl, hm, hz, _, hcell, hwz⟩
  · obtain rfl : v = .slice none 0 0 := by simpa using hcs
    exact ⟨none, 0, [], rfl, RowR.nil w, Nat.zero_le _, fun z hz => by cases hz⟩
  · obtain rfl : v = .slice (some a) len cap := by simpa using hcs
    simp only [if_true] at hz
    have hlen : (zs.take len).length = len := by rw [List.length_take]; omega
    refine ⟨some a, cap, zs.take len, by rw [hlen], ⟨some a, cap, by rw [hlen], ?_⟩, by rw [hlen]; omega, fun z hz => hwz z (List.mem_of_mem_take hz)⟩
    by_cases h0 : len = 0
    · left
      rw [h0]
      rfl
    · right
      have h1 := hcell 0 (by omega)
      have ha := addr_noneV h1
      refine ⟨a.block, a.off, by rw [← ha], fun i hi => ?_⟩
      rw [hlen] at hi
      have h2 := hcell i (by omega)
      rw [ha, add_plainV] at h2
      rw [h2, take_getDV _ _ _ hi]
end
/-- a row of its own, from block base on -/
def OwnI (base : Nat) (W : World) (v : Value) (zs : List Int) : Prop := (zs = [] ∧ ∃ a cap, v = .slice a 0 cap) ∨ ∃ g, base ≤ g ∧ RowO W g v zs
theorem OwnI.of {w W : World} {v : Value} {l : List Int} (h : Grow w W v l) : OwnI w.heap.size W v l := by
  by_cases h0 : 0 < l.length
  · obtain ⟨g, hg, hR⟩ := RowO.of_owns h.own h0
    exact .inr ⟨g, hg, hR⟩
  · have : l = [] := List.length_eq_zero_iff.1 (by omega)
    subst this
    obtain ⟨oa, cap, e⟩ := h.form
    exact .inl ⟨rfl, oa, cap, e⟩
theorem OwnI.read {base : Nat} {W : World} {v : Value} {zs : List Int} (h : OwnI base W v zs) : RowR W v zs := by
  rcases h with ⟨rfl, a, cap, rfl⟩ | ⟨g, _, h⟩
  · exact ⟨a, cap, rfl, .inl rfl⟩
  · exact h.reads
theorem OwnI.below {base : Nat} {W W' : World} {v : Value} {zs : List Int} (h : OwnI base W v zs) (hb : Below W.heap.size W W') : OwnI base W' v zs := by
  rcases h with h | ⟨g, hg, h⟩
  · exact .inl h
  · exact .inr ⟨g, hg, h.kept (hb.block g h.lt)⟩
theorem OwnI.form {base : Nat} {W : World} {v : Value} {zs : List Int} (h : OwnI base W v zs) : ∃ a cap, v = .slice a zs.length cap := by
  obtain ⟨a, cap, e, _⟩ := h.read
  exact ⟨a, cap, e⟩
theorem RowR.formV {W : World} {v : Value} {zs : List Int} (h : RowR W v zs) : ∃ a cap, v = .slice a zs.length cap := by
  obtain ⟨a, cap, e, _⟩ := h
  exact ⟨a, cap, e⟩
end Go.Proofs.YtakdhmlegickmaaDoor

/- What the law of pulses does with rows: two are held against each other; a row that is owned is read. -/
namespace Go.Proofs.YtakdhmlegickmaaDoor
open Go.ChangeShapes Go.WideShapes Go.ChangeAt Go.RowKit
set_option linter.unusedVariables false
set_option linter.unusedSimpArgs false

set_option maxRecDepth 100000 in
theorem samei_yes (v v' : Value) (zs : List Int) (w : World) (h : RowR w v zs) (h' : RowR w v' zs) (hl : zs.length ≤ 1000000000) :
    Calls Tryd.prog 20 #[v, v'] w fun e w' => e = .returned (.bool true) ∧ ∃ n, w' = w.drewN n := by
  obtain ⟨a, cap, rfl, h⟩ := h
  obtain ⟨a', cap', rfl, h'⟩ := h'
  replace h : Hid (zs = [] ∨ ∃ b off, a = some ⟨b, off, none⟩ ∧ ∀ i, i < zs.length → w.cell? ⟨b, off + i, none⟩ = some (.int .i64 (zs.getD i 0))) := h
  replace h' : Hid (zs = [] ∨ ∃ b off, a' = some ⟨b, off, none⟩ ∧ ∀ i, i < zs.length → w.cell? ⟨b, off + i, none⟩ = some (.int .i64 (zs.getD i 0))) := h'
  go_enter Tryd.func20, Tryd.ntmps20
  go_wp2
  go_loopw [5] (fun i wr => ∃ k : Nat, k ≤ zs.length ∧ i = .int .i64 k ∧ ∃ n, wr = w.drewN n) (fun i _ => zs.length - (intOf i).toNat)
  case atStart => exact ⟨0, by omega, rfl, 0, rfl⟩
  case round =>
    obtain ⟨k, hk, rfl, n, rfl⟩ := hrel
    by_cases hlt : k < zs.length
    · obtain ⟨b, off, rfl, c1⟩ := row_some h.out hlt
      obtain ⟨b', off', rfl, c2⟩ := row_some h'.out hlt
      clear h h'
      generalize zs.getD k 0 = z at *
      go_wp2
      go_region
      go_wp2
      go_roundw
      case rel => exact ⟨k + 1, by omega, by go_num, n + 1, rfl⟩
      case measure => simp [intOf]; omega
    · obtain rfl : k = zs.length := by omega
      go_wp2
      go_ret
      exact ⟨rfl, n, rfl⟩
theorem RowE.of_grow {w W : World} {v : Value} {l : List Int} (h : Grow w W v l) : ∃ a cap, v = .slice a l.length cap ∧ RowE W a cap l := by
  by_cases h0 : 0 < l.length
  · obtain ⟨g, hg, hR⟩ := RowO.of_owns h.own h0
    obtain ⟨_, ⟨_, h1⟩ | ⟨g', cap, _, h1, _, _, h4, _⟩⟩ := h.own
    · omega
    · obtain ⟨c2, _, _, h5, _⟩ := id hR
      rw [h1] at h5
      cases h5
      exact ⟨_, cap, h1, .inr ⟨g, 0, rfl, h4, fun i hi => by rw [Nat.zero_add]; exact hR.cell i hi⟩⟩
  · have : l = [] := List.length_eq_zero_iff.1 (by omega)
    subst this
    obtain ⟨oa, cap, e⟩ := h.form
    exact ⟨oa, cap, e, .inl rfl⟩
/-- a row whose first numbers are at most one away from another's -/
structure Bump (O L : List Int) (k : Nat) : Prop where
  len : L.length = O.length
  near : ∀ j, j < k → O.getD j 0 - 1 ≤ L.getD j 0 ∧ L.getD j 0 ≤ O.getD j 0 + 1
  rest : ∀ j, k ≤ j → L.getD j 0 = O.getD j 0
theorem Bump.start (O : List Int) : Bump O O 0 := ⟨rfl, fun j hj => by omega, fun _ _ => rfl⟩
theorem Bump.step {O L : List Int} {k : Nat} (h : Bump O L k) (hk : k < O.length) (x : Int) (hx : O.getD k 0 - 1 ≤ x ∧ x ≤ O.getD k 0 + 1) : Bump O (L.set k x) (k + 1) := by
  have hl := h.len
  have e1 : (L.set k x).getD k 0 = x := by
    rw [List.getD_eq_getElem?_getD, List.getElem?_set_self (by omega)]
    rfl
  have e2 : ∀ j, k ≠ j → (L.set k x).getD j 0 = L.getD j 0 := fun j e => by
    rw [List.getD_eq_getElem?_getD, List.getElem?_set_ne e, ← List.getD_eq_getElem?_getD]
  refine ⟨by rw [List.length_set, hl], fun j hj => ?_, fun j hj => ?_⟩
  · by_cases e : k = j
    · subst e
      rw [e1]
      exact hx
    · rw [e2 j e]
      exact h.near j (by omega)
  · rw [e2 j (by omega)]
    exact h.rest j (by omega)
end Go.Proofs.YtakdhmlegickmaaDoor
