/- Rows of ints in an exact law: a row that comes in, an answer that is marked and held. -/
import Derived.Test.YtneagomkohoceabDoorL48
import Derived.Test.YtneagomkohoceabDoorMbl
import Derived.Lib.SmallJoins
namespace Go.Proofs.YtneagomkohoceabDoor
open Go.ChangeShapes Go.WideShapes Go.ChangeAt Go.RowKit Go.Joins
set_option linter.unusedVariables false
set_option linter.unusedSimpArgs false

section
variable {H : Type} {enc : TypeId × Value → H} {P : Program} {w : World} {base : Nat} {spare : Nat → Bool} {held : Bool}
theorem addr_noneV {w : World} {a : Addr} {v : Value} (h : w.cell? (a.add 0) = some v) : a = ⟨a.block, a.off, none⟩ := by
  obtain ⟨b, off, spot⟩ := a
  have hspot : spot = none := by simpa [Addr.add] using World.cell?_spot h
  subst hspot
  rfl
theorem add_plainV (b off j : Nat) : (⟨b, off, none⟩ : Addr).add j = ⟨b, off + j, none⟩ := by unfold Addr.add; split <;> simp_all
theorem take_getDV (zs : List Int) (n i : Nat) (h : i < n) : (zs.take n).getD i 0 = zs.getD i 0 := by
  rw [List.getD_eq_getElem?_getD, List.getD_eq_getElem?_getD, List.getElem?_take, if_pos h]
/-- a slice of ints that comes in reads as numbers -/
theorem row_inV {t e : TypeId} {fuel : Nat} {v : Value} {x : DataW H × List MemPlace} (ht : P.underlying t = some (.slice e)) (he : P.underlying e = some (.int .i64)) (ce : P.cellsOf e = 1)
    (h : DataW.trod enc P w base (fun _ => true) held fuel t [v] = some x) : ∃ a cap zs, v = .slice a (List.length zs) cap ∧ RowR w v zs ∧ zs.length ≤ maxLen ∧ ∀ z ∈ zs, (Lit.int .i64 z).wf = true := by
  rcases open_ints ht he ce h with ⟨hcs, _⟩ | ⟨a, len, cap, zs, hcs, _, hl, hm, hz, _, hcell, hwz⟩
  · obtain rfl : v = .slice none 0 0 := by simpa using hcs
    exact ⟨none, 0, [], rfl, RowR.nil w, Nat.zero_le _, fun z hz => by cases hz⟩
  · obtain rfl : v = .slice (some a) len cap := by simpa using hcs
    simp only [if_true] at hz
    have hlen : (zs.take len).length = len := by rw [List.length_take]; omega
    refine ⟨some a, cap, zs.take len, by rw [hlen], ⟨some a, cap, by rw [hlen], ?_⟩, by rw [hlen]; omega, fun z hz => hwz z (List.mem_of_mem_take hz)⟩
    by_cases h0 : len = 0
    · left
      rw [h0]
      rfl
    · right
      have h1 := hcell 0 (by omega)
      have ha := addr_noneV h1
      refine ⟨a.block, a.off, by rw [← ha], fun i hi => ?_⟩
      rw [hlen] at hi
      have h2 := hcell i (by omega)
      rw [ha, add_plainV] at h2
      rw [h2, take_getDV _ _ _ hi]
end
/-- a row of its own, from block base on -/
def OwnI (base : Nat) (W : World) (v : Value) (zs : List Int) : Prop := (zs = [] ∧ ∃ a cap, v = .slice a 0 cap) ∨ ∃ g, base ≤ g ∧ RowO W g v zs
theorem OwnI.of {w W : World} {v : Value} {l : List Int} (h : Grow w W v l) : OwnI w.heap.size W v l := by
  by_cases h0 : 0 < l.length
  · obtain ⟨g, hg, hR⟩ := RowO.of_owns h.own h0
    exact .inr ⟨g, hg, hR⟩
  · have : l = [] := List.length_eq_zero_iff.1 (by omega)
    subst this
    obtain ⟨oa, cap, e⟩ := h.form
    exact .inl ⟨rfl, oa, cap, e⟩
theorem OwnI.read {base : Nat} {W : World} {v : Value} {zs : List Int} (h : OwnI base W v zs) : RowR W v zs := by
  rcases h with ⟨rfl, a, cap, rfl⟩ | ⟨g, _, h⟩
  · exact ⟨a, cap, rfl, .inl rfl⟩
  · exact h.reads
theorem OwnI.below {base : Nat} {W W' : World} {v : Value} {zs : List Int} (h : OwnI base W v zs) (hb : Below W.heap.size W W') : OwnI base W' v zs := by
  rcases h with h | ⟨g, hg, h⟩
  · exact .inl h
  · exact .inr ⟨g, hg, h.kept (hb.block g h.lt)⟩
theorem OwnI.form {base : Nat} {W : World} {v : Value} {zs : List Int} (h : OwnI base W v zs) : ∃ a cap, v = .slice a zs.length cap := by
  obtain ⟨a, cap, e, _⟩ := h.read
  exact ⟨a, cap, e⟩
theorem RowR.formV {W : World} {v : Value} {zs : List Int} (h : RowR W v zs) : ∃ a cap, v = .slice a zs.length cap := by
  obtain ⟨a, cap, e, _⟩ := h
  exact ⟨a, cap, e⟩
theorem mark0V (a : Option Addr) (cap : Nat) (w : World) : Calls Tryd.prog 30 #[.slice a 0 cap, .int .i64 1] w fun e w' => e = .returned (.int .i64 1) ∧ w' = w := by
  go_enter Tryd.func30, Tryd.ntmps30
  go_wp2
  go_loop [1, 5] (fun q i => q = .int .i64 1 ∧ i = .int .i64 0) (fun _ _ => 0)
  case atStart => exact ⟨rfl, rfl⟩
  case round =>
    obtain ⟨rfl, rfl⟩ := hrel
    go_wp2
    go_ret
    exact ⟨rfl, rfl⟩
theorem markV (v : Value) (base : Nat) (zs : List Int) (w : World) (h : OwnI base w v zs) (hl : zs.length ≤ 100000) (hb : base ≤ w.heap.size) :
    Calls Tryd.prog 30 #[v, .int .i64 1] w fun e w' => e = .returned (.int .i64 (1 + (zs.length : Int))) ∧ OwnI base w' v (markL 1 zs.length) ∧ Below base w w' := by
  rcases h with ⟨rfl, a, cap, rfl⟩ | ⟨g, hg, h⟩
  · refine (mark0V a cap w).mono ?_
    rintro e w' ⟨rfl, rfl⟩
    exact ⟨rfl, .inl ⟨rfl, a, cap, rfl⟩, Below.refl _ _⟩
  · refine (markr v g 1 zs w h (by omega) (by omega) (by omega)).mono ?_
    rintro e w' ⟨rfl, hO, hG⟩
    refine ⟨rfl, .inr ⟨g, hg, hO⟩, ?_⟩
    exact (Below.refl _ _).grown hG (by omega) (fun g' e => by cases e; exact hg)
end Go.Proofs.YtneagomkohoceabDoor
