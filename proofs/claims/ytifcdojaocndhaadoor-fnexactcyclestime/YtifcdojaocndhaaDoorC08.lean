/- The source of choices that the laws draw from: what its methods answer (numbers in their bounds) and that they write into the source's own block alone. -/
import Derived.Test.YtifcdojaocndhaaDoorC00
import Derived.OwnWalk
import Derived.OneCell
import Derived.WalkSmall
import Derived.Deep.QuietTactic
import Derived.BigQuiet
import Derived.Deep.RegionHeld3
import Derived.Deep.AppendLies
import Derived.Deep.DrawnRows
import Derived.KernelRfl
import Derived.OpenShut
import Derived.Test.YtifcdojaocndhaaDoorC06
namespace Go.Proofs.YtifcdojaocndhaaDoor
open Go.ChangeShapes Go.WideShapes Go.ChangeAt Go.RowKit
set_option linter.unusedVariables false

/-- a slice of bytes that came in: each of its elements can be read, in a block below B -/
def CodeAt (w : World) (B : Nat) (a : Option Addr) (len : Nat) : Prop :=
  len = 0 ∨ ∃ b off, a = some ⟨b, off, none⟩ ∧ b < B ∧ ∀ i, i < len → ∃ c : Int, 0 ≤ c ∧ c ≤ 255 ∧ w.cell? ⟨b, off + i, none⟩ = some (.int .u8 c)

theorem codeAt_of {w : World} {a : Option Addr} {len cap : Nat} {zs : List Int}
    (h : (a = none ∧ len = 0 ∧ cap = 0 ∧ zs = []) ∨ ∃ x, a = some x ∧ len ≤ cap ∧ cap ≤ maxLen ∧ zs.length = cap ∧ (∀ i, i < zs.length → w.cell? (x.add i) = some (.int .u8 (zs.getD i 0))) ∧ ∀ n ∈ zs, (Lit.int .u8 n).wf = true) :
    CodeAt w w.heap.size a len := by
  rcases h with ⟨_, rfl, _, _⟩ | ⟨x, rfl, hl, _, hz, hc, hw⟩
  · exact .inl rfl
  · by_cases h0 : len = 0
    · exact .inl h0
    · obtain ⟨b, off, spot⟩ := x
      have h1 := hc 0 (by omega)
      have hspot : spot = none := by simpa [Addr.add] using World.cell?_spot h1
      subst hspot
      have hb := World.block_lt_of_cell? w _ h1
      refine .inr ⟨b, off, rfl, by simpa [Addr.add] using hb, fun i hi => ?_⟩
      have h2 := hc i (by omega)
      have hm : zs.getD i 0 ∈ zs := by
        simp only [List.getD_eq_getElem?_getD, List.getElem?_eq_getElem (show i < zs.length by omega), Option.getD_some]
        exact List.getElem_mem _
      have hbd := bounds_u8 (hw _ hm)
      have hplain : (⟨b, off, none⟩ : Addr).add i = ⟨b, off + i, none⟩ := by unfold Addr.add; split <;> simp_all
      exact ⟨zs.getD i 0, hbd.1, hbd.2, by rw [← hplain]; exact h2⟩

theorem CodeAt.below {w w' : World} {B B' : Nat} {a : Option Addr} {len : Nat} (h : CodeAt w B a len) (hb : Below B w w') (hB : B ≤ B') : CodeAt w' B' a len := by
  rcases h with h | ⟨b, off, rfl, hb1, hc⟩
  · exact .inl h
  · refine .inr ⟨b, off, rfl, by omega, fun i hi => ?_⟩
    obtain ⟨c, h0, h1, h2⟩ := hc i hi
    exact ⟨c, h0, h1, by rw [hb.cell (p := ⟨b, off + i, none⟩) hb1]; exact h2⟩

theorem CodeAt.grown {w w' : World} {B p : Nat} {a : Option Addr} {len : Nat} (h : CodeAt w B a len) (hg : w.grownBy w' (some p)) (hB : B ≤ p) (hp : p ≤ w.heap.size) : CodeAt w' B a len := by
  rcases h with h | ⟨b, off, rfl, hb, hc⟩
  · exact .inl h
  · refine .inr ⟨b, off, rfl, hb, fun i hi => ?_⟩
    obtain ⟨c, h0, h1, h2⟩ := hc i hi
    exact ⟨c, h0, h1, hg.cell h2 (by simp; omega)⟩

theorem blk_lt {w : World} {p : Nat} {o : Obj} (h : w.heap[p]? = some o) : p < w.heap.size := by
  rcases Nat.lt_or_ge p w.heap.size with h' | h'
  · exact h'
  · simp [Array.getElem?_eq_none h'] at h
theorem blk_set {w : World} {p off : Nat} {cs : Array Value} {t : TypeId} {u : Value} (h : w.heap[p]? = some (.cells cs t (0, 0))) : (w.setCell ⟨p, off, none⟩ u).heap[p]? = some (.cells (cs.setIfInBounds off u) t (0, 0)) := by
  have hlt := blk_lt h
  have h' : w.heap[p] = .cells cs t (0, 0) := by simpa [Array.getElem?_eq_getElem hlt] using h
  show (w.heap.modify p _)[p]? = _
  rw [Array.getElem?_eq_getElem (by simpa using hlt), Array.getElem_modify_self, h']
  rfl
theorem grown_set {w w' : World} {p off : Nat} {u : Value} (h : w.grownBy w' (some p)) : w.grownBy (w'.setCell ⟨p, off, none⟩ u) (some p) :=
  ⟨h.os, h.tape, h.output, by have := h.size; simpa [World.setCell] using this, fun k hk hne => by
    rw [Below.heap_setCell _ _ _ _ (fun e => hne (by rw [e]))]
    exact h.block k hk hne⟩
theorem grown_drewN {w w' : World} {r : Option Nat} (n : Nat) (h : w.grownBy w' r) : w.grownBy (w'.drewN n) r := ⟨h.os, h.tape, h.output, h.size, h.block⟩

theorem grown_then {a b c : World} {r r2 : Option Nat} (h : a.grownBy b r) (k : b.grownBy c r2) (hr : ∀ g, r2 = some g → a.heap.size ≤ g ∨ r = some g) : a.grownBy c r :=
  ⟨k.os.trans h.os, k.tape.trans h.tape, k.output.trans h.output, Nat.le_trans h.size k.size, fun i hi hne => by
    rw [k.block i (Nat.lt_of_lt_of_le hi h.size) (fun e => by
      rcases hr i e.symm with h1 | h1
      · omega
      · exact hne h1.symm)]
    exact h.block i hi hne⟩
theorem grown_below {w w' : World} {p : Nat} (h : w.grownBy w' (some p)) (hp : p ≤ w.heap.size) : Below p w w' :=
  ⟨h.os, h.tape, h.output, h.size, fun k hk => h.block k (by omega) (by simp; omega)⟩

end Go.Proofs.YtifcdojaocndhaaDoor

/- Ports that the laws draw: they are right. -/
namespace Go.Proofs.YtifcdojaocndhaaDoor
open Go.ChangeShapes Go.WideShapes Go.ChangeAt Go.RowKit
set_option linter.unusedVariables false
set_option linter.unusedSimpArgs false

theorem okPo_iff (c : Po) : okPo c = true ↔ (∀ i, i < 8 → 0 ≤ c.key i ∧ c.key i ≤ 31) ∧ (0 ≤ c.joy ∧ c.joy ≤ 31) ∧ (0 ≤ c.border ∧ c.border ≤ 7) := by
  unfold okPo keysB
  simp only [Bool.and_eq_true, List.all_eq_true, List.mem_range, inB, decide_eq_true_eq]
  constructor
  · rintro ⟨⟨h1, h2⟩, h3⟩
    exact ⟨h1, h2, h3⟩
  · rintro ⟨h1, h2, h3⟩
    exact ⟨⟨h1, h2⟩, h3⟩
theorem okPo_put {c : Po} (h : okPo c = true) (k : Nat) (v : Int) (h0 : 0 ≤ v) (h1 : v ≤ 31) : okPo (c.put v k) = true := by
  rw [okPo_iff] at h ⊢
  obtain ⟨hr, hj, hb⟩ := h
  refine ⟨fun i hi => ?_, ?_⟩
  · have := hr i hi
    rcases eight hi with rfl | rfl | rfl | rfl | rfl | rfl | rfl | rfl <;> (unfold Po.put; split <;> simp only [Po.key] at this ⊢ <;> omega)
  · unfold Po.put
    split <;> exact ⟨hj, hb⟩
theorem okPo_joy {c : Po} (h : okPo c = true) (v : Int) (h0 : 0 ≤ v) (h1 : v ≤ 31) : okPo { c with joy := v } = true := by
  rw [okPo_iff] at h ⊢
  obtain ⟨hr, hj, hb⟩ := h
  refine ⟨fun i hi => ?_, ⟨h0, h1⟩, hb⟩
  have := hr i hi
  rcases eight hi with rfl | rfl | rfl | rfl | rfl | rfl | rfl | rfl <;> exact this
theorem okPo_ula {c : Po} (h : okPo c = true) (v : Nat) : okPo (c.ula v) = true := by
  rw [okPo_iff] at h ⊢
  obtain ⟨hr, hj, hb⟩ := h
  refine ⟨fun i hi => ?_, hj, ?_⟩
  · have := hr i hi
    rcases eight hi with rfl | rfl | rfl | rfl | rfl | rfl | rfl | rfl <;> exact this
  · have : Nat.land v 7 ≤ 7 := Nat.and_le_right
    show (0 : Int) ≤ ((Nat.land v 7 : Nat) : Int) ∧ ((Nat.land v 7 : Nat) : Int) ≤ 7
    omega
theorem okPo_new : okPo neP = true := by decide
theorem grow2 {a b c : World} {p : Nat} (h : a.grownBy b (some p)) (k : b.grownBy c (some p)) : a.grownBy c (some p) :=
  ⟨k.os.trans h.os, k.tape.trans h.tape, k.output.trans h.output, Nat.le_trans h.size k.size, fun i hi hne => (k.block i (Nat.lt_of_lt_of_le hi h.size) hne).trans (h.block i hi hne)⟩
theorem growO {w W : World} {p b i : Nat} {u : Value} (h : w.grownBy W (some p)) (hb : w.heap.size ≤ b) : w.grownBy (W.setCell ⟨b, i, none⟩ u) (some p) :=
  ⟨h.os, h.tape, h.output, by have := h.size; simpa [World.setCell] using this, fun k hk hne => by
    rw [Below.heap_setCell _ _ _ _ (by simp; omega)]
    exact h.block k hk hne⟩
theorem growB {w W : World} {p : Nat} (h : Below w.heap.size w W) : w.grownBy W (some p) :=
  ⟨h.os, h.tape, h.output, h.size, fun k hk _ => h.block k hk⟩
end Go.Proofs.YtifcdojaocndhaaDoor
