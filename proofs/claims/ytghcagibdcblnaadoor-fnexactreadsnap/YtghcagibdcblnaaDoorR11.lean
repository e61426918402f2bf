/- What the specification says of an instruction that is right: the forms of instructions, and InstrOK. -/
import Derived.Test.YtghcagibdcblnaaDoorR00
import Derived.Test.YtghcagibdcblnaaDoorR02
import Derived.Deep.RegionWith
import Derived.Deep.DeepCutAuto
import Derived.Deep.QuietTactic
import Derived.BigQuiet
import Derived.Deep.RegionHeld3
import Derived.Deep.RegionHeld2
import Derived.Test.YtghcagibdcblnaaDoorR05
import Derived.Test.YtghcagibdcblnaaDoorMcr
namespace Go.Proofs.YtghcagibdcblnaaDoor
open Go.ChangeShapes Go.WideShapes Go.ChangeAt Go.RowKit
set_option linter.unusedVariables false
set_option linter.unusedSimpArgs false

abbrev insV (o a b n l : Int) : Value := .agg #[.int .i64 o, .int .i64 a, .int .i64 b, .int .i64 n, .int .i64 l]
abbrev insA (o a b n l : Int) : Array Value := #[.int .i64 o, .int .i64 a, .int .i64 b, .int .i64 n, .int .i64 l]
/-- what stands in an instruction's form: A, B, N -/
def formS : List ByteArray := [⟨#[]⟩, ⟨#[65, 66]⟩, ⟨#[65, 78]⟩, ⟨#[78]⟩, ⟨#[78]⟩, ⟨#[65, 66]⟩, ⟨#[65, 78]⟩, ⟨#[65]⟩, ⟨#[65]⟩, ⟨#[65, 66]⟩, ⟨#[65, 66]⟩, ⟨#[]⟩, ⟨#[65, 78]⟩, ⟨#[65, 78]⟩, ⟨#[65]⟩, ⟨#[65]⟩, ⟨#[65]⟩, ⟨#[78]⟩, ⟨#[78]⟩, ⟨#[]⟩, ⟨#[]⟩, ⟨#[]⟩, ⟨#[]⟩]
def formT (k : Nat) : ByteArray := formS.getD k ⟨#[]⟩
def hasC (k : Nat) (c : Int) : Bool := (List.range (formT k).size).any fun i => byt (formT k) i == c
def bitI (b : Bool) : Int := if b then 1 else 0
theorem bitI_bd (b : Bool) : 0 ≤ bitI b ∧ bitI b ≤ 1 := by cases b <;> decide
theorem form_at (k : Nat) (hk : k < 23) : (formS.map Value.string)[k]'(by simpa [formS] using hk) = .string (formT k) := by
  rw [List.getElem_map]
  unfold formT
  rw [List.getD_eq_getElem?_getD, List.getElem?_eq_getElem (by simpa [formS] using hk)]
  rfl
theorem hasC_no {k j : Nat} {c : Int} (h : ∀ i, i < (formT k).size → (byt (formT k) i == c) = false) : hasC k c = false := by
  unfold hasC
  rw [List.any_eq_false]
  intro i hi
  rw [h i (List.mem_range.1 hi)]
  simp
theorem hasC_yes {k i : Nat} {c : Int} (hi : i < (formT k).size) (h : (byt (formT k) i == c) = true) : hasC k c = true := by
  unfold hasC
  rw [List.any_eq_true]
  exact ⟨i, List.mem_range.2 hi, h⟩
theorem formT_size (k : Nat) (hk : k < 23) : (formT k).size ≤ 2 := by
  have h : ∀ k, k < 23 → (formT k).size ≤ 2 := by decide +kernel
  exact h k hk
theorem belD (n : Nat) (w : World) (m : Nat) : Below n w (w.drewN m) := ⟨rfl, rfl, rfl, Nat.le_refl _, fun _ _ => rfl⟩
theorem cell_kept {W W' : World} {b i : Nat} {v : Value} (hb : Below W.heap.size W W') (h : W.cell? ⟨b, i, none⟩ = some v) : W'.cell? ⟨b, i, none⟩ = some v := by
  rw [hb.cell (p := ⟨b, i, none⟩) (World.block_lt_of_cell? W _ h)]
  exact h
/-- an instruction that is right -/
def okI (o a b n l : Int) : Bool :=
  if o = 23 then (decide (a = 0) && decide (b = 0) && inB n 184 255 && decide (l = 1))
  else inB o 0 22 && (inB a 0 (7 * bitI (hasC o.toNat 65)) && inB b 0 (7 * bitI (hasC o.toNat 66)) && inB n 0 (255 * bitI (hasC o.toNat 78)) && decide (l = 1 + bitI (hasC o.toNat 66 || hasC o.toNat 78)))
end Go.Proofs.YtghcagibdcblnaaDoor

/- What the specification decodes. -/
namespace Go.Proofs.YtghcagibdcblnaaDoor
open Go.ChangeShapes Go.WideShapes Go.ChangeAt Go.RowKit
set_option linter.unusedVariables false
set_option linter.unusedSimpArgs false

/-- the numbers of the instruction that two bytes are -/
def decO (x : Int) : Int := if 23 ≤ x / 8 then 23 else x / 8
def decA (x : Int) : Int := if 23 ≤ x / 8 then 0 else if hasC (x / 8).toNat 65 = true then x % 8 else 0
def decB (x y : Int) : Int := if 23 ≤ x / 8 then 0 else if hasC (x / 8).toNat 66 = true then y % 8 else 0
def decN (x y : Int) : Int := if 23 ≤ x / 8 then x else if hasC (x / 8).toNat 78 = true then y else 0
def decL (x : Int) : Int := if 23 ≤ x / 8 then 1 else 1 + bitI (hasC (x / 8).toNat 66 || hasC (x / 8).toNat 78)
abbrev dcdV (x y : Int) : Value := insV (decO x) (decA x) (decB x y) (decN x y) (decL x)
/-- while an instruction is being decoded -/
structure DSt (w W : World) (C : Array Value) : Prop where
  q0 : Blk W w.heap.size #[.int .i64 0, .int .i64 0, .int .i64 0, .int .i64 0, .int .i64 0]
  q1 : Blk W (w.heap.size + 1) C
  bel : Below w.heap.size w W
theorem two_newI {w w1 : World} {A0 A1 : Array Value} {t t1 : TypeId} (hb : Below ((w.alloc (.cells A0 t)).alloc (.cells A1 t1)).heap.size ((w.alloc (.cells A0 t)).alloc (.cells A1 t1)) w1) :
    Blk w1 w.heap.size A0 ∧ Blk w1 (w.heap.size + 1) A1 ∧ Below w.heap.size w w1 := by
  have hs : ((w.alloc (.cells A0 t)).alloc (.cells A1 t1)).heap.size = w.heap.size + 1 + 1 := by simp
  have q1 := Blk.new (w.alloc (.cells A0 t)) A1 t1
  simp only [World.size_alloc] at q1
  refine ⟨((Blk.new w A0 t).alloc _).below hb (by omega), q1.below hb (by omega), ?_⟩
  exact (((Below.refl _ _).alloc (Nat.le_refl _) _).alloc (by simp) _).trans (hb.mono (by omega))
theorem DSt.start {w w1 : World} {C : Array Value} {t t1 : TypeId} (hb : Below ((w.alloc (.cells #[.int .i64 0, .int .i64 0, .int .i64 0, .int .i64 0, .int .i64 0] t)).alloc (.cells C t1)).heap.size ((w.alloc (.cells #[.int .i64 0, .int .i64 0, .int .i64 0, .int .i64 0, .int .i64 0] t)).alloc (.cells C t1)) w1) : DSt w w1 C :=
  ⟨(two_newI hb).1, (two_newI hb).2.1, (two_newI hb).2.2⟩
theorem DSt.below {w W W' : World} {C : Array Value} (h : DSt w W C) (hb : Below W.heap.size W W') : DSt w W' C :=
  ⟨h.q0.below hb h.q0.lt, h.q1.below hb h.q1.lt, h.bel.trans (hb.mono h.bel.size)⟩
theorem DSt.set {w W : World} {C : Array Value} (h : DSt w W C) (i : Nat) (u : Value) : DSt w (W.setCell ⟨w.heap.size + 1, i, none⟩ u) (C.setIfInBounds i u) :=
  ⟨h.q0.other (by simp) _, h.q1.set i u, h.bel.setCell (p := ⟨w.heap.size + 1, i, none⟩) (by simp) _⟩
/-- the code that a list gets that is to be decoded -/
def decC (zs : List Int) : Int := if 4096 < zs.length then 2 else if zs.length = 2 then (if bytesB zs 2 = true then 0 else 4) else 8
def dec2 (zs : List Int) : Value := if decC zs = 0 then .tuple #[dcdV (zs.getD 0 0) (zs.getD 1 0), .int .i64 0] else .tuple #[insV 0 0 0 0 0, .int .i64 (decC zs)]
end Go.Proofs.YtghcagibdcblnaaDoor

/- What the exact laws' copies of rows of rows and of memories answer, and their helpers over memories. -/
namespace Go.Proofs.YtghcagibdcblnaaDoor
open Go.ChangeShapes Go.WideShapes Go.ChangeAt Go.RowKit
set_option linter.unusedVariables false

/-- the first k rows are copied into blocks of their own, the outer slice standing at the end of w's heap -/
def Built (w wr : World) (zss : List (List Int)) (k : Nat) : Prop :=
  ∃ (c : Array Value) (t : TypeId) (G : Nat → Nat) (V : Nat → Value), wr.heap[w.heap.size]? = some (.cells c t (0, 0)) ∧ c.size = zss.length ∧
    (∀ i, i < k → c[i]? = some (V i) ∧ RowO wr (G i) (V i) (zss.getD i []) ∧ w.heap.size < G i ∧ G i < wr.heap.size) ∧ ∀ i j, i < k → j < k → G i = G j → i = j
theorem Built.lt {w wr : World} {zss : List (List Int)} {k : Nat} (h : Built w wr zss k) : w.heap.size < wr.heap.size := by
  obtain ⟨c, t, G, V, h1, _⟩ := h
  exact (Array.getElem?_eq_some_iff.1 h1).1
theorem Built.cell {w wr : World} {zss : List (List Int)} {k : Nat} (h : Built w wr zss k) {i : Nat} (hi : i < zss.length) : (∃ u, wr.cell? ⟨w.heap.size, i, none⟩ = some u) ∧ wr.frozen? ⟨w.heap.size, i, none⟩ = false := by
  obtain ⟨c, t, G, V, h1, h2, _⟩ := h
  have h3 : i < c.size := by omega
  exact ⟨⟨c[i], by simp [World.cell?, h1, h3]⟩, by simp [World.frozen?, h1]⟩
theorem Built.step {w wr w1 : World} {zss : List (List Int)} {k : Nat} {u : Value} (h : Built w wr zss k) (hk : k < zss.length) (hr : RowO w1 wr.heap.size u (zss.getD k [])) (hb : Below wr.heap.size wr w1) :
    Built w (w1.setCell ⟨w.heap.size, k, none⟩ u) zss (k + 1) := by
  have hl := h.lt
  obtain ⟨c, t, G, V, h1, h2, h3, h4⟩ := h
  have h1' : w1.heap[w.heap.size]? = some (.cells c t (0, 0)) := (hb.block _ hl).trans h1
  have hs : (w1.setCell ⟨w.heap.size, k, none⟩ u).heap.size = w1.heap.size := by simp [World.setCell]
  have hlt := hr.lt
  refine ⟨c.setIfInBounds k u, t, fun i => if i = k then wr.heap.size else G i, fun i => if i = k then u else V i, heap_setCell_same' _ _ _ _ _ _ h1', by simpa using h2, fun i hi => ?_, fun i j hi hj e => ?_⟩
  · by_cases e : i = k
    · subst e
      simp only [if_true, hs]
      refine ⟨by rw [Array.getElem?_setIfInBounds]; simp; omega, hr.kept (Below.heap_setCell _ _ _ _ (by simp; omega)), hl, hlt⟩
    · simp only [if_neg e, hs]
      obtain ⟨k1, k2, k3, k4⟩ := h3 i (by omega)
      refine ⟨by rw [Array.getElem?_setIfInBounds, if_neg (fun h => e h.symm)]; exact k1, k2.kept ((Below.heap_setCell _ _ _ _ (by simp; omega)).trans (hb.block _ k4)), k3, by have := hb.size; omega⟩
  · by_cases e1 : i = k
    · by_cases e2 : j = k
      · rw [e1, e2]
      · simp only [if_pos e1, if_neg e2] at e
        have := (h3 j (by omega)).2.2.2
        omega
    · by_cases e2 : j = k
      · simp only [if_neg e1, if_pos e2] at e
        have := (h3 i (by omega)).2.2.2
        omega
      · simp only [if_neg e1, if_neg e2] at e
        exact h4 i j (by omega) (by omega) e
/-- rows of rows in blocks of their own, from lo up to the heap's end -/
def RowsN (w : World) (lo : Nat) (v : Value) (zss : List (List Int)) : Prop :=
  ∃ s G, RowsO w s G v zss ∧ (lo ≤ s ∧ s < w.heap.size) ∧ (∀ i, i < zss.length → lo ≤ G i ∧ G i < w.heap.size) ∧ (∀ i, i < zss.length → G i ≠ s) ∧ ∀ i j, i < zss.length → j < zss.length → G i = G j → i = j
theorem Built.done {w wr : World} {zss : List (List Int)} (h : Built w wr zss zss.length) (cap : Nat) : RowsN wr w.heap.size (.slice (some ⟨w.heap.size, 0, none⟩) zss.length cap) zss := by
  have hl := h.lt
  obtain ⟨c, t, G, V, h1, h2, h3, h4⟩ := h
  exact ⟨w.heap.size, G, ⟨cap, c, t, V, rfl, h1, fun i hi => (h3 i hi).1, fun i hi => (h3 i hi).2.1⟩, ⟨Nat.le_refl _, hl⟩, fun i hi => ⟨Nat.le_of_lt (h3 i hi).2.2.1, (h3 i hi).2.2.2⟩, fun i hi e => by have := (h3 i hi).2.2.1; omega, h4⟩
theorem RowsN.kept {w w' : World} {lo : Nat} {v : Value} {zss : List (List Int)} (h : RowsN w lo v zss) (hs : w.heap.size ≤ w'.heap.size) (k : ∀ b, lo ≤ b → b < w.heap.size → w'.heap[b]? = w.heap[b]?) : RowsN w' lo v zss := by
  obtain ⟨s, G, h1, h2, h3, h4, h5⟩ := h
  exact ⟨s, G, h1.kept (k s h2.1 h2.2) (fun i hi => k _ (h3 i hi).1 (h3 i hi).2), by omega, fun i hi => by have := h3 i hi; omega, h4, h5⟩
theorem infoMM : (Tryd.prog.info? 25).map (fun i => (i.zero, i.size, i.bytes)) = some (some (.slice none 0 0), 1, 24) := by kernel_rfl
theorem built0 (w : World) (zss : List (List Int)) (t : TypeId) : Built w (w.alloc (.cells (madeCells #[.slice none 0 0] zss.length) t)) zss 0 :=
  ⟨madeCells #[.slice none 0 0] zss.length, t, fun _ => 0, fun _ => .slice none 0 0, heap_alloc_new w _, by rw [← Array.length_toList, toList_madeCells_one, List.length_replicate], fun i hi => by omega, fun i j hi => by omega⟩
end Go.Proofs.YtghcagibdcblnaaDoor
