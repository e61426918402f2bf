/- A deck with pulses of its own: the specification. -/
import Derived.Test.YtohnddjijedfkaaDoorDde
import Derived.OwnWalk
import Derived.Deep.AppendLies
import Derived.Test.YtohnddjijedfkaaDoorMbe
namespace Go.Proofs.YtohnddjijedfkaaDoor
open Go.ChangeShapes Go.WideShapes Go.ChangeAt Go.RowKit
set_option linter.unusedVariables false
set_option linter.unusedSimpArgs false

/-- an answer of a deck, laid into a block -/
theorem dk_laid {w W : World} {O R : Nat} {v0 v' : Value} {P : List Int} {B : Array Value} {ix lf : Int} {lv pl : Bool} (hO : Blk W O #[v0, .int .i64 ix, .int .i64 lf, .bool lv, .bool pl]) (hR : Blk W R B) (hB5 : B.size = 5) (hne : R ≠ O) (h0 : w.heap.size ≤ O) (h1 : w.heap.size ≤ R) (hG : Grow w W v' P) (n0 : v'.ownBlock ≠ some O) (n1 : v'.ownBlock ≠ some R) :
    Blk (W.setCell ⟨O, 0, none⟩ v') O #[v', .int .i64 ix, .int .i64 lf, .bool lv, .bool pl] ∧ Blk (W.setCell ⟨O, 0, none⟩ v') R B ∧
    (∀ i, ((((((W.setCell ⟨O, 0, none⟩ v').setCell ⟨R, 0, none⟩ v').setCell ⟨R, 1, none⟩ (.int .i64 ix)).setCell ⟨R, 2, none⟩ (.int .i64 lf)).setCell ⟨R, 3, none⟩ (.bool lv)).setCell ⟨R, 4, none⟩ (.bool pl)).cell? ⟨R, i, none⟩ = (#[v', .int .i64 ix, .int .i64 lf, .bool lv, .bool pl] : Array Value)[i]?) ∧
    Grow w ((((((W.setCell ⟨O, 0, none⟩ v').setCell ⟨R, 0, none⟩ v').setCell ⟨R, 1, none⟩ (.int .i64 ix)).setCell ⟨R, 2, none⟩ (.int .i64 lf)).setCell ⟨R, 3, none⟩ (.bool lv)).setCell ⟨R, 4, none⟩ (.bool pl)) v' P := by
  have sg : ∀ (X : World) (b i : Nat) (u : Value), X.grownBy (X.setCell ⟨b, i, none⟩ u) (some b) := fun X b i u => ⟨rfl, rfl, rfl, by simp [World.setCell], fun k _ hk => Below.heap_setCell _ _ _ _ (fun e => hk (by rw [e]))⟩
  have q := hO.set 0 v'
  have r := hR.other (p := ⟨O, 0, none⟩) hne v'
  have r5 := ((((r.set 0 v').set 1 (.int .i64 ix)).set 2 (.int .i64 lf)).set 3 (.bool lv)).set 4 (.bool pl)
  obtain ⟨b0, b1, b2, b3, b4, rfl⟩ : ∃ b0 b1 b2 b3 b4, B = #[b0, b1, b2, b3, b4] := array5 hB5
  refine ⟨q, r, fun i => r5.cell i, ?_, ?_⟩
  · exact (((((hG.own.kept (sg _ O 0 _) (.inr n0)).kept (sg _ R 0 _) (.inr n1)).kept (sg _ R 1 _) (.inr n1)).kept (sg _ R 2 _) (.inr n1)).kept (sg _ R 3 _) (.inr n1)).kept (sg _ R 4 _) (.inr n1)
  · exact (((((hG.bel.setCell (p := ⟨O, 0, none⟩) h0 _).setCell (p := ⟨R, 0, none⟩) h1 _).setCell (p := ⟨R, 1, none⟩) h1 _).setCell (p := ⟨R, 2, none⟩) h1 _).setCell (p := ⟨R, 3, none⟩) h1 _).setCell (p := ⟨R, 4, none⟩) h1 _
end Go.Proofs.YtohnddjijedfkaaDoor

/- A struct of a deck laid whole into a block; a deck with pulses of its own, whatever they are: the specification. -/
namespace Go.Proofs.YtohnddjijedfkaaDoor
open Go.ChangeShapes Go.WideShapes Go.ChangeAt Go.RowKit
set_option linter.unusedVariables false
set_option linter.unusedSimpArgs false

abbrev dkZ : Array Value := #[.slice none 0 0, .int .i64 0, .int .i64 0, .bool false, .bool false]
/-- the five cells of a deck are stored -/
abbrev lay5 (W : World) (b : Nat) (v : Value) (ix lf : Int) (lv pl : Bool) : World := ((((W.setCell ⟨b, 0, none⟩ v).setCell ⟨b, 1, none⟩ (.int .i64 ix)).setCell ⟨b, 2, none⟩ (.int .i64 lf)).setCell ⟨b, 3, none⟩ (.bool lv)).setCell ⟨b, 4, none⟩ (.bool pl)
theorem lay5_blk {W : World} {b : Nat} {B : Array Value} (h : Blk W b B) (hs : B.size = 5) (v : Value) (ix lf : Int) (lv pl : Bool) : Blk (lay5 W b v ix lf lv pl) b #[v, .int .i64 ix, .int .i64 lf, .bool lv, .bool pl] := by
  obtain ⟨b0, b1, b2, b3, b4, rfl⟩ : ∃ b0 b1 b2 b3 b4, B = #[b0, b1, b2, b3, b4] := array5 hs
  exact ((((h.set 0 v).set 1 (.int .i64 ix)).set 2 (.int .i64 lf)).set 3 (.bool lv)).set 4 (.bool pl)
theorem lay5_size (W : World) (b : Nat) (v : Value) (ix lf : Int) (lv pl : Bool) : (lay5 W b v ix lf lv pl).heap.size = W.heap.size := by simp [World.setCell]
theorem lay5_heap (W : World) (b : Nat) (v : Value) (ix lf : Int) (lv pl : Bool) {k : Nat} (hk : k ≠ b) : (lay5 W b v ix lf lv pl).heap[k]? = W.heap[k]? := by
  iterate 4 refine (Below.heap_setCell _ _ _ _ hk).trans ?_
  exact Below.heap_setCell _ _ _ _ hk
theorem lay5_grown (W : World) (b : Nat) (v : Value) (ix lf : Int) (lv pl : Bool) : W.grownBy (lay5 W b v ix lf lv pl) (some b) :=
  grown_set1 (grown_set1 (grown_set1 (grown_set1 (grown_set1 (World.grownBy.refl W (some b))))))
theorem lay5_other {W : World} {b c : Nat} {X : Array Value} (h : Blk W c X) (hc : c ≠ b) (v : Value) (ix lf : Int) (lv pl : Bool) : Blk (lay5 W b v ix lf lv pl) c X := by
  obtain ⟨t, h⟩ := h
  exact ⟨t, (lay5_heap _ _ _ _ _ _ _ hc).trans h⟩
theorem lay5_below {w W : World} {b lo : Nat} (h : Below lo w W) (hb : lo ≤ b) (v : Value) (ix lf : Int) (lv pl : Bool) : Below lo w (lay5 W b v ix lf lv pl) :=
  ((((h.setCell (p := ⟨b, 0, none⟩) hb _).setCell (p := ⟨b, 1, none⟩) hb _).setCell (p := ⟨b, 2, none⟩) hb _).setCell (p := ⟨b, 3, none⟩) hb _).setCell (p := ⟨b, 4, none⟩) hb _
/-- a row of numbers whose block is another one -/
theorem Grow.lay5 {w W : World} {v : Value} {P : List Int} (h : Grow w W v P) {b : Nat} (hb : w.heap.size ≤ b) (hn : v.ownBlock ≠ some b) (u : Value) (ix lf : Int) (lv pl : Bool) : Grow w (lay5 W b u ix lf lv pl) v P :=
  ⟨h.own.kept (lay5_grown W b u ix lf lv pl) (.inr hn), lay5_below h.bel hb u ix lf lv pl⟩
theorem Grow.nilv {w W : World} (h : Below w.heap.size w W) : Grow w W (.slice none 0 0) [] := ⟨World.ownsRow_nil W _ _ _, h⟩
/-- grown since an earlier world -/
theorem Grow.since {w W W' : World} {v : Value} {P : List Int} (h : Grow W W' v P) (hb : Below w.heap.size w W) : Grow w W' v P := ⟨h.own.mono hb.size, new_trans hb h.bel⟩
theorem Grow.off {w W : World} {v : Value} {P : List Int} (h : Grow w W v P) {b : Nat} (hb : b < w.heap.size) : v.ownBlock ≠ some b := fun e => by
  have := (h.own.lt b e).1
  omega
theorem run_append_zero {P : Program} (w : World) (t ty e : TypeId) (i : TypeInfo) (ht : P.underlying t = some (.slice e)) (hi : P.info? e = some i) (x a : Option Addr) (c c' : Nat) :
    (Builtin.append_ #[t, t] ty #[.slice x 0 c', .slice a 0 c]).run P w = .ok (.slice x 0 c') w := by
  cases x <;> cases a <;> simp [Builtin.append_, run_underlying ht, sizeOf, typeInfo, hi, Builtin.lenOf, Builtin.firstCells, loadCells, loadCellsFrom, storeCells]
/-- nothing is appended -/
theorem wpList_append_zero {P : Program} (w : World) {ops : Array Oper} {rest : List Oper} {o : Oper} {a : Act} {Q : Exit → Act → World → Prop} (hgd : o.guard = none) (s x : Operand) (t : TypeId)
    (ho : o.op = .call { callee := .builtin .append, args := #[s, x], argTypes := #[t, t] }) (e : TypeId) (i : TypeInfo) (ht : P.underlying t = some (.slice e)) (hi : P.info? e = some i)
    (y b : Option Addr) (c c' : Nat) (hs : a.eval s = .slice y 0 c') (hx : a.eval x = .slice b 0 c) (h : wpList P ops Q rest (a.put o.dst (.slice y 0 c')) w) : wpList P ops Q (o :: rest) a w :=
  wpList_plain hgd fun _ hK => by
    unfold Oper.wp execOp
    simp only [ho, resolve, invoke, builtin, Sem.run_bind, Sem.run_pure, Result.andThen_ok, List.map_toArray, List.map_cons, List.map_nil, hs, hx, run_append_zero w t o.type e i ht hi y b c c']
    exact hK _ _ h
end Go.Proofs.YtohnddjijedfkaaDoor

/- A deck runs: the specification. -/
namespace Go.Proofs.YtohnddjijedfkaaDoor
open Go.ChangeShapes Go.WideShapes Go.ChangeAt Go.RowKit
set_option linter.unusedVariables false
set_option linter.unusedSimpArgs false

theorem runD_part {P : List Int} {ix lf : Int} {lv : Bool} {t e : Int} (h : (Dk.mk P ix lf lv true).ok = true) (ht : 0 < t) (hl : t < lf) :
    runD (P.length + 1) ⟨P, ix, lf, lv, true⟩ t e = runD (P.length + 1) ⟨P, ix, lf - t, lv, true⟩ 0 e ∧ (Dk.mk P ix (lf - t) lv true).ok = true := by
  have e1 : runD (P.length + 1) ⟨P, ix, lf, lv, true⟩ t e = (⟨P, ix, lf - t, lv, true⟩, e) := by
    unfold runD
    rw [if_pos ⟨rfl, ht⟩, if_pos hl]
  have e2 : runD (P.length + 1) ⟨P, ix, lf - t, lv, true⟩ 0 e = (⟨P, ix, lf - t, lv, true⟩, e) := by
    unfold runD
    rw [if_neg (fun h => by have := h.2; omega)]
  refine ⟨e1.trans e2.symm, ?_⟩
  have := (runD_ok (P.length + 1) ⟨P, ix, lf, lv, true⟩ t e h).1
  rw [e1] at this
  exact this
theorem runD_edge {P : List Int} {ix lf : Int} {lv : Bool} {t e : Int} (h : (Dk.mk P ix lf lv true).ok = true) (ht : 0 < t) (hl : ¬ t < lf) :
    runD (P.length + 1) ⟨P, ix, lf, lv, true⟩ t e = runD (P.length + 1) (Dk.mk P ix lf lv true).edge (t - lf) (e + 1) := by
  obtain ⟨k1, k2, k3, k4, k5⟩ := Dk.edge_ok h rfl
  have hix := ((Dk.ok_iff _).1 h).2.1
  have e1 : runD (P.length + 1) ⟨P, ix, lf, lv, true⟩ t e = runD P.length (Dk.mk P ix lf lv true).edge (t - lf) (e + 1) := by
    show (if true = true ∧ 0 < t then _ else _) = _
    rw [if_pos ⟨rfl, ht⟩, if_neg hl]
  rw [e1]
  refine runD_more _ _ _ _ _ k1 ?_ ?_
  · show (P.length : Int) - (ix + 1) < (P.length : Int)
    have : 0 ≤ ix := hix.1
    omega
  · show (P.length : Int) - (ix + 1) < ((P.length + 1 : Nat) : Int)
    have : 0 ≤ ix := hix.1
    omega
theorem runD_stop {P : List Int} {ix lf : Int} {lv pl : Bool} {t e : Int} (h : ¬ (pl = true ∧ 0 < t)) : runD (P.length + 1) ⟨P, ix, lf, lv, pl⟩ t e = (⟨P, ix, lf, lv, pl⟩, e) := by
  unfold runD
  rw [if_neg h]
theorem ok_lens {P : List Int} {ix lf : Int} {lv pl : Bool} (h : (Dk.mk P ix lf lv pl).ok = true) : P.length ≤ 5000 ∧ 0 ≤ ix ∧ ix ≤ (P.length : Int) ∧ 0 ≤ lf ∧ lf ≤ 1000 ∧ (pl = true → ix < (P.length : Int) ∧ 1 ≤ lf) := by
  obtain ⟨h1, h2, h3⟩ := (Dk.ok_iff _).1 h
  have hn := ((okPl_iff _).1 h1).2
  refine ⟨hn, h2.1, h2.2, ?_⟩
  rcases h3 with ⟨k1, k2, k3⟩ | ⟨k1, k2, k3⟩
  · have k2' : lf = 0 := k2
    exact ⟨by omega, by omega, fun e => by rw [show pl = false from k3] at e; cases e⟩
  · have hlt : ix < (P.length : Int) := by
      have : ix ≤ (P.length : Int) := h2.2
      have : ¬ ix = (P.length : Int) := k1
      omega
    have hb := Dk.pulse_bd h1 h2.1 hlt
    have k2' : 1 ≤ lf := k2
    have : lf ≤ (Dk.mk P ix lf lv pl).pulse ix := k3
    have hb2 : (Dk.mk P ix lf lv pl).pulse ix ≤ 1000 := hb.2
    exact ⟨by omega, by omega, fun _ => ⟨hlt, k2'⟩⟩
end Go.Proofs.YtohnddjijedfkaaDoor
