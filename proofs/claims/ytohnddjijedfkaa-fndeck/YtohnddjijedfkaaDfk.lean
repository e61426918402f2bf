/- A struct of a deck laid whole into a block; a deck with pulses of its own, whatever they are: the specification. -/
import Derived.Test.YtohnddjijedfkaaDek
import Derived.Test.YtohnddjijedfkaaMbk
namespace Go.Proofs.Ytohnddjijedfkaa
open Go.ChangeShapes Go.WideShapes Go.ChangeAt Go.RowKit
set_option linter.unusedVariables false
set_option linter.unusedSimpArgs false

abbrev dkZ : Array Value := #[.slice none 0 0, .int .i64 0, .int .i64 0, .bool false, .bool false]
/-- the five cells of a deck are stored -/
abbrev lay5 (W : World) (b : Nat) (v : Value) (ix lf : Int) (lv pl : Bool) : World := ((((W.setCell ⟨b, 0, none⟩ v).setCell ⟨b, 1, none⟩ (.int .i64 ix)).setCell ⟨b, 2, none⟩ (.int .i64 lf)).setCell ⟨b, 3, none⟩ (.bool lv)).setCell ⟨b, 4, none⟩ (.bool pl)
theorem lay5_blk {W : World} {b : Nat} {B : Array Value} (h : Blk W b B) (hs : B.size = 5) (v : Value) (ix lf : Int) (lv pl : Bool) : Blk (lay5 W b v ix lf lv pl) b #[v, .int .i64 ix, .int .i64 lf, .bool lv, .bool pl] := by
  obtain ⟨b0, b1, b2, b3, b4, rfl⟩ : ∃ b0 b1 b2 b3 b4, B = #[b0, b1, b2, b3, b4] := array5 hs
  exact ((((h.set 0 v).set 1 (.int .i64 ix)).set 2 (.int .i64 lf)).set 3 (.bool lv)).set 4 (.bool pl)
theorem lay5_size (W : World) (b : Nat) (v : Value) (ix lf : Int) (lv pl : Bool) : (lay5 W b v ix lf lv pl).heap.size = W.heap.size := by simp [World.setCell]
theorem lay5_heap (W : World) (b : Nat) (v : Value) (ix lf : Int) (lv pl : Bool) {k : Nat} (hk : k ≠ b) : (lay5 W b v ix lf lv pl).heap[k]? = W.heap[k]? := by
  iterate 4 refine (Below.heap_setCell _ _ _ _ hk).trans ?_
  exact Below.heap_setCell _ _ _ _ hk
theorem lay5_grown (W : World) (b : Nat) (v : Value) (ix lf : Int) (lv pl : Bool) : W.grownBy (lay5 W b v ix lf lv pl) (some b) :=
  grown_set1 (grown_set1 (grown_set1 (grown_set1 (grown_set1 (World.grownBy.refl W (some b))))))
theorem lay5_other {W : World} {b c : Nat} {X : Array Value} (h : Blk W c X) (hc : c ≠ b) (v : Value) (ix lf : Int) (lv pl : Bool) : Blk (lay5 W b v ix lf lv pl) c X := by
  obtain ⟨t, h⟩ := h
  exact ⟨t, (lay5_heap _ _ _ _ _ _ _ hc).trans h⟩
theorem lay5_below {w W : World} {b lo : Nat} (h : Below lo w W) (hb : lo ≤ b) (v : Value) (ix lf : Int) (lv pl : Bool) : Below lo w (lay5 W b v ix lf lv pl) :=
  ((((h.setCell (p := ⟨b, 0, none⟩) hb _).setCell (p := ⟨b, 1, none⟩) hb _).setCell (p := ⟨b, 2, none⟩) hb _).setCell (p := ⟨b, 3, none⟩) hb _).setCell (p := ⟨b, 4, none⟩) hb _
/-- a row of numbers whose block is another one -/
theorem Grow.lay5 {w W : World} {v : Value} {P : List Int} (h : Grow w W v P) {b : Nat} (hb : w.heap.size ≤ b) (hn : v.ownBlock ≠ some b) (u : Value) (ix lf : Int) (lv pl : Bool) : Grow w (lay5 W b u ix lf lv pl) v P :=
  ⟨h.own.kept (lay5_grown W b u ix lf lv pl) (.inr hn), lay5_below h.bel hb u ix lf lv pl⟩
theorem Grow.nilv {w W : World} (h : Below w.heap.size w W) : Grow w W (.slice none 0 0) [] := ⟨World.ownsRow_nil W _ _ _, h⟩
/-- grown since an earlier world -/
theorem Grow.since {w W W' : World} {v : Value} {P : List Int} (h : Grow W W' v P) (hb : Below w.heap.size w W) : Grow w W' v P := ⟨h.own.mono hb.size, new_trans hb h.bel⟩
theorem Grow.off {w W : World} {v : Value} {P : List Int} (h : Grow w W v P) {b : Nat} (hb : b < w.heap.size) : v.ownBlock ≠ some b := fun e => by
  have := (h.own.lt b e).1
  omega
theorem run_append_zero {P : Program} (w : World) (t ty e : TypeId) (i : TypeInfo) (ht : P.underlying t = some (.slice e)) (hi : P.info? e = some i) (x a : Option Addr) (c c' : Nat) :
    (Builtin.append_ #[t, t] ty #[.slice x 0 c', .slice a 0 c]).run P w = .ok (.slice x 0 c') w := by
  cases x <;> cases a <;> simp [Builtin.append_, run_underlying ht, sizeOf, typeInfo, hi, Builtin.lenOf, Builtin.firstCells, loadCells, loadCellsFrom, storeCells]
/-- nothing is appended -/
theorem wpList_append_zero {P : Program} (w : World) {ops : Array Oper} {rest : List Oper} {o : Oper} {a : Act} {Q : Exit → Act → World → Prop} (hgd : o.guard = none) (s x : Operand) (t : TypeId)
    (ho : o.op = .call { callee := .builtin .append, args := #[s, x], argTypes := #[t, t] }) (e : TypeId) (i : TypeInfo) (ht : P.underlying t = some (.slice e)) (hi : P.info? e = some i)
    (y b : Option Addr) (c c' : Nat) (hs : a.eval s = .slice y 0 c') (hx : a.eval x = .slice b 0 c) (h : wpList P ops Q rest (a.put o.dst (.slice y 0 c')) w) : wpList P ops Q (o :: rest) a w :=
  wpList_plain hgd fun _ hK => by
    unfold Oper.wp execOp
    simp only [ho, resolve, invoke, builtin, Sem.run_bind, Sem.run_pure, Result.andThen_ok, List.map_toArray, List.map_cons, List.map_nil, hs, hx, run_append_zero w t o.type e i ht hi y b c c']
    exact hK _ _ h
set_option maxRecDepth 100000 in
set_option maxHeartbeats 1000000 in
theorem own_none (a : Option Addr) (cap : Nat) (ix lf : Int) (lv pl : Bool) (w : World) :
    Calls Try.prog 31 #[.agg #[.slice a 0 cap, .int .i64 ix, .int .i64 lf, .bool lv, .bool pl]] w fun e w' => ∃ v, e = .returned (.agg #[v, .int .i64 ix, .int .i64 lf, .bool lv, .bool pl]) ∧ Grow w w' v [] := by
  obtain ⟨i0, hi0, hz0, hz1, hz2⟩ := info_parts infoIV
  obtain ⟨qO, qR, hB⟩ := two_newD w #[.slice a 0 cap, .int .i64 ix, .int .i64 lf, .bool lv, .bool pl] dkZ 25 25
  go_enter Try.func31, Try.ntmps31
  go_upto_region 1 with fail
  obtain ⟨V, hV⟩ : ∃ V, (w.alloc (.cells #[.slice a 0 cap, .int .i64 ix, .int .i64 lf, .bool lv, .bool pl] 25)).alloc (.cells #[.slice none 0 0, .int .i64 0, .int .i64 0, .bool false, .bool false] 25) = V := ⟨_, rfl⟩
  rw [hV] at qO qR hB ⊢
  have hVs : V.heap.size = w.heap.size + 1 + 1 := by rw [← hV]; simp
  clear hV
  have G1 : Grow w (V.alloc (.cells #[] 3)) (.slice (some ⟨V.heap.size, 0, none⟩) 0 0) [] := ⟨World.ownsRow_lit (e := 3) (size := 1) (base := w.heap.size) V #[] 0 hB.size (by decide) rfl, hB.alloc hB.size _⟩
  obtain ⟨y1, y2, y3, y4⟩ := dk_laid (qO.alloc (.cells #[] 3)) (qR.alloc (.cells #[] 3)) rfl (by omega) (by omega) (by omega) G1 (by simp [Value.ownBlock]; omega) (by simp [Value.ownBlock]; omega)
  have x0 := (qO.alloc (.cells #[] 3)).cell
  have f0 := (qO.alloc (.cells #[] 3)).frozen
  have l0 := (qO.alloc (.cells #[] 3)).lt
  obtain ⟨O, hO⟩ : ∃ O, w.heap.size = O := ⟨_, rfl⟩
  rw [hO] at y1 y2 y3 y4 x0 f0 l0 ⊢
  replace y1 := hid y1
  replace y2 := hid y2
  replace y3 := hid y3
  replace y4 := hid y4
  clear G1 qO qR hB hVs
  go_upto_region 2 with (at_builtin; refine wpList_append_zero _ rfl _ _ 23 rfl 3 i0 Try.underlying23 hi0 _ _ _ _ rfl rfl ?_)
  obtain ⟨W2, hW2⟩ : ∃ W, (V.alloc (.cells #[] 3)).setCell ⟨O, 0, none⟩ (.slice (some ⟨V.heap.size, 0, none⟩) 0 0) = W := ⟨_, rfl⟩
  rw [hW2] at y1 y2 y3 y4 ⊢
  clear hW2 x0 f0 l0
  have xO := y1.out.cell
  have xR := y2.out.cell
  have fR := y2.out.frozen
  have lR := y2.out.lt
  have n3 : ¬ O = O + 1 := by omega
  have n4 : ¬ O + 1 = O := by omega
  go_wp2
  have x6 := y3.out
  exact bodyPost_ret (v := .agg #[.slice (some ⟨V.heap.size, 0, none⟩) 0 0, .int .i64 ix, .int .i64 lf, .bool lv, .bool pl]) (by simp [results, Try.results31, go_sem, x6]; try rfl) rfl ⟨_, rfl, y4.out⟩
theorem own_spec (a : Option Addr) (cap : Nat) (d : Dk) (w : World) (h : RowR w (.slice a d.pulses.length cap) d.pulses) (hl : d.pulses.length ≤ 1048576) :
    Calls Try.prog 31 #[dkV (.slice a d.pulses.length cap) d] w fun e w' => ∃ v, e = .returned (dkV v d) ∧ Grow w w' v d.pulses := by
  obtain ⟨P, ix, lf, lv, pl⟩ := d
  by_cases h0 : 0 < P.length
  · obtain ⟨b, off, rfl, _⟩ := h.at h0
    exact own_some b off cap P ix lf lv pl w h h0 hl
  · obtain rfl : P = [] := List.length_eq_zero_iff.1 (by omega)
    exact own_none a cap ix lf lv pl w
end Go.Proofs.Ytohnddjijedfkaa
