/- A word and words of numbers behind it: what is said of them while they are gathered. -/
import Derived.Test.YtneagomkohoceabDoorTxbl
import Derived.Test.YtneagomkohoceabDoorIwl
namespace Go.Proofs.YtneagomkohoceabDoor
open Go.ChangeShapes Go.WideShapes Go.ChangeAt Go.RowKit
set_option linter.unusedVariables false
set_option linter.unusedSimpArgs false

/-- a list of pointers to just these numbers -/
def PlR (w : World) (v : Value) (ns : List Nat) : Prop := ∃ pa pg c, v = .slice pa ns.length c ∧ (0 < ns.length → pa = some ⟨pg, 0, none⟩) ∧ ∀ i, i < ns.length → ∃ b o, w.cell? ⟨pg, i, none⟩ = some (.pointer (some ⟨b, o, none⟩)) ∧ w.cell? ⟨b, o, none⟩ = some (.int .i64 (ns.getD i 0 : Nat)) ∧ ns.getD i 0 < 1000000000
theorem PlR.up {w w' : World} {v : Value} {ns : List Nat} (h : PlR w v ns) (hb : Below w.heap.size w w') : PlR w' v ns := by
  obtain ⟨pa, pg, c, h1, h2, h3⟩ := h
  refine ⟨pa, pg, c, h1, h2, fun i hi => ?_⟩
  obtain ⟨b, o, c1, c2, c3⟩ := h3 i hi
  exact ⟨b, o, cellX_kept hb c1, cellX_kept hb c2, c3⟩
/-- words in a list of their own, in a block above lo -/
def NwR (lo : Nat) (w : World) (v : Value) (ws : List ByteArray) : Prop := ∃ g, v = .slice (some ⟨g, 0, none⟩) ws.length ws.length ∧ lo ≤ g ∧ ∀ i x, ws[i]? = some x → w.cell? ⟨g, i, none⟩ = some (.string x)
theorem NwR.up {lo : Nat} {w w' : World} {v : Value} {ws : List ByteArray} (h : NwR lo w v ws) (hb : Below w.heap.size w w') : NwR lo w' v ws := by
  obtain ⟨g, h1, h2, h3⟩ := h
  exact ⟨g, h1, h2, fun i x hx => cellX_kept hb (h3 i x hx)⟩
theorem run_append_zeroX {P : Program} (w : World) (t ty e : TypeId) (i : TypeInfo) (ht : P.underlying t = some (.slice e)) (hi : P.info? e = some i) (x a : Addr) (n c c' : Nat) (hle : n ≤ c') :
    (Builtin.append_ #[t, t] ty #[.slice (some x) n c', .slice (some a) 0 c]).run P w = .ok (.slice (some x) n c') w := by
  simp [Builtin.append_, run_underlying ht, sizeOf, typeInfo, hi, Builtin.lenOf, Builtin.firstCells, loadCells, loadCellsFrom, storeCells, hle]
theorem wp_append_zeroX {P : Program} (w : World) {o : Oper} {a : Act} {K : Act → World → Prop} {Q : Exit → Act → World → Prop} (s x : Operand) (t : TypeId)
    (ho : o.op = .call { callee := .builtin .append, args := #[s, x], argTypes := #[t, t] }) (e : TypeId) (i : TypeInfo) (ht : P.underlying t = some (.slice e)) (hi : P.info? e = some i)
    (y b : Addr) (n c c' : Nat) (hle : n ≤ c') (hs : a.eval s = .slice (some y) n c') (hx : a.eval x = .slice (some b) 0 c) (h : K (a.put o.dst (.slice (some y) n c')) w) : o.wp P a w K Q := by
  unfold Oper.wp execOp
  simp only [ho, resolve, invoke, builtin, Sem.run_bind, Sem.run_pure, Result.andThen_ok, List.map_toArray, List.map_cons, List.map_nil, hs, hx, run_append_zeroX w t o.type e i ht hi y b n c c' hle]
  exact h
/-- the words that stand in a list of one's own -/
theorem own_cells {W : World} {lo : Nat} {v : Value} {ws : List ByteArray} (h : W.ownsRow lo 9 1 v ws.length (ws.map Value.string)) (hn : 0 < ws.length) : ∃ g c, v = .slice (some ⟨g, 0, none⟩) ws.length c ∧ lo ≤ g ∧ g < W.heap.size ∧ ws.length ≤ c ∧ ∀ (i : Nat) x, ws[i]? = some x → W.cell? ⟨g, i, none⟩ = some (.string x) := by
  obtain ⟨g, c, rfl, h1, h2⟩ := h.form hn
  refine ⟨g, c, rfl, h1, h2, ?_, fun i x hx => ?_⟩
  · rcases h.2 with ⟨h0, _⟩ | ⟨g', cap', cur, hv', _, _, hc, _⟩
    · cases h0
    · injection hv' with _ _ e
      omega
  have hi := (List.getElem?_eq_some_iff.1 hx).1
  rw [h.cellAt i (by omega), List.getElem?_map, hx]
  rfl
end Go.Proofs.YtneagomkohoceabDoor
