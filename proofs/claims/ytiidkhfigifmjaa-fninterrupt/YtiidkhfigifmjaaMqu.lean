/- A memory that the laws draw: it is right, and lies in blocks of its own. -/
import Derived.Test.YtiidkhfigifmjaaMnu
import Derived.Test.YtiidkhfigifmjaaMju
import Derived.Test.YtiidkhfigifmjaaSrcu
import Derived.Deep.RegionWith
namespace Go.Proofs.Ytiidkhfigifmjaa
open Go.ChangeShapes Go.WideShapes Go.ChangeAt Go.RowKit
set_option linter.unusedVariables false
set_option linter.unusedSimpArgs false

abbrev box4 (a1 : Option Addr) (p1 : Nat) (a2 : Option Addr) (p2 : Nat) (pg sc : Int) (l : Bool) : Array Value := #[.slice a1 64 p1, .slice a2 4 p2, .int .i64 pg, .int .i64 sc, .bool l]
/-- while a memory is being drawn -/
structure MSt (w W : World) (p : Nat) (a : Option Addr) (len cap nn : Nat) (bm lo : Nat) (a1 : Option Addr) (p1 : Nat) (a2 : Option Addr) (p2 : Nat) (M : Mem) : Prop where
  src : Src W p a len cap nn
  ord : p < w.heap.size ∧ w.heap.size < lo ∧ lo ≤ bm ∧ bm < W.heap.size
  q0 : Blk W w.heap.size #[.slice none 0 0, .slice none 0 0, .int .i64 0, .int .i64 0, .bool false]
  qm : Blk W bm (box4 a1 p1 a2 p2 M.page M.screen M.locked)
  mem : MemO W lo bm (memV (.slice a1 64 p1) (.slice a2 4 p2) M.page M.screen M.locked) M
  ok : okM M = true
  gro : w.grownBy W (some p)
theorem grown_two {a b c : World} {p : Nat} (h : a.grownBy b (some p)) (k : b.grownBy c (some p)) : a.grownBy c (some p) :=
  ⟨k.os.trans h.os, k.tape.trans h.tape, k.output.trans h.output, Nat.le_trans h.size k.size, fun i hi hne => (k.block i (Nat.lt_of_lt_of_le hi h.size) hne).trans (h.block i hi hne)⟩
theorem MSt.next {w W W' : World} {p : Nat} {a : Option Addr} {len cap nn nn' bm lo : Nat} {a1 : Option Addr} {p1 : Nat} {a2 : Option Addr} {p2 : Nat} {M : Mem} (h : MSt w W p a len cap nn bm lo a1 p1 a2 p2 M) (hg : W.grownBy W' (some p)) (hs : Src W' p a len cap nn') : MSt w W' p a len cap nn' bm lo a1 p1 a2 p2 M := by
  obtain ⟨_, ⟨o1, o2, o3, o4⟩, q0, qm, mem, ok, gro⟩ := h
  have hz := hg.size
  exact ⟨hs, ⟨o1, o2, o3, by omega⟩, q0.grown hg (by simp; omega), qm.grown hg (by simp; omega), mem.kept (fun b h0 h1 => hg.block b (by omega) (by simp; omega)), ok, grown_two gro hg⟩
theorem MSt.drew {w W : World} {p : Nat} {a : Option Addr} {len cap nn bm lo : Nat} {a1 : Option Addr} {p1 : Nat} {a2 : Option Addr} {p2 : Nat} {M : Mem} (h : MSt w W p a len cap nn bm lo a1 p1 a2 p2 M) : MSt w W.drew p a len cap nn bm lo a1 p1 a2 p2 M :=
  h.next ⟨rfl, rfl, rfl, Nat.le_refl _, fun _ _ _ => rfl⟩ (h.src.kept (r := none) ⟨rfl, rfl, rfl, Nat.le_refl _, fun _ _ _ => rfl⟩ (by intro g e; cases e))
theorem grown_setO {w W : World} {p b i : Nat} {u : Value} (h : w.grownBy W (some p)) (hb : w.heap.size ≤ b) : w.grownBy (W.setCell ⟨b, i, none⟩ u) (some p) :=
  ⟨h.os, h.tape, h.output, by have := h.size; simpa [World.setCell] using this, fun k hk hne => by
    rw [Below.heap_setCell _ _ _ _ (by simp; omega)]
    exact h.block k hk hne⟩
theorem Src.setO {W : World} {p : Nat} {a : Option Addr} {len cap nn b i : Nat} {u : Value} (h : Src W p a len cap nn) (hb : p < b) : Src (W.setCell ⟨b, i, none⟩ u) p a len cap nn :=
  h.kept (r := some b) ⟨rfl, rfl, rfl, by simp [World.setCell], fun k hk hne => Below.heap_setCell _ _ _ _ (by intro e; exact hne (by rw [e]))⟩ (by intro g e; cases e; exact hb)
theorem MSt.row {w W : World} {p : Nat} {a : Option Addr} {len cap nn bm lo : Nat} {a1 : Option Addr} {p1 : Nat} {a2 : Option Addr} {p2 : Nat} {M : Mem} (h : MSt w W p a len cap nn bm lo a1 p1 a2 p2 M) {j : Nat} (hj : j < 4) :
    ∃ s g c, a2 = some ⟨s, 0, none⟩ ∧ W.cell? ⟨s, j, none⟩ = some (.slice (some ⟨g, 0, none⟩) 64 c) ∧ ∀ q, q < 64 → (∃ x, W.cell? ⟨g, q, none⟩ = some x) ∧ W.frozen? ⟨g, q, none⟩ = false ∧
      ∀ z, 0 ≤ z → z ≤ 255 → MSt w (W.setCell ⟨g, q, none⟩ (.int .i64 z)) p a len cap nn bm lo a1 p1 a2 p2 { M with ram := M.ram.set j ((M.ram.getD j []).set q z) } := by
  obtain ⟨src, ⟨o1, o2, o3, o4⟩, q0, qm, mem, ok, gro⟩ := h
  obtain ⟨k1, k2, k3, k4, k5⟩ := ok_parts ok
  have hlz := bytes_len (k5 j (by omega))
  rcases mem with ⟨_, _, e⟩ | ⟨vr, vm, r, s, G, e, h1, h2, b1, b2, b3, d1, d2, d3⟩
  · rw [e] at k2
    simp at k2
  injection e with e
  have e0 : Value.slice a1 64 p1 = vr := by
    have := congrArg (·[0]?) e
    simpa using this
  have e2 : Value.slice a2 4 p2 = vm := by
    have := congrArg (·[1]?) e
    simpa using this
  subst e0 e2
  obtain ⟨cp, u, hv, hc, hr, hstep⟩ := h2.at (k := j) (by omega)
  injection hv with hv _ _
  subst hv
  obtain ⟨cu, _, _, hu, _, _⟩ := id hr
  subst hu
  have hg := b3 j (by omega)
  refine ⟨s, G j, cu, rfl, by rw [hc, hlz], fun q hq => ⟨⟨_, hr.cell q (by omega)⟩, hr.frozen q, fun z z0 z1 => ⟨src.setO (by omega), ⟨o1, o2, o3, by rw [sizeSet]; exact o4⟩, q0.other (by simp; omega) _, qm.other (by simp; omega) _, ?_, ?_, grown_setO gro (by omega)⟩⟩⟩
  · have hgr : W.grownBy (W.setCell ⟨G j, q, none⟩ (.int .i64 z)) (some (G j)) := ⟨rfl, rfl, rfl, by simp [World.setCell], fun k hk hne => Below.heap_setCell _ _ _ _ (by intro e; exact hne (by rw [e]))⟩
    refine .inr ⟨_, _, r, s, G, rfl, h1.kept (Below.heap_setCell _ _ _ _ (by simp; exact fun e => (d2 j (by omega)).1 e.symm)), hstep _ _ (hr.set q z) hgr (fun i hi => (d2 i hi).2) d3, b1, b2, fun i hi => b3 i (by simpa using hi), d1, fun i hi => d2 i (by simpa using hi), fun i i' hi hi' => d3 i i' (by simpa using hi) (by simpa using hi')⟩
  · refine ok_all k1 (by rw [List.length_set]; exact k2) (in_yes k3.1 k3.2) k4 (fun i hi => ?_)
    by_cases e : j = i
    · subst e
      show bytesB ((M.ram.set j _).getD j []) 64 = true
      rw [List.getD_eq_getElem?_getD, List.getElem?_set_self (by omega)]
      exact bytes_set (k5 j (by omega)) (in_yes z0 z1)
    · show bytesB ((M.ram.set j _).getD i []) 64 = true
      rw [List.getD_eq_getElem?_getD, List.getElem?_set_ne e, ← List.getD_eq_getElem?_getD]
      exact k5 i (by omega)
theorem MSt.top {w W : World} {p : Nat} {a : Option Addr} {len cap nn bm lo : Nat} {a1 : Option Addr} {p1 : Nat} {a2 : Option Addr} {p2 : Nat} {M : Mem} (h : MSt w W p a len cap nn bm lo a1 p1 a2 p2 M) : ∃ s, a2 = some ⟨s, 0, none⟩ ∧ lo ≤ s := by
  obtain ⟨src, ⟨o1, o2, o3, o4⟩, q0, qm, mem, ok, gro⟩ := h
  obtain ⟨k1, k2, k3, k4, k5⟩ := ok_parts ok
  rcases mem with ⟨_, _, e⟩ | ⟨vr, vm, r, s, G, e, h1, h2, b1, b2, b3, d1, d2, d3⟩
  · rw [e] at k2
    simp at k2
  injection e with e
  have e2 : Value.slice a2 4 p2 = vm := by
    have := congrArg (·[1]?) e
    simpa using this
  subst e2
  obtain ⟨cp, _, _, _, hv, _⟩ := h2
  injection hv with hv _ _
  exact ⟨s, hv, b2.1⟩
theorem MSt.row' {w W : World} {p : Nat} {a : Option Addr} {len cap nn bm lo : Nat} {a1 : Option Addr} {p1 s : Nat} {p2 : Nat} {M : Mem} (h : MSt w W p a len cap nn bm lo a1 p1 (some ⟨s, 0, none⟩) p2 M) {j : Nat} (hj : j < 4) :
    ∃ g c, W.cell? ⟨s, j, none⟩ = some (.slice (some ⟨g, 0, none⟩) 64 c) ∧ ∀ q, q < 64 → (∃ x, W.cell? ⟨g, q, none⟩ = some x) ∧ W.frozen? ⟨g, q, none⟩ = false ∧
      ∀ z, 0 ≤ z → z ≤ 255 → MSt w (W.setCell ⟨g, q, none⟩ (.int .i64 z)) p a len cap nn bm lo a1 p1 (some ⟨s, 0, none⟩) p2 { M with ram := M.ram.set j ((M.ram.getD j []).set q z) } := by
  obtain ⟨s', g, c, e, h1, h2⟩ := h.row hj
  injection e with e
  injection e with e _ _
  subst e
  exact ⟨g, c, h1, h2⟩
theorem MSt.same {w W : World} {p : Nat} {a : Option Addr} {len cap nn bm lo : Nat} {a1 : Option Addr} {p1 s : Nat} {p2 : Nat} {M : Mem} (h : MSt w W p a len cap nn bm lo a1 p1 (some ⟨s, 0, none⟩) p2 M) {j g c : Nat} (hj : j < 4) (hc : W.cell? ⟨s, j, none⟩ = some (.slice (some ⟨g, 0, none⟩) 64 c)) :
    ∀ q, q < 64 → (∃ x, W.cell? ⟨g, q, none⟩ = some x) ∧ W.frozen? ⟨g, q, none⟩ = false ∧
      ∀ z, 0 ≤ z → z ≤ 255 → MSt w (W.setCell ⟨g, q, none⟩ (.int .i64 z)) p a len cap nn bm lo a1 p1 (some ⟨s, 0, none⟩) p2 { M with ram := M.ram.set j ((M.ram.getD j []).set q z) } := by
  obtain ⟨g', c', h1, h2⟩ := h.row' hj
  rw [hc] at h1
  have e := Option.some.inj h1
  injection e with e _ _
  injection e with e
  injection e with e _ _
  subst e
  exact h2
theorem MemO.fields {W : World} {lo hi : Nat} {vr vm : Value} {pg sc : Int} {l : Bool} {M : Mem} (h : MemO W lo hi (memV vr vm M.page M.screen M.locked) M) : MemO W lo hi (memV vr vm pg sc l) { M with page := pg, screen := sc, locked := l } := by
  rcases h with ⟨e, e1, e2⟩ | ⟨vr', vm', r, s, G, e, h1, h2, r2⟩
  · injection e with e
    have e3 : vr = .slice none 0 0 := by
      have := congrArg (·[0]?) e
      simpa using this
    have e4 : vm = .slice none 0 0 := by
      have := congrArg (·[1]?) e
      simpa using this
    exact .inl ⟨by rw [e3, e4], e1, e2⟩
  · injection e with e
    have e3 : vr = vr' := by
      have := congrArg (·[0]?) e
      simpa using this
    have e4 : vm = vm' := by
      have := congrArg (·[1]?) e
      simpa using this
    subst e3 e4
    exact .inr ⟨_, _, r, s, G, rfl, h1, h2, r2⟩
theorem MSt.field {w W : World} {p : Nat} {a : Option Addr} {len cap nn bm lo : Nat} {a1 : Option Addr} {p1 : Nat} {a2 : Option Addr} {p2 : Nat} {M : Mem} (h : MSt w W p a len cap nn bm lo a1 p1 a2 p2 M) (i : Nat) (u : Value) (pg sc : Int) (l : Bool)
    (hb : (box4 a1 p1 a2 p2 M.page M.screen M.locked).setIfInBounds i u = box4 a1 p1 a2 p2 pg sc l) (hp : 0 ≤ pg ∧ pg ≤ 3) (hs : sc = 1 ∨ sc = 3) : MSt w (W.setCell ⟨bm, i, none⟩ u) p a len cap nn bm lo a1 p1 a2 p2 { M with page := pg, screen := sc, locked := l } := by
  obtain ⟨src, ⟨o1, o2, o3, o4⟩, q0, qm, mem, ok, gro⟩ := h
  obtain ⟨k1, k2, k3, k4, k5⟩ := ok_parts ok
  have q := qm.set i u
  rw [hb] at q
  exact ⟨src.setO (by omega), ⟨o1, o2, o3, by rw [sizeSet]; exact o4⟩, q0.other (by simp; omega) _, q, (mem.kept (fun b h0 h1 => Below.heap_setCell _ _ _ _ (by simp; omega))).fields, ok_all k1 k2 (in_yes hp.1 hp.2) hs (fun i hi => k5 i (by omega)), grown_setO gro (by omega)⟩
end Go.Proofs.Ytiidkhfigifmjaa
