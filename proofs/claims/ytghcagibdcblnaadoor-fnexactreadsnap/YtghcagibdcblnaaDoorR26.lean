/- The source of choices that the laws draw from: what its methods answer (numbers in their bounds) and that they write into the source's own block alone. -/
import Derived.Test.YtghcagibdcblnaaDoorR00
import Derived.OwnWalk
import Derived.OneCell
import Derived.WalkSmall
import Derived.Deep.QuietTactic
import Derived.BigQuiet
import Derived.Deep.RegionHeld3
import Derived.Deep.AppendLies
import Derived.Deep.DrawnRows
import Derived.KernelRfl
import Derived.OpenShut
import Derived.Test.YtghcagibdcblnaaDoorMnr
import Derived.Test.YtghcagibdcblnaaDoorR12
import Derived.Deep.RegionWith
import Derived.Test.YtghcagibdcblnaaDoorEpr
namespace Go.Proofs.YtghcagibdcblnaaDoor
open Go.ChangeShapes Go.WideShapes Go.ChangeAt Go.RowKit
set_option linter.unusedVariables false

/-- a slice of bytes that came in: each of its elements can be read, in a block below B -/
def CodeAt (w : World) (B : Nat) (a : Option Addr) (len : Nat) : Prop :=
  len = 0 ∨ ∃ b off, a = some ⟨b, off, none⟩ ∧ b < B ∧ ∀ i, i < len → ∃ c : Int, 0 ≤ c ∧ c ≤ 255 ∧ w.cell? ⟨b, off + i, none⟩ = some (.int .u8 c)

theorem codeAt_of {w : World} {a : Option Addr} {len cap : Nat} {zs : List Int}
    (h : (a = none ∧ len = 0 ∧ cap = 0 ∧ zs = []) ∨ ∃ x, a = some x ∧ len ≤ cap ∧ cap ≤ maxLen ∧ zs.length = cap ∧ (∀ i, i < zs.length → w.cell? (x.add i) = some (.int .u8 (zs.getD i 0))) ∧ ∀ n ∈ zs, (Lit.int .u8 n).wf = true) :
    CodeAt w w.heap.size a len := by
  rcases h with ⟨_, rfl, _, _⟩ | ⟨x, rfl, hl, _, hz, hc, hw⟩
  · exact .inl rfl
  · by_cases h0 : len = 0
    · exact .inl h0
    · obtain ⟨b, off, spot⟩ := x
      have h1 := hc 0 (by omega)
      have hspot : spot = none := by simpa [Addr.add] using World.cell?_spot h1
      subst hspot
      have hb := World.block_lt_of_cell? w _ h1
      refine .inr ⟨b, off, rfl, by simpa [Addr.add] using hb, fun i hi => ?_⟩
      have h2 := hc i (by omega)
      have hm : zs.getD i 0 ∈ zs := by
        simp only [List.getD_eq_getElem?_getD, List.getElem?_eq_getElem (show i < zs.length by omega), Option.getD_some]
        exact List.getElem_mem _
      have hbd := bounds_u8 (hw _ hm)
      have hplain : (⟨b, off, none⟩ : Addr).add i = ⟨b, off + i, none⟩ := by unfold Addr.add; split <;> simp_all
      exact ⟨zs.getD i 0, hbd.1, hbd.2, by rw [← hplain]; exact h2⟩

theorem CodeAt.below {w w' : World} {B B' : Nat} {a : Option Addr} {len : Nat} (h : CodeAt w B a len) (hb : Below B w w') (hB : B ≤ B') : CodeAt w' B' a len := by
  rcases h with h | ⟨b, off, rfl, hb1, hc⟩
  · exact .inl h
  · refine .inr ⟨b, off, rfl, by omega, fun i hi => ?_⟩
    obtain ⟨c, h0, h1, h2⟩ := hc i hi
    exact ⟨c, h0, h1, by rw [hb.cell (p := ⟨b, off + i, none⟩) hb1]; exact h2⟩

theorem CodeAt.grown {w w' : World} {B p : Nat} {a : Option Addr} {len : Nat} (h : CodeAt w B a len) (hg : w.grownBy w' (some p)) (hB : B ≤ p) (hp : p ≤ w.heap.size) : CodeAt w' B a len := by
  rcases h with h | ⟨b, off, rfl, hb, hc⟩
  · exact .inl h
  · refine .inr ⟨b, off, rfl, hb, fun i hi => ?_⟩
    obtain ⟨c, h0, h1, h2⟩ := hc i hi
    exact ⟨c, h0, h1, hg.cell h2 (by simp; omega)⟩

theorem blk_lt {w : World} {p : Nat} {o : Obj} (h : w.heap[p]? = some o) : p < w.heap.size := by
  rcases Nat.lt_or_ge p w.heap.size with h' | h'
  · exact h'
  · simp [Array.getElem?_eq_none h'] at h
theorem blk_set {w : World} {p off : Nat} {cs : Array Value} {t : TypeId} {u : Value} (h : w.heap[p]? = some (.cells cs t (0, 0))) : (w.setCell ⟨p, off, none⟩ u).heap[p]? = some (.cells (cs.setIfInBounds off u) t (0, 0)) := by
  have hlt := blk_lt h
  have h' : w.heap[p] = .cells cs t (0, 0) := by simpa [Array.getElem?_eq_getElem hlt] using h
  show (w.heap.modify p _)[p]? = _
  rw [Array.getElem?_eq_getElem (by simpa using hlt), Array.getElem_modify_self, h']
  rfl
theorem grown_set {w w' : World} {p off : Nat} {u : Value} (h : w.grownBy w' (some p)) : w.grownBy (w'.setCell ⟨p, off, none⟩ u) (some p) :=
  ⟨h.os, h.tape, h.output, by have := h.size; simpa [World.setCell] using this, fun k hk hne => by
    rw [Below.heap_setCell _ _ _ _ (fun e => hne (by rw [e]))]
    exact h.block k hk hne⟩
theorem grown_drewN {w w' : World} {r : Option Nat} (n : Nat) (h : w.grownBy w' r) : w.grownBy (w'.drewN n) r := ⟨h.os, h.tape, h.output, h.size, h.block⟩

theorem grown_then {a b c : World} {r r2 : Option Nat} (h : a.grownBy b r) (k : b.grownBy c r2) (hr : ∀ g, r2 = some g → a.heap.size ≤ g ∨ r = some g) : a.grownBy c r :=
  ⟨k.os.trans h.os, k.tape.trans h.tape, k.output.trans h.output, Nat.le_trans h.size k.size, fun i hi hne => by
    rw [k.block i (Nat.lt_of_lt_of_le hi h.size) (fun e => by
      rcases hr i e.symm with h1 | h1
      · omega
      · exact hne h1.symm)]
    exact h.block i hi hne⟩
theorem grown_below {w w' : World} {p : Nat} (h : w.grownBy w' (some p)) (hp : p ≤ w.heap.size) : Below p w w' :=
  ⟨h.os, h.tape, h.output, h.size, fun k hk => h.block k (by omega) (by simp; omega)⟩

end Go.Proofs.YtghcagibdcblnaaDoor

/- A memory that the laws draw: it is right, and lies in blocks of its own. -/
namespace Go.Proofs.YtghcagibdcblnaaDoor
open Go.ChangeShapes Go.WideShapes Go.ChangeAt Go.RowKit
set_option linter.unusedVariables false
set_option linter.unusedSimpArgs false

abbrev box4 (a1 : Option Addr) (p1 : Nat) (a2 : Option Addr) (p2 : Nat) (pg sc : Int) (l : Bool) : Array Value := #[.slice a1 64 p1, .slice a2 4 p2, .int .i64 pg, .int .i64 sc, .bool l]
theorem grown_two {a b c : World} {p : Nat} (h : a.grownBy b (some p)) (k : b.grownBy c (some p)) : a.grownBy c (some p) :=
  ⟨k.os.trans h.os, k.tape.trans h.tape, k.output.trans h.output, Nat.le_trans h.size k.size, fun i hi hne => (k.block i (Nat.lt_of_lt_of_le hi h.size) hne).trans (h.block i hi hne)⟩
theorem grown_setO {w W : World} {p b i : Nat} {u : Value} (h : w.grownBy W (some p)) (hb : w.heap.size ≤ b) : w.grownBy (W.setCell ⟨b, i, none⟩ u) (some p) :=
  ⟨h.os, h.tape, h.output, by have := h.size; simpa [World.setCell] using this, fun k hk hne => by
    rw [Below.heap_setCell _ _ _ _ (by simp; omega)]
    exact h.block k hk hne⟩
theorem MemO.fields {W : World} {lo hi : Nat} {vr vm : Value} {pg sc : Int} {l : Bool} {M : Mem} (h : MemO W lo hi (memV vr vm M.page M.screen M.locked) M) : MemO W lo hi (memV vr vm pg sc l) { M with page := pg, screen := sc, locked := l } := by
  rcases h with ⟨e, e1, e2⟩ | ⟨vr', vm', r, s, G, e, h1, h2, r2⟩
  · injection e with e
    have e3 : vr = .slice none 0 0 := by
      have := congrArg (·[0]?) e
      simpa using this
    have e4 : vm = .slice none 0 0 := by
      have := congrArg (·[1]?) e
      simpa using this
    exact .inl ⟨by rw [e3, e4], e1, e2⟩
  · injection e with e
    have e3 : vr = vr' := by
      have := congrArg (·[0]?) e
      simpa using this
    have e4 : vm = vm' := by
      have := congrArg (·[1]?) e
      simpa using this
    subst e3 e4
    exact .inr ⟨_, _, r, s, G, rfl, h1, h2, r2⟩
end Go.Proofs.YtghcagibdcblnaaDoor

/- A snapshot is read: the specification. -/
namespace Go.Proofs.YtghcagibdcblnaaDoor
open Go.ChangeShapes Go.WideShapes Go.ChangeAt Go.RowKit
set_option linter.unusedVariables false
set_option linter.unusedSimpArgs false

theorem results_cell_tmpS {P : Program} {fn : Func} {p q : Tmp} {ty : TypeId} (h : fn.results = #[.cell p ty, .tmp q]) (tmps : Array Value) (w : World) (g : Nat) (t : TypeId) (cs : Array Value) (fr : Nat × Nat) (d : TypeDesc) (v : Value)
    (hp : tmps.getD p undef = .pointer (some ⟨g, 0, none⟩)) (hq : tmps.getD q undef = v) (hg : w.heap[g]? = some (.cells cs t fr))
    (hu : P.underlying ty = some d) (hd : (match d with | .struct _ | .array _ _ => true | _ => false) = true) (hi : (P.info? ty).map (·.size) = some cs.size) :
    (results fn tmps).run P w = .ok (.tuple #[.agg cs, v]) w := by
  have hp' : tmps[p]?.getD undef = .pointer (some ⟨g, 0, none⟩) := by simpa using hp
  have hq' : tmps[q]?.getD undef = v := by simpa using hq
  simp [results, h, hp', hq', asAddr, run_loadVar_row w g t ty cs fr d hg hu hd hi]
/-- a snapshot while it is being made -/
structure Rd (w W : World) (SB lo mh : Nat) (vr vm : Value) (S : Sn) : Prop where
  res : Blk W w.heap.size (snA sn0 nl nl)
  box : Blk W SB (snA S vr vm)
  mem : MemO W lo mh (memV vr vm S.m.page S.m.screen S.m.locked) S.m
  ord : w.heap.size < lo ∧ lo ≤ mh ∧ mh ≤ SB ∧ mh ≤ W.heap.size
  bel : Below w.heap.size w W
theorem Rd.below {w W W' : World} {SB lo mh : Nat} {vr vm : Value} {S : Sn} (h : Rd w W SB lo mh vr vm S) (hb : Below W.heap.size W W') : Rd w W' SB lo mh vr vm S := by
  have := hb.size
  have ho := h.ord
  exact ⟨h.res.below hb h.res.lt, h.box.below hb h.box.lt, h.mem.below hb ho.2.2.2, by omega, new_trans h.bel hb⟩
theorem Rd.cell {w W : World} {SB lo mh : Nat} {vr vm : Value} {S : Sn} (h : Rd w W SB lo mh vr vm S) (j : Nat) (u : Value) (S' : Sn) (hA : (snA S vr vm).setIfInBounds j u = snA S' vr vm) (h1 : S'.m.rom = S.m.rom) (h2 : S'.m.ram = S.m.ram) : Rd w (W.setCell ⟨SB, j, none⟩ u) SB lo mh vr vm S' := by
  have ho := h.ord
  refine ⟨h.res.other (by simp; omega) u, ?_, ?_, by rw [sizeSet]; exact ho, h.bel.setCell (p := ⟨SB, j, none⟩) (by simp; omega) u⟩
  · have := h.box.set j u
    rw [hA] at this
    exact this
  · have hk := (h.mem.kept (w' := W.setCell ⟨SB, j, none⟩ u) (fun b _ hb => Below.heap_setCell _ _ _ _ (by show b ≠ SB; omega))).fields (pg := S'.m.page) (sc := S'.m.screen) (l := S'.m.locked)
    have e : ({ S.m with page := S'.m.page, screen := S'.m.screen, locked := S'.m.locked } : Mem) = S'.m := by
      show (⟨S.m.rom, S.m.ram, S'.m.page, S'.m.screen, S'.m.locked⟩ : Mem) = S'.m
      rw [← h1, ← h2]
    rw [e] at hk
    exact hk
theorem Rd.ports {w W : World} {SB lo mh : Nat} {vr vm : Value} {S : Sn} (h : Rd w W SB lo mh vr vm S) (p : Po) : Rd w (W.setCells SB 19 (poA p).toList) SB lo mh vr vm { S with p := p } := by
  have ho := h.ord
  refine ⟨layE_other (by omega) _ _ _ h.res, ?_, h.mem.kept (fun b _ hb => layE_heap _ _ _ _ (by omega)), by rw [size_cells]; exact ho, layE_below _ _ _ (by omega) h.bel⟩
  have := layE_blk SB (poA p).toList W 19 _ h.box
  rw [sn_lay2] at this
  exact this
theorem Rd.poke {w W : World} {SB lo mh i k : Nat} {vr vm : Value} {S : Sn} (h : Rd w W SB lo mh vr vm S) (hi : i < S.m.ram.length) (hk : k < (S.m.ram.getD i []).length) :
    ∃ s c g cg, vm = .slice (some ⟨s, 0, none⟩) S.m.ram.length c ∧ W.cell? ⟨s, i, none⟩ = some (.slice (some ⟨g, 0, none⟩) (S.m.ram.getD i []).length cg) ∧ (∃ u, W.cell? ⟨g, k, none⟩ = some u) ∧ W.frozen? ⟨g, k, none⟩ = false ∧ g < W.heap.size ∧ g < mh ∧
      ∀ z, Rd w (W.setCell ⟨g, k, none⟩ (.int .i64 z)) SB lo mh vr vm { S with m := { S.m with ram := S.m.ram.set i ((S.m.ram.getD i []).set k z) } } := by
  obtain ⟨s, c, g, cg, e1, e2, e3, e4, e5, e6, e7, e8, e9⟩ := memO_poke h.mem hi hk
  have ho := h.ord
  refine ⟨s, c, g, cg, e1, e2, e3, e4, e8, e5.2, fun z => ⟨h.res.other (by simp; omega) _, h.box.other (by simp; omega) _, e9 z, by rw [sizeSet]; exact ho, h.bel.setCell (p := ⟨g, k, none⟩) (by simp; omega) _⟩⟩
/-- what reading a text gives -/
def RdOut (w : World) (r : Sn × Int) (e : Ending) (w' : World) : Prop := ∃ vr vm, e = .returned (.tuple #[.agg (snA r.1 vr vm), .int .i64 r.2]) ∧ MemO w' w.heap.size w'.heap.size (memV vr vm r.1.m.page r.1.m.screen r.1.m.locked) r.1.m ∧ Below w.heap.size w w'
end Go.Proofs.YtghcagibdcblnaaDoor
