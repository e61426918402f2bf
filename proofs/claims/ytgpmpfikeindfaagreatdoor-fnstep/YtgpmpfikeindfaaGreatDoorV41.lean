/- What the exact laws' helpers over lists of cycles answer: equal lists are told equal, marks are held. -/
import Derived.Test.YtgpmpfikeindfaaGreatDoorV12
import Derived.Test.YtgpmpfikeindfaaGreatDoorV00
import Derived.Deep.RegionWith
import Derived.Deep.Onto
import Derived.Deep.DrawnRows
import Derived.Deep.QuietTactic
import Derived.BigRegion
import Derived.Test.YtgpmpfikeindfaaGreatDoorV24
import Derived.LaidMore
import Derived.OpenShut
import Derived.Stop.Joined
import Derived.Test.YtgpmpfikeindfaaGreatDoorV33
import Derived.Deep.Matrix
import Derived.Lib.SmallJoins
namespace Go.Proofs.YtgpmpfikeindfaaGreatDoor
open Go.ChangeShapes Go.WideShapes Go.ChangeAt Go.RowKit
set_option linter.unusedVariables false
set_option linter.unusedSimpArgs false

abbrev cyz : Nat × Nat × Nat := (0, 0, 0)
theorem cyV_at (l : List (Nat × Nat × Nat)) : ∀ (k : Nat), k < l.length → (cyV l)[k * 3]? = some (.int .i64 ((l.getD k cyz).1 : Int)) ∧ (cyV l)[k * 3 + 1]? = some (.int .i64 ((l.getD k cyz).2.1 : Int)) ∧ (cyV l)[k * 3 + 2]? = some (.int .i64 ((l.getD k cyz).2.2 : Int)) := by
  induction l with
  | nil => intro k hk; simp at hk
  | cons x t ih =>
    intro k hk
    have e : cyV (x :: t) = .int .i64 (x.1 : Int) :: .int .i64 (x.2.1 : Int) :: .int .i64 (x.2.2 : Int) :: cyV t := rfl
    cases k with
    | zero => exact ⟨rfl, rfl, rfl⟩
    | succ k =>
      have h := ih k (by simpa using hk)
      have e1 : (k + 1) * 3 = k * 3 + 1 + 1 + 1 := by omega
      rw [e, e1]
      simp only [List.getElem?_cons_succ, List.getD_cons_succ]
      exact h
theorem cyV_set (l : List (Nat × Nat × Nat)) : ∀ (k a b c : Nat), (((cyV l).set (k * 3) (.int .i64 (a : Int))).set (k * 3 + 1) (.int .i64 (b : Int))).set (k * 3 + 2) (.int .i64 (c : Int)) = cyV (l.set k (a, b, c)) := by
  induction l with
  | nil => intro k a b c; simp [cyV]
  | cons x t ih =>
    intro k a b c
    have e : ∀ y : Nat × Nat × Nat, ∀ t, cyV (y :: t) = .int .i64 (y.1 : Int) :: .int .i64 (y.2.1 : Int) :: .int .i64 (y.2.2 : Int) :: cyV t := fun _ _ => rfl
    cases k with
    | zero => rfl
    | succ k =>
      have e1 : (k + 1) * 3 = k * 3 + 1 + 1 + 1 := by omega
      have h := ih k a b c
      rw [e, e1]
      simp only [List.set_cons_succ]
      rw [h, e]
/-- a block that holds a row of cycles -/
def CyB (W : World) (g n cap : Nat) (xs : List Value) : Prop := ∃ cur, W.heap[g]? = some (.cells cur 42 (0, 0)) ∧ n ≤ cap ∧ cap ≤ maxLen ∧ cur.size = cap * 3 ∧ cur.toList.take (n * 3) = xs
theorem CyB.cell {W : World} {g n cap : Nat} {xs : List Value} (h : CyB W g n cap xs) (i : Nat) (hi : i < n * 3) : W.cell? ⟨g, i, none⟩ = xs[i]? := by
  obtain ⟨cur, hc, h1, h2, h3, h4⟩ := h
  rw [← h4, List.getElem?_take, if_pos hi]
  simp [World.cell?, hc]
theorem CyB.frozen {W : World} {g n cap : Nat} {xs : List Value} (h : CyB W g n cap xs) (i : Nat) : W.frozen? ⟨g, i, none⟩ = false := by
  obtain ⟨cur, hc, h1, h2, h3, h4⟩ := h
  simp [World.frozen?, hc]
theorem CyB.lt {W : World} {g n cap : Nat} {xs : List Value} (h : CyB W g n cap xs) : g < W.heap.size := by
  obtain ⟨cur, hc, _⟩ := h
  exact (Array.getElem?_eq_some_iff.1 hc).1
theorem CyB.set {W : World} {g n cap : Nat} {xs : List Value} (h : CyB W g n cap xs) (i : Nat) (u : Value) : CyB (W.setCell ⟨g, i, none⟩ u) g n cap (xs.set i u) := by
  obtain ⟨cur, hc, h1, h2, h3, h4⟩ := h
  refine ⟨cur.setIfInBounds i u, heap_setCell_same' _ _ _ _ _ _ hc, h1, h2, by simpa using h3, ?_⟩
  rw [← h4, ← List.take_set, Array.toList_setIfInBounds]
theorem CyO.form {W : World} {v : Value} {l : List (Nat × Nat × Nat)} (h : CyO W v l) : (v = .slice none 0 0 ∧ l = []) ∨ ∃ g cap, v = .slice (some ⟨g, 0, none⟩) l.length cap ∧ CyB W g l.length cap (cyV l) := by
  rcases h.2 with ⟨rfl, e⟩ | ⟨g, cap, cur, rfl, _, hc, h1, h2, h3, h4⟩
  · exact .inl ⟨rfl, List.eq_nil_of_length_eq_zero e⟩
  · exact .inr ⟨g, cap, rfl, cur, hc, h1, h2, h3, h4⟩
theorem CyO.of {W : World} {g cap : Nat} {l : List (Nat × Nat × Nat)} (h : CyB W g l.length cap (cyV l)) : CyO W (.slice (some ⟨g, 0, none⟩) l.length cap) l := by
  obtain ⟨cur, hc, h1, h2, h3, h4⟩ := h
  exact ⟨cyV_len l, .inr ⟨g, cap, cur, rfl, Nat.zero_le _, hc, h1, h2, h3, h4⟩⟩
theorem CyO.slice {W : World} {v : Value} {l : List (Nat × Nat × Nat)} (h : CyO W v l) : ∃ a cap, v = .slice a l.length cap := by
  rcases h.form with ⟨rfl, rfl⟩ | ⟨g, cap, rfl, _⟩
  · exact ⟨none, 0, rfl⟩
  · exact ⟨_, _, rfl⟩
theorem CyO.some {W : World} {a : Option Addr} {n cap : Nat} {l : List (Nat × Nat × Nat)} (h : CyO W (.slice a n cap) l) {k : Nat} (hk : k < l.length) :
    ∃ g, a = some ⟨g, 0, none⟩ ∧ n = l.length ∧ W.cell? ⟨g, k * 3, none⟩ = some (.int .i64 ((l.getD k cyz).1 : Int)) ∧ W.cell? ⟨g, k * 3 + 1, none⟩ = some (.int .i64 ((l.getD k cyz).2.1 : Int)) ∧ W.cell? ⟨g, k * 3 + 2, none⟩ = some (.int .i64 ((l.getD k cyz).2.2 : Int)) := by
  rcases h.form with ⟨_, rfl⟩ | ⟨g, cap', e, hB⟩
  · simp at hk
  · injection e with e1 e2 e3
    obtain ⟨k1, k2, k3⟩ := cyV_at l k hk
    exact ⟨g, e1, e2, by rw [hB.cell _ (by omega)]; exact k1, by rw [hB.cell _ (by omega)]; exact k2, by rw [hB.cell _ (by omega)]; exact k3⟩
/-- the first k cycles are marked -/
def mkC (l : List (Nat × Nat × Nat)) (m k : Nat) : List (Nat × Nat × Nat) := (List.range l.length).map fun i => if i < k then (m + 3 * i, m + 3 * i + 1, m + 3 * i + 2) else l.getD i cyz
def markC (m n : Nat) : List (Nat × Nat × Nat) := (List.range n).map fun i => (m + 3 * i, m + 3 * i + 1, m + 3 * i + 2)
theorem mkC_len (l : List (Nat × Nat × Nat)) (m k : Nat) : (mkC l m k).length = l.length := by simp [mkC]
theorem markC_len (m n : Nat) : (markC m n).length = n := by simp [markC]
theorem markC_at (m n i : Nat) (h : i < n) : (markC m n).getD i cyz = (m + 3 * i, m + 3 * i + 1, m + 3 * i + 2) := by
  simp [markC, List.getD_eq_getElem?_getD, List.getElem?_range h]
theorem mkC_zero (l : List (Nat × Nat × Nat)) (m : Nat) : mkC l m 0 = l := by
  apply List.ext_getElem (mkC_len _ _ _)
  intro i h1 h2
  simp [mkC, List.getD_eq_getElem?_getD, List.getElem?_eq_getElem h2]
theorem mkC_all (l : List (Nat × Nat × Nat)) (m : Nat) : mkC l m l.length = markC m l.length := by
  unfold mkC markC
  apply List.map_congr_left
  intro i hi
  rw [if_pos (List.mem_range.1 hi)]
theorem mkC_succ (l : List (Nat × Nat × Nat)) (m k : Nat) (hk : k < l.length) : (mkC l m k).set k (m + 3 * k, m + 3 * k + 1, m + 3 * k + 2) = mkC l m (k + 1) := by
  apply List.ext_getElem (by rw [List.length_set, mkC_len, mkC_len])
  intro i h1 h2
  rw [mkC_len] at h2
  by_cases e : k = i
  · subst e
    rw [List.getElem_set_self]
    simp [mkC]
  · rw [List.getElem_set_ne e]
    simp only [mkC, List.getElem_map, List.getElem_range]
    by_cases h : i < k
    · rw [if_pos h, if_pos (by omega)]
    · rw [if_neg h, if_neg (by omega)]
/-- a cell of a row is written -/
theorem cyb_grown {W : World} {g i : Nat} {u : Value} : W.grownBy (W.setCell ⟨g, i, none⟩ u) (some g) := set_grown W g i u
theorem cyb_three {W : World} {g cap m k : Nat} {l : List (Nat × Nat × Nat)} (h : CyB W g l.length cap (cyV (mkC l m k))) (hk : k < l.length) (a b c : Int) (ha : a = (m + 3 * k : Nat)) (hb : b = (m + 3 * k + 1 : Nat)) (hc : c = (m + 3 * k + 2 : Nat)) :
    CyB (((W.setCell ⟨g, k * 3, none⟩ (.int .i64 a)).setCell ⟨g, k * 3 + 1, none⟩ (.int .i64 b)).setCell ⟨g, k * 3 + 2, none⟩ (.int .i64 c)) g l.length cap (cyV (mkC l m (k + 1))) := by
  have q := ((h.set (k * 3) (.int .i64 a)).set (k * 3 + 1) (.int .i64 b)).set (k * 3 + 2) (.int .i64 c)
  rw [ha, hb, hc, cyV_set, mkC_succ l m k hk] at q
  rw [ha, hb, hc]
  exact q
theorem grown_three {w W : World} {g : Nat} (h : w.grownBy W (some g)) (i j k : Nat) (a b c : Value) : w.grownBy (((W.setCell ⟨g, i, none⟩ a).setCell ⟨g, j, none⟩ b).setCell ⟨g, k, none⟩ c) (some g) :=
  grown_set1 (grown_set1 (grown_set1 h))
end Go.Proofs.YtgpmpfikeindfaaGreatDoor

/- Cycles that are the same are told the same. -/
namespace Go.Proofs.YtgpmpfikeindfaaGreatDoor
open Go.ChangeShapes Go.WideShapes Go.ChangeAt Go.RowKit
set_option linter.unusedVariables false
set_option linter.unusedSimpArgs false

theorem CyO.below {W W' : World} {v : Value} {l : List (Nat × Nat × Nat)} (h : CyO W v l) (hb : Below W.heap.size W W') : CyO W' v l := h.kept (fun b hd => hb.block b (h.lt b hd).2)
set_option maxRecDepth 100000 in
set_option maxHeartbeats 1000000 in
theorem samec (v v' : Value) (l : List (Nat × Nat × Nat)) (w : World) (h : CyO w v l) (h' : CyO w v' l) (hl : l.length ≤ 1000000) :
    Calls Tryz.prog 12 #[v, v'] w fun e w' => e = .returned (.bool true) ∧ Below w.heap.size w w' := by
  obtain ⟨a, cap, rfl⟩ := h.slice
  obtain ⟨a', cap', rfl⟩ := h'.slice
  have hK : Hid (∀ W', Below w.heap.size w W' → CyO W' (.slice a l.length cap) l ∧ CyO W' (.slice a' l.length cap') l) := fun W' hb => ⟨h.below hb, h'.below hb⟩
  clear h h'
  go_enter Tryz.func12, Tryz.ntmps12
  go_wp2
  go_loopw [5] (fun i wr => ∃ k : Nat, k ≤ l.length ∧ i = .int .i64 k ∧ Below w.heap.size w wr) (fun i _ => l.length - (intOf i).toNat)
  case atStart => exact ⟨0, by omega, rfl, Below.refl _ _⟩
  case round =>
    obtain ⟨k, hk, rfl, hB⟩ := hrel
    by_cases hlt : k < l.length
    · obtain ⟨g, rfl, _, c1, c2, c3⟩ := (hK.out _ hB).1.some hlt
      obtain ⟨g', rfl, _, d1, d2, d3⟩ := (hK.out _ hB).2.some hlt
      clear hK
      replace hB := hid hB
      generalize (l.getD k cyz).1 = x1 at *
      generalize (l.getD k cyz).2.1 = x2 at *
      generalize (l.getD k cyz).2.2 = x3 at *
      go_wp2_with fail
      go_region
      go_wp2
      go_roundw
      case rel => exact ⟨k + 1, by omega, by go_num, hB.out.drew⟩
      case measure => simp [intOf]; omega
    · obtain rfl : k = l.length := by omega
      replace hB := hid hB
      clear hK
      go_wp2
      go_ret
      exact ⟨rfl, hB.out⟩
end Go.Proofs.YtgpmpfikeindfaaGreatDoor

/- What the row's list of the table of flags gives: its cells hold the document's flags. -/
namespace Go.Proofs.YtgpmpfikeindfaaGreatDoor
open Go.ChangeShapes Go.WideShapes Go.ChangeAt Go.RowKit
set_option linter.unusedVariables false

theorem gFlags : Tryz.prog.globalNamed "loop.example/g00644/impl.copiedFlags" = some 3 := by kernel_rfl
theorem tFlags : (Tryz.prog.globals[3]?).map (·.type) = some 144 := by kernel_rfl

theorem flags_of {W : World} (h : laidMetH Tryz.prog [("loop.example/g00644/impl.copiedFlags", Rows.laid_loop_example_g00644_impl_copiedFlags)] W) : Flags W := by
  rw [MakeChecks.laidMetH_plain _ _ _ (by kernel_rfl)] at h
  obtain ⟨ps, ⟨g0, t0, cs0, f0, p0, q0, hg0, ht0, hv0, hd0, _⟩, _⟩ := h
  obtain rfl := Option.some.inj (gFlags.symm.trans hg0)
  obtain rfl := Option.some.inj (tFlags.symm.trans ht0)
  obtain ⟨xs, m1, rfl, hx1, hlen, hn, hel⟩ := DataW.trod_array Tryz.underlying144 hd0
  have c1 : Tryz.prog.cellsOf 3 = 1 := by kernel_rfl
  have hd : xs.map (·.1) = [(.lit (.int .i64 128) : DataW Unit), .lit (.int .i64 32), .lit (.int .i64 8)] := by
    have := congrArg Prod.fst hx1
    simp only [Rows.laid_loop_example_g00644_impl_copiedFlags, DataW.agg.injEq] at this
    exact this.symm
  have key : ∀ i (hi : i < 3) (z : Int), (xs.map (·.1))[i]? = some (DataW.lit (.int .i64 z) : DataW Unit) → W.cell? ⟨3, i, none⟩ = some (.int .i64 z) := by
    intro i hi z hz
    have h0 := hel i hi
    rw [c1, Nat.mul_one] at h0
    have hxi : xs[i]? = some xs[i] := List.getElem?_eq_getElem (by omega)
    rw [hxi] at h0
    obtain ⟨n, e1, e2, _⟩ := DataW.trod_int Tryz.underlying3 h0
    have hcs : cs0[i]? = some (.int .i64 n) := by
      have := congrArg (·[0]?) e1
      simpa [List.getElem?_take, List.getElem?_drop] using this
    rw [World.var?_cell gFlags hv0 i, hcs]
    rw [List.getElem?_map, hxi, e2] at hz
    simp at hz
    rw [hz]
  exact ⟨key 0 (by omega) 128 (by rw [hd]; rfl), key 1 (by omega) 32 (by rw [hd]; rfl), key 2 (by omega) 8 (by rw [hd]; rfl)⟩
end Go.Proofs.YtgpmpfikeindfaaGreatDoor

/- What the laws do with an instruction: it comes in, is copied, is held against another; and what the row's list of the table of kinds gives. -/
namespace Go.Proofs.YtgpmpfikeindfaaGreatDoor
open Go.ChangeShapes Go.WideShapes Go.ChangeAt Go.RowKit Go.Joins Go.Deep
set_option linter.unusedVariables false
set_option linter.unusedSimpArgs false

section
variable {H : Type} {enc : TypeId × Value → H} {P : Program} {w : World} {base : Nat} {spare : Nat → Bool} {held : Bool}
theorem arr5 {α : Type} {cs : Array α} (h : cs.size = 5) : ∃ c0 c1 c2 c3 c4, cs = #[c0, c1, c2, c3, c4] := by
  obtain ⟨l⟩ := cs
  match l, h with
  | [c0, c1, c2, c3, c4], _ => exact ⟨c0, c1, c2, c3, c4, rfl⟩
theorem trod_five {t : TypeId} {f0 f1 f2 f3 f4 : Field} {fuel : Nat} {cs : List Value} {x : DataW H × List MemPlace} (ht : P.underlying t = some (.struct #[f0, f1, f2, f3, f4])) (h : DataW.trod enc P w base spare held fuel t cs = some x) :
    ∃ y0 y1 y2 y3 y4 n, x.1 = .agg [y0.1, y1.1, y2.1, y3.1, y4.1] ∧ cs.length = P.cellsOf t ∧ DataW.trod enc P w base spare held n f0.type ((cs.drop f0.offset).take (P.cellsOf f0.type)) = some y0 ∧
      DataW.trod enc P w base spare held n f1.type ((cs.drop f1.offset).take (P.cellsOf f1.type)) = some y1 ∧ DataW.trod enc P w base spare held n f2.type ((cs.drop f2.offset).take (P.cellsOf f2.type)) = some y2 ∧
      DataW.trod enc P w base spare held n f3.type ((cs.drop f3.offset).take (P.cellsOf f3.type)) = some y3 ∧ DataW.trod enc P w base spare held n f4.type ((cs.drop f4.offset).take (P.cellsOf f4.type)) = some y4 := by
  obtain ⟨xs, n, _, rfl, hl, hlen, hf⟩ := DataW.trod_struct ht h
  match xs, hlen with
  | [y0, y1, y2, y3, y4], _ => exact ⟨y0, y1, y2, y3, y4, n, by simp, hl, by simpa using hf 0 f0 rfl, by simpa using hf 1 f1 rfl, by simpa using hf 2 f2 rfl, by simpa using hf 3 f3 rfl, by simpa using hf 4 f4 rfl⟩
theorem trod_fivec {t : TypeId} {f0 f1 f2 f3 f4 : Field} {fuel : Nat} {c0 c1 c2 c3 c4 : Value} {x : DataW H × List MemPlace} (hs : P.underlying t = some (.struct #[f0, f1, f2, f3, f4])) (hone : oneCellFields P #[f0, f1, f2, f3, f4] = true) (h : DataW.trod enc P w base spare held fuel t [c0, c1, c2, c3, c4] = some x) :
    ∃ (y0 y1 y2 y3 y4 : DataW H × List MemPlace) (n : Nat), x.1 = .agg [y0.1, y1.1, y2.1, y3.1, y4.1] ∧
      DataW.trod enc P w base spare held n f0.type [c0] = some y0 ∧ DataW.trod enc P w base spare held n f1.type [c1] = some y1 ∧ DataW.trod enc P w base spare held n f2.type [c2] = some y2 ∧ DataW.trod enc P w base spare held n f3.type [c3] = some y3 ∧ DataW.trod enc P w base spare held n f4.type [c4] = some y4 := by
  obtain ⟨y0, y1, y2, y3, y4, n, hx, _, h0, h1, h2, h3, h4⟩ := trod_five hs h
  obtain ⟨o0, k0⟩ := hone_of hone 0 f0 rfl
  obtain ⟨o1, k1⟩ := hone_of hone 1 f1 rfl
  obtain ⟨o2, k2⟩ := hone_of hone 2 f2 rfl
  obtain ⟨o3, k3⟩ := hone_of hone 3 f3 rfl
  obtain ⟨o4, k4⟩ := hone_of hone 4 f4 rfl
  exact ⟨y0, y1, y2, y3, y4, n, hx, by simpa [o0, k0] using h0, by simpa [o1, k1] using h1, by simpa [o2, k2] using h2, by simpa [o3, k3] using h3, by simpa [o4, k4] using h4⟩
theorem five_in {r : Reach} {b0 : Nat} {t : TypeId} {f0 f1 f2 f3 f4 : Field} {v : Value} {d : DataW H} {p : List MemPlace} (hs : P.underlying t = some (.struct #[f0, f1, f2, f3, f4])) (hone : oneCellFields P #[f0, f1, f2, f3, f4] = true) (hC : P.cellsOf t = 5)
    (i0 : P.underlying f0.type = some (.int .i64)) (i1 : P.underlying f1.type = some (.int .i64)) (i2 : P.underlying f2.type = some (.int .i64)) (i3 : P.underlying f3.type = some (.int .i64)) (i4 : P.underlying f4.type = some (.int .i64))
    (hv : Value.okWide P w r b0 t v) (h : DataW.Trod enc P w base spare held t v d p) : ∃ o a b n l : Int, v = insV o a b n l ∧ ((Lit.int .i64 o).wf = true ∧ (Lit.int .i64 a).wf = true ∧ (Lit.int .i64 b).wf = true ∧ (Lit.int .i64 n).wf = true ∧ (Lit.int .i64 l).wf = true) := by
  obtain ⟨cs, rfl, hsz⟩ := okWide_struct hs hv
  obtain ⟨c0, c1, c2, c3, c4, rfl⟩ := arr5 (hsz.trans hC)
  obtain ⟨fuel, hf⟩ := h
  obtain ⟨y0, y1, y2, y3, y4, n, _, h0, h1, h2, h3, h4⟩ := trod_fivec hs hone (by simpa [Value.cells] using hf)
  obtain ⟨o, e0, _, q0⟩ := DataW.trod_int i0 h0
  obtain ⟨a, e1, _, q1⟩ := DataW.trod_int i1 h1
  obtain ⟨b, e2, _, q2⟩ := DataW.trod_int i2 h2
  obtain ⟨m, e3, _, q3⟩ := DataW.trod_int i3 h3
  obtain ⟨l, e4, _, q4⟩ := DataW.trod_int i4 h4
  simp only [List.cons.injEq, and_true] at e0 e1 e2 e3 e4
  exact ⟨o, a, b, m, l, by rw [e0, e1, e2, e3, e4], q0, q1, q2, q3, q4⟩
end
theorem gKinds : Tryz.prog.globalNamed "loop.example/g00644/impl.instrKinds" = some 1 := by kernel_rfl
theorem tKinds : (Tryz.prog.globals[1]?).map (·.type) = some 120 := by kernel_rfl
theorem kd_data (k : Nat) (hk : k < 24) {x : DataW Unit} (h : (match (Rows.laid_loop_example_g00644_impl_instrKinds : DataW Unit) with | .agg l => l | _ => [])[k]? = some x) : x = .agg [.lit (.string (kdWL.getD k [])), .lit (.int .i64 (kdN k)), .lit (.int .i64 (kdA k)), .lit (.int .i64 (kdB k)), .lit (.int .i64 (kdT k))] := by
  have hk2 : k = 0 ∨ k = 1 ∨ k = 2 ∨ k = 3 ∨ k = 4 ∨ k = 5 ∨ k = 6 ∨ k = 7 ∨ k = 8 ∨ k = 9 ∨ k = 10 ∨ k = 11 ∨ k = 12 ∨ k = 13 ∨ k = 14 ∨ k = 15 ∨ k = 16 ∨ k = 17 ∨ k = 18 ∨ k = 19 ∨ k = 20 ∨ k = 21 ∨ k = 22 ∨ k = 23 := by omega
  rcases hk2 with rfl | rfl | rfl | rfl | rfl | rfl | rfl | rfl | rfl | rfl | rfl | rfl | rfl | rfl | rfl | rfl | rfl | rfl | rfl | rfl | rfl | rfl | rfl | rfl
  all_goals exact (Option.some.inj h).symm
theorem five_list {α : Type} {l : List α} (h : l.length = 5) : ∃ c0 c1 c2 c3 c4, l = [c0, c1, c2, c3, c4] := by
  match l, h with
  | [c0, c1, c2, c3, c4], _ => exact ⟨c0, c1, c2, c3, c4, rfl⟩
theorem five_at {l : List Value} {j t : Nat} {c : Value} {cs : List Value} (h : (l.drop j).take 5 = cs) (hc : cs[t]? = some c) (ht : t < 5) : l[j + t]? = some c := by
  have h1 := congrArg (·[t]?) h
  simp only [List.getElem?_take, List.getElem?_drop] at h1
  rw [if_pos ht] at h1
  rw [h1, hc]
theorem kinds_reads {W : World} {held : Bool} {cs : Array Value} {fuel : Nat} {p : List MemPlace} (hv : World.var? Tryz.prog W "loop.example/g00644/impl.instrKinds" = some cs)
    (h : DataW.trod (fun _ => ()) Tryz.prog W 0 (fun _ => true) held fuel 120 cs.toList = some (Rows.laid_loop_example_g00644_impl_instrKinds, p)) : Kinds W := by
  obtain ⟨xs, m1, rfl, hx1, hlen, hn, hel⟩ := DataW.trod_array Tryz.underlying120 h
  have c1 : Tryz.prog.cellsOf 119 = 5 := by kernel_rfl
  have c2 : Tryz.prog.cellsOf 120 = 120 := by kernel_rfl
  have hx2 := congrArg Prod.fst hx1
  dsimp only at hx2
  intro k hk
  have h0 := hel k hk
  rw [c1] at h0
  have hxi : xs[k]? = some xs[k] := List.getElem?_eq_getElem (by omega)
  rw [hxi] at h0
  have hl5 : ((cs.toList.drop (k * 5)).take 5).length = 5 := by
    rw [List.length_take, List.length_drop, hlen, c2]
    omega
  obtain ⟨v0, v1, v2, v3, v4, h5⟩ := five_list hl5
  rw [h5] at h0
  obtain ⟨y0, y1, y2, y3, y4, m, hy, g0, g1, g2, g3, g4⟩ := trod_fivec Tryz.underlying119 (by kernel_rfl) h0
  have hd := kd_data k hk (x := xs[k].1) (by rw [hx2]; dsimp only; rw [List.getElem?_map, hxi]; rfl)
  rw [hd] at hy
  simp only [DataW.agg.injEq, List.cons.injEq, and_true] at hy
  obtain ⟨z0, z1, z2, z3, z4⟩ := hy
  obtain ⟨s, e0, i0, _⟩ := DataW.trod_string Tryz.underlying9 g0
  obtain ⟨n1, e1, i1, _⟩ := DataW.trod_int Tryz.underlying3 g1
  obtain ⟨n2, e2, i2, _⟩ := DataW.trod_int Tryz.underlying3 g2
  obtain ⟨n3, e3, i3, _⟩ := DataW.trod_int Tryz.underlying3 g3
  obtain ⟨n4, e4, i4, _⟩ := DataW.trod_int Tryz.underlying3 g4
  simp only [List.cons.injEq, and_true] at e0 e1 e2 e3 e4
  rw [i0] at z0
  rw [i1] at z1
  rw [i2] at z2
  rw [i3] at z3
  rw [i4] at z4
  simp only [DataW.lit.injEq, Lit.string.injEq, Lit.int.injEq, true_and] at z0 z1 z2 z3 z4
  have hs : s = kdW k := by unfold kdW; rw [z0]
  have hc := fun t => World.var?_cell gKinds hv (k * 5 + t)
  have ht : ∀ t c, [v0, v1, v2, v3, v4][t]? = some c → t < 5 → W.cell? ⟨1, k * 5 + t, none⟩ = some c := fun t c h1 h2 => by
    rw [hc t, ← Array.getElem?_toList]
    exact five_at h5 h1 h2
  exact ⟨by rw [← hs, ← e0]; exact ht 0 _ rfl (by omega), by rw [z1, ← e1]; exact ht 1 _ rfl (by omega), by rw [z2, ← e2]; exact ht 2 _ rfl (by omega), by rw [z3, ← e3]; exact ht 3 _ rfl (by omega), by rw [z4, ← e4]; exact ht 4 _ rfl (by omega)⟩
theorem kinds_of {W : World} (h : laidMetH Tryz.prog [("loop.example/g00644/impl.instrKinds", Rows.laid_loop_example_g00644_impl_instrKinds)] W) : Kinds W := by
  rw [MakeChecks.laidMetH_plain _ _ _ (by kernel_rfl)] at h
  obtain ⟨ps, ⟨g0, t0, cs0, f0, p0, q0, hg0, ht0, hv0, hd0, _⟩, _⟩ := h
  obtain rfl := Option.some.inj (gKinds.symm.trans hg0)
  obtain rfl := Option.some.inj (tKinds.symm.trans ht0)
  exact kinds_reads hv0 hd0
end Go.Proofs.YtgpmpfikeindfaaGreatDoor
