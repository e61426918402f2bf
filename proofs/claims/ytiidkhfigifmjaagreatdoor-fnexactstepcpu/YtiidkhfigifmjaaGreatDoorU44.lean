/- What is asked of the answers of a call on a processor in the exact laws: they are small; marks are laid into them. -/
import Derived.Test.YtiidkhfigifmjaaGreatDoorJlu
import Derived.Test.YtiidkhfigifmjaaGreatDoorJru
import Derived.Test.YtiidkhfigifmjaaGreatDoorU42
import Derived.Test.YtiidkhfigifmjaaGreatDoorMeu
import Derived.Test.YtiidkhfigifmjaaGreatDoorU05
import Derived.Test.YtiidkhfigifmjaaGreatDoorU27
import Derived.LaidMore
import Derived.OpenShut
import Derived.Stop.Joined
import Derived.Test.YtiidkhfigifmjaaGreatDoorU36
import Derived.Deep.Matrix
import Derived.Lib.SmallJoins
namespace Go.Proofs.YtiidkhfigifmjaaGreatDoor
open Go.ChangeShapes Go.WideShapes Go.ChangeAt Go.RowKit
set_option linter.unusedVariables false
set_option linter.unusedSimpArgs false

theorem mem0_smallq : Small mem0 := ⟨Nat.zero_le _, Nat.zero_le _, Nat.zero_le _⟩
theorem small_ok {M : Mem} (h : okM M = true) : Small M := by
  obtain ⟨k1, k2, k3, k4, k5⟩ := ok_parts h
  have hl := bytes_len k1
  have hb : ∀ i, i < 4 → (M.ram.getD i []).length = 64 := fun i hi => bytes_len (k5 i (by omega))
  refine ⟨by omega, by omega, ?_⟩
  have p1 := pre_succ M.ram 0 (by omega)
  have p2 := pre_succ M.ram 1 (by omega)
  have p3 := pre_succ M.ram 2 (by omega)
  have p4 := pre_succ M.ram 3 (by omega)
  rw [hb 0 (by omega), pre_zero] at p1
  rw [hb 1 (by omega)] at p2
  rw [hb 2 (by omega)] at p3
  rw [hb 3 (by omega)] at p4
  simp only [Nat.zero_add, Nat.reduceAdd] at p1 p2 p3 p4
  rw [k2]
  omega
/-- things that lie apart, all of them made since w -/
structure StF (w W : World) (L : List Thing) : Prop where
  sts : Sts W L
  bel : Below w.heap.size w W
  far : ∀ t, t ∈ L → ∀ b, t.dom b → w.heap.size ≤ b
theorem StF.at {w W : World} {L : List Thing} (h : StF w W L) (i : Nat) {t : Thing} (e : L[i]? = some t) : t.say W := h.sts.at i e
theorem StF.below {w W W' : World} {L : List Thing} (h : StF w W L) (hb : Below W.heap.size W W') : StF w W' L := ⟨h.sts.below hb, new_trans h.bel hb, h.far⟩
theorem StF.nil (w : World) : StF w w [] := ⟨Sts.nil _, Below.refl _ _, fun t h => by cases h⟩
theorem StF.box {w W : World} {L : List Thing} (h : StF w W L) (A : Array Value) (t : TypeId) : StF w (W.alloc (.cells A t)) (tBox W.heap.size A :: L) :=
  ⟨h.sts.box A t, h.bel.alloc h.bel.size _, fun s hs b hd => by
    rcases List.mem_cons.1 hs with rfl | hs
    · have : b = W.heap.size := hd
      rw [this]; exact h.bel.size
    · exact h.far s hs b hd⟩
theorem StF.mem {w W W' : World} {L : List Thing} {v : Value} {M : Mem} (h : StF w W L) (hb : Below W.heap.size W W') (hm : MemO W' W.heap.size W'.heap.size v M) : StF w W' (tMem W.heap.size W'.heap.size v M :: L) :=
  ⟨h.sts.mem hb hm, new_trans h.bel hb, fun s hs b hd => by
    rcases List.mem_cons.1 hs with rfl | hs
    · exact Nat.le_trans h.bel.size hd.1
    · exact h.far s hs b hd⟩
theorem StF.turn {w W W' : World} {L : List Thing} (h : StF w W L) (i : Nat) {t : Thing} {say' : World → Prop} (e : L[i]? = some t) (hs : W.heap.size ≤ W'.heap.size) (ho : W'.os = W.os ∧ W'.tape = W.tape ∧ W'.output = W.output) (hk : ∀ b, b < W.heap.size → ¬ t.dom b → W'.heap[b]? = W.heap[b]?) (ht : Sits W' ⟨t.dom, say'⟩) : StF w W' (L.set i ⟨t.dom, say'⟩) := by
  have hmem := List.mem_of_getElem? e
  refine ⟨h.sts.turn i e hs hk ht, ⟨ho.1.trans h.bel.os, ho.2.1.trans h.bel.tape, ho.2.2.trans h.bel.output, Nat.le_trans h.bel.size hs, fun k hk2 => ?_⟩, fun s hs2 b hd => ?_⟩
  · have hz := h.bel.size
    rw [hk k (by omega) (fun hd => by have := h.far t hmem k hd; omega)]
    exact h.bel.block k hk2
  · obtain ⟨j, hj, rfl⟩ := List.getElem_of_mem hs2
    rw [List.length_set] at hj
    by_cases e2 : i = j
    · subst e2
      rw [List.getElem_set_self] at hd
      exact h.far t hmem b hd
    · rw [List.getElem_set_ne e2] at hd
      exact h.far L[j] (List.getElem_mem hj) b hd
theorem StF.touch {w W W' : World} {L : List Thing} (h : StF w W L) (i : Nat) {lo hi : Nat} {v : Value} {M M' : Mem} (e : L[i]? = some (tMem lo hi v M)) (ht : Touch lo hi W W') (hm : MemO W' lo hi v M') : StF w W' (L.set i (tMem lo hi v M')) := by
  have hl := h.sts.has i e
  refine h.turn i e ht.size ⟨ht.os, ht.tape, ht.output⟩ (fun b hb hn => ht.block b hb (by show b < lo ∨ hi ≤ b; have : ¬ (lo ≤ b ∧ b < hi) := hn; omega)) ⟨hm, fun b hb => ?_, fun W2 hk => hm.kept (fun b h0 h1 => hk b ⟨h0, h1⟩)⟩
  exact Nat.lt_of_lt_of_le (hl.lt b hb) ht.size
theorem StF.mark {w W W' : World} {L : List Thing} (h : StF w W L) (i : Nat) {v : Value} {l l' : List (Nat × Nat × Nat)} (e : L[i]? = some (tCyc v l)) (hm : CyO W' v l') (hg : W.grownBy W' v.ownBlock) : StF w W' (L.set i (tCyc v l')) :=
  h.turn i e hg.size ⟨hg.os, hg.tape, hg.output⟩ (fun b hb hn => hg.block b hb (fun e2 => hn e2.symm)) (sits_cyc hm)
theorem WI.stf {w w1 w' : World} {X : Mx} {u cv : Value} {lo hi b6 b7 : Nat} {mA : Array Value} {L0 : List Thing} (h : WI w1 w' true true true true true X u cv lo hi b6 b7 mA) (h0 : StF w w1 L0) : StF w w' (tCyc cv X.cy :: tMem lo hi u X.m :: tBox b6 (cpA X.c) :: tBox b7 mA :: L0) :=
  ⟨h.done h0.sts, new_trans h0.bel h.bel, fun t ht b hd => by
    have ht : t ∈ wiL true true true true true X u cv lo hi b6 b7 mA ++ L0 := ht
    rcases List.mem_append.1 ht with ht | ht
    · exact Nat.le_trans h0.bel.size (h.far t ht b hd)
    · exact h0.far t ht b hd⟩
set_option maxRecDepth 100000 in
theorem int_small {c : Cu} {M : Mem} (h : Small M) : Small (intX c M).m := by
  unfold intX
  split
  · rename_i hb
    have hb : okC c = true ∧ okM M = true := by simpa using hb
    split
    · exact h
    · have hp : c.cp.pc < 256 := (okC_cp hb.1).2.2.2.2.2.2.2.2.2.2
      have hq : inB ((c.cp.pc : Nat) : Int) 0 255 = true := in_yes (by omega) (by omega)
      have hr : okM (intM c.cp M).m = true := poke_ok hb.2 hq
      exact small_ok hr
  · exact mem0_smallq
theorem int_len (c : Cu) (M : Mem) : (intX c M).cy.length ≤ 1000 := by
  unfold intX
  split
  · split
    · exact Nat.zero_le _
    · show ([_] ++ [_] : List (Nat × Nat × Nat)).length ≤ 1000
      simp
  · exact Nat.zero_le _
theorem stp_inv {c : Cu} {M : Mem} {n : Int} (hb : (okC c && okM M) = true) (hn : inB n 0 255 = true) : Inv M (1, c.cp.pc, peekN M c.cp.pc) 4 (stepM c.cp M n.toNat) := by
  have hb : okC c = true ∧ okM M = true := by simpa using hb
  have := inB_bd hn
  exact step_inv (okC_cp hb.1).2 hb.2 (by omega)
theorem stp_small {c : Cu} {M : Mem} {n : Int} (h : Small M) : Small (stpX c M n).m := by
  unfold stpX
  split
  · rename_i hb
    split
    · rename_i hn
      exact small_ok (stp_inv hb hn).m
    · exact mem0_smallq
  · exact mem0_smallq
theorem stp_len (c : Cu) (M : Mem) (n : Int) : (stpX c M n).cy.length ≤ 1000 := by
  unfold stpX
  split
  · rename_i hb
    split
    · rename_i hn
      exact Nat.le_trans (stp_inv hb hn).len (by omega)
    · exact Nat.zero_le _
  · exact Nat.zero_le _
theorem MemO.none {W W' : World} {lo hi lo' hi' : Nat} {v : Value} {M : Mem} (h : MemO W lo hi v M) (hh : hi ≤ lo) : MemO W' lo' hi' v M := by
  rcases h with h | ⟨vr, vm, r, s, G, e, h1, h2, b1, b2, _⟩
  · exact .inl h
  · omega
theorem markm' (v : Value) (M : Mem) (m : Int) (lo hi : Nat) (w : World) (h : Sits w (tMem lo hi v M)) (hs : Small M) (hm0 : 0 ≤ m) (hm1 : m ≤ 10000000) :
    Calls Tryz.prog 25 #[v, .int .i64 m] w fun e w' => e = .returned (.int .i64 (m + (cntM M : Nat))) ∧ MemO w' lo hi v (markM M m) ∧ Touch lo hi w w' := by
  by_cases hh : lo < hi
  · exact markm v M m lo hi w h.now (by have := h.lt (hi - 1) ⟨by omega, by omega⟩; omega) hs hm0 hm1
  · refine (markm v M m 0 0 w (h.now.none (by omega)) (Nat.zero_le _) hs hm0 hm1).mono ?_
    rintro e w' ⟨h1, h2, h3⟩
    exact ⟨h1, h2.none (Nat.le_refl _), ⟨h3.os, h3.tape, h3.output, h3.size, fun k hk _ => h3.block k hk (.inr (Nat.zero_le _))⟩⟩
end Go.Proofs.YtiidkhfigifmjaaGreatDoor

/- What the row's list of the table of flags gives: its cells hold the document's flags. -/
namespace Go.Proofs.YtiidkhfigifmjaaGreatDoor
open Go.ChangeShapes Go.WideShapes Go.ChangeAt Go.RowKit
set_option linter.unusedVariables false

theorem gFlags : Tryz.prog.globalNamed "loop.example/g00644/impl.copiedFlags" = some 3 := by kernel_rfl
theorem tFlags : (Tryz.prog.globals[3]?).map (·.type) = some 163 := by kernel_rfl

theorem flags_of {W : World} (h : laidMetH Tryz.prog [("loop.example/g00644/impl.copiedFlags", Rows.laid_loop_example_g00644_impl_copiedFlags)] W) : Flags W := by
  rw [MakeChecks.laidMetH_plain _ _ _ (by kernel_rfl)] at h
  obtain ⟨ps, ⟨g0, t0, cs0, f0, p0, q0, hg0, ht0, hv0, hd0, _⟩, _⟩ := h
  obtain rfl := Option.some.inj (gFlags.symm.trans hg0)
  obtain rfl := Option.some.inj (tFlags.symm.trans ht0)
  obtain ⟨xs, m1, rfl, hx1, hlen, hn, hel⟩ := DataW.trod_array Tryz.underlying163 hd0
  have c1 : Tryz.prog.cellsOf 3 = 1 := by kernel_rfl
  have hd : xs.map (·.1) = [(.lit (.int .i64 128) : DataW Unit), .lit (.int .i64 32), .lit (.int .i64 8)] := by
    have := congrArg Prod.fst hx1
    simp only [Rows.laid_loop_example_g00644_impl_copiedFlags, DataW.agg.injEq] at this
    exact this.symm
  have key : ∀ i (hi : i < 3) (z : Int), (xs.map (·.1))[i]? = some (DataW.lit (.int .i64 z) : DataW Unit) → W.cell? ⟨3, i, none⟩ = some (.int .i64 z) := by
    intro i hi z hz
    have h0 := hel i hi
    rw [c1, Nat.mul_one] at h0
    have hxi : xs[i]? = some xs[i] := List.getElem?_eq_getElem (by omega)
    rw [hxi] at h0
    obtain ⟨n, e1, e2, _⟩ := DataW.trod_int Tryz.underlying3 h0
    have hcs : cs0[i]? = some (.int .i64 n) := by
      have := congrArg (·[0]?) e1
      simpa [List.getElem?_take, List.getElem?_drop] using this
    rw [World.var?_cell gFlags hv0 i, hcs]
    rw [List.getElem?_map, hxi, e2] at hz
    simp at hz
    rw [hz]
  exact ⟨key 0 (by omega) 128 (by rw [hd]; rfl), key 1 (by omega) 32 (by rw [hd]; rfl), key 2 (by omega) 8 (by rw [hd]; rfl)⟩
end Go.Proofs.YtiidkhfigifmjaaGreatDoor

/- What the laws do with an instruction: it comes in, is copied, is held against another; and what the row's list of the table of kinds gives. -/
namespace Go.Proofs.YtiidkhfigifmjaaGreatDoor
open Go.ChangeShapes Go.WideShapes Go.ChangeAt Go.RowKit Go.Joins Go.Deep
set_option linter.unusedVariables false
set_option linter.unusedSimpArgs false

section
variable {H : Type} {enc : TypeId × Value → H} {P : Program} {w : World} {base : Nat} {spare : Nat → Bool} {held : Bool}
theorem arr5 {α : Type} {cs : Array α} (h : cs.size = 5) : ∃ c0 c1 c2 c3 c4, cs = #[c0, c1, c2, c3, c4] := by
  obtain ⟨l⟩ := cs
  match l, h with
  | [c0, c1, c2, c3, c4], _ => exact ⟨c0, c1, c2, c3, c4, rfl⟩
theorem trod_five {t : TypeId} {f0 f1 f2 f3 f4 : Field} {fuel : Nat} {cs : List Value} {x : DataW H × List MemPlace} (ht : P.underlying t = some (.struct #[f0, f1, f2, f3, f4])) (h : DataW.trod enc P w base spare held fuel t cs = some x) :
    ∃ y0 y1 y2 y3 y4 n, x.1 = .agg [y0.1, y1.1, y2.1, y3.1, y4.1] ∧ cs.length = P.cellsOf t ∧ DataW.trod enc P w base spare held n f0.type ((cs.drop f0.offset).take (P.cellsOf f0.type)) = some y0 ∧
      DataW.trod enc P w base spare held n f1.type ((cs.drop f1.offset).take (P.cellsOf f1.type)) = some y1 ∧ DataW.trod enc P w base spare held n f2.type ((cs.drop f2.offset).take (P.cellsOf f2.type)) = some y2 ∧
      DataW.trod enc P w base spare held n f3.type ((cs.drop f3.offset).take (P.cellsOf f3.type)) = some y3 ∧ DataW.trod enc P w base spare held n f4.type ((cs.drop f4.offset).take (P.cellsOf f4.type)) = some y4 := by
  obtain ⟨xs, n, _, rfl, hl, hlen, hf⟩ := DataW.trod_struct ht h
  match xs, hlen with
  | [y0, y1, y2, y3, y4], _ => exact ⟨y0, y1, y2, y3, y4, n, by simp, hl, by simpa using hf 0 f0 rfl, by simpa using hf 1 f1 rfl, by simpa using hf 2 f2 rfl, by simpa using hf 3 f3 rfl, by simpa using hf 4 f4 rfl⟩
theorem trod_fivec {t : TypeId} {f0 f1 f2 f3 f4 : Field} {fuel : Nat} {c0 c1 c2 c3 c4 : Value} {x : DataW H × List MemPlace} (hs : P.underlying t = some (.struct #[f0, f1, f2, f3, f4])) (hone : oneCellFields P #[f0, f1, f2, f3, f4] = true) (h : DataW.trod enc P w base spare held fuel t [c0, c1, c2, c3, c4] = some x) :
    ∃ (y0 y1 y2 y3 y4 : DataW H × List MemPlace) (n : Nat), x.1 = .agg [y0.1, y1.1, y2.1, y3.1, y4.1] ∧
      DataW.trod enc P w base spare held n f0.type [c0] = some y0 ∧ DataW.trod enc P w base spare held n f1.type [c1] = some y1 ∧ DataW.trod enc P w base spare held n f2.type [c2] = some y2 ∧ DataW.trod enc P w base spare held n f3.type [c3] = some y3 ∧ DataW.trod enc P w base spare held n f4.type [c4] = some y4 := by
  obtain ⟨y0, y1, y2, y3, y4, n, hx, _, h0, h1, h2, h3, h4⟩ := trod_five hs h
  obtain ⟨o0, k0⟩ := hone_of hone 0 f0 rfl
  obtain ⟨o1, k1⟩ := hone_of hone 1 f1 rfl
  obtain ⟨o2, k2⟩ := hone_of hone 2 f2 rfl
  obtain ⟨o3, k3⟩ := hone_of hone 3 f3 rfl
  obtain ⟨o4, k4⟩ := hone_of hone 4 f4 rfl
  exact ⟨y0, y1, y2, y3, y4, n, hx, by simpa [o0, k0] using h0, by simpa [o1, k1] using h1, by simpa [o2, k2] using h2, by simpa [o3, k3] using h3, by simpa [o4, k4] using h4⟩
theorem five_in {r : Reach} {b0 : Nat} {t : TypeId} {f0 f1 f2 f3 f4 : Field} {v : Value} {d : DataW H} {p : List MemPlace} (hs : P.underlying t = some (.struct #[f0, f1, f2, f3, f4])) (hone : oneCellFields P #[f0, f1, f2, f3, f4] = true) (hC : P.cellsOf t = 5)
    (i0 : P.underlying f0.type = some (.int .i64)) (i1 : P.underlying f1.type = some (.int .i64)) (i2 : P.underlying f2.type = some (.int .i64)) (i3 : P.underlying f3.type = some (.int .i64)) (i4 : P.underlying f4.type = some (.int .i64))
    (hv : Value.okWide P w r b0 t v) (h : DataW.Trod enc P w base spare held t v d p) : ∃ o a b n l : Int, v = insV o a b n l ∧ ((Lit.int .i64 o).wf = true ∧ (Lit.int .i64 a).wf = true ∧ (Lit.int .i64 b).wf = true ∧ (Lit.int .i64 n).wf = true ∧ (Lit.int .i64 l).wf = true) := by
  obtain ⟨cs, rfl, hsz⟩ := okWide_struct hs hv
  obtain ⟨c0, c1, c2, c3, c4, rfl⟩ := arr5 (hsz.trans hC)
  obtain ⟨fuel, hf⟩ := h
  obtain ⟨y0, y1, y2, y3, y4, n, _, h0, h1, h2, h3, h4⟩ := trod_fivec hs hone (by simpa [Value.cells] using hf)
  obtain ⟨o, e0, _, q0⟩ := DataW.trod_int i0 h0
  obtain ⟨a, e1, _, q1⟩ := DataW.trod_int i1 h1
  obtain ⟨b, e2, _, q2⟩ := DataW.trod_int i2 h2
  obtain ⟨m, e3, _, q3⟩ := DataW.trod_int i3 h3
  obtain ⟨l, e4, _, q4⟩ := DataW.trod_int i4 h4
  simp only [List.cons.injEq, and_true] at e0 e1 e2 e3 e4
  exact ⟨o, a, b, m, l, by rw [e0, e1, e2, e3, e4], q0, q1, q2, q3, q4⟩
end
theorem gKinds : Tryz.prog.globalNamed "loop.example/g00644/impl.instrKinds" = some 1 := by kernel_rfl
theorem tKinds : (Tryz.prog.globals[1]?).map (·.type) = some 126 := by kernel_rfl
theorem kd_data (k : Nat) (hk : k < 24) {x : DataW Unit} (h : (match (Rows.laid_loop_example_g00644_impl_instrKinds : DataW Unit) with | .agg l => l | _ => [])[k]? = some x) : x = .agg [.lit (.string (kdWL.getD k [])), .lit (.int .i64 (kdN k)), .lit (.int .i64 (kdA k)), .lit (.int .i64 (kdB k)), .lit (.int .i64 (kdT k))] := by
  have hk2 : k = 0 ∨ k = 1 ∨ k = 2 ∨ k = 3 ∨ k = 4 ∨ k = 5 ∨ k = 6 ∨ k = 7 ∨ k = 8 ∨ k = 9 ∨ k = 10 ∨ k = 11 ∨ k = 12 ∨ k = 13 ∨ k = 14 ∨ k = 15 ∨ k = 16 ∨ k = 17 ∨ k = 18 ∨ k = 19 ∨ k = 20 ∨ k = 21 ∨ k = 22 ∨ k = 23 := by omega
  rcases hk2 with rfl | rfl | rfl | rfl | rfl | rfl | rfl | rfl | rfl | rfl | rfl | rfl | rfl | rfl | rfl | rfl | rfl | rfl | rfl | rfl | rfl | rfl | rfl | rfl
  all_goals exact (Option.some.inj h).symm
theorem five_list {α : Type} {l : List α} (h : l.length = 5) : ∃ c0 c1 c2 c3 c4, l = [c0, c1, c2, c3, c4] := by
  match l, h with
  | [c0, c1, c2, c3, c4], _ => exact ⟨c0, c1, c2, c3, c4, rfl⟩
theorem five_at {l : List Value} {j t : Nat} {c : Value} {cs : List Value} (h : (l.drop j).take 5 = cs) (hc : cs[t]? = some c) (ht : t < 5) : l[j + t]? = some c := by
  have h1 := congrArg (·[t]?) h
  simp only [List.getElem?_take, List.getElem?_drop] at h1
  rw [if_pos ht] at h1
  rw [h1, hc]
theorem kinds_reads {W : World} {held : Bool} {cs : Array Value} {fuel : Nat} {p : List MemPlace} (hv : World.var? Tryz.prog W "loop.example/g00644/impl.instrKinds" = some cs)
    (h : DataW.trod (fun _ => ()) Tryz.prog W 0 (fun _ => true) held fuel 126 cs.toList = some (Rows.laid_loop_example_g00644_impl_instrKinds, p)) : Kinds W := by
  obtain ⟨xs, m1, rfl, hx1, hlen, hn, hel⟩ := DataW.trod_array Tryz.underlying126 h
  have c1 : Tryz.prog.cellsOf 125 = 5 := by kernel_rfl
  have c2 : Tryz.prog.cellsOf 126 = 120 := by kernel_rfl
  have hx2 := congrArg Prod.fst hx1
  dsimp only at hx2
  intro k hk
  have h0 := hel k hk
  rw [c1] at h0
  have hxi : xs[k]? = some xs[k] := List.getElem?_eq_getElem (by omega)
  rw [hxi] at h0
  have hl5 : ((cs.toList.drop (k * 5)).take 5).length = 5 := by
    rw [List.length_take, List.length_drop, hlen, c2]
    omega
  obtain ⟨v0, v1, v2, v3, v4, h5⟩ := five_list hl5
  rw [h5] at h0
  obtain ⟨y0, y1, y2, y3, y4, m, hy, g0, g1, g2, g3, g4⟩ := trod_fivec Tryz.underlying125 (by kernel_rfl) h0
  have hd := kd_data k hk (x := xs[k].1) (by rw [hx2]; dsimp only; rw [List.getElem?_map, hxi]; rfl)
  rw [hd] at hy
  simp only [DataW.agg.injEq, List.cons.injEq, and_true] at hy
  obtain ⟨z0, z1, z2, z3, z4⟩ := hy
  obtain ⟨s, e0, i0, _⟩ := DataW.trod_string Tryz.underlying9 g0
  obtain ⟨n1, e1, i1, _⟩ := DataW.trod_int Tryz.underlying3 g1
  obtain ⟨n2, e2, i2, _⟩ := DataW.trod_int Tryz.underlying3 g2
  obtain ⟨n3, e3, i3, _⟩ := DataW.trod_int Tryz.underlying3 g3
  obtain ⟨n4, e4, i4, _⟩ := DataW.trod_int Tryz.underlying3 g4
  simp only [List.cons.injEq, and_true] at e0 e1 e2 e3 e4
  rw [i0] at z0
  rw [i1] at z1
  rw [i2] at z2
  rw [i3] at z3
  rw [i4] at z4
  simp only [DataW.lit.injEq, Lit.string.injEq, Lit.int.injEq, true_and] at z0 z1 z2 z3 z4
  have hs : s = kdW k := by unfold kdW; rw [z0]
  have hc := fun t => World.var?_cell gKinds hv (k * 5 + t)
  have ht : ∀ t c, [v0, v1, v2, v3, v4][t]? = some c → t < 5 → W.cell? ⟨1, k * 5 + t, none⟩ = some c := fun t c h1 h2 => by
    rw [hc t, ← Array.getElem?_toList]
    exact five_at h5 h1 h2
  exact ⟨by rw [← hs, ← e0]; exact ht 0 _ rfl (by omega), by rw [z1, ← e1]; exact ht 1 _ rfl (by omega), by rw [z2, ← e2]; exact ht 2 _ rfl (by omega), by rw [z3, ← e3]; exact ht 3 _ rfl (by omega), by rw [z4, ← e4]; exact ht 4 _ rfl (by omega)⟩
theorem kinds_of {W : World} (h : laidMetH Tryz.prog [("loop.example/g00644/impl.instrKinds", Rows.laid_loop_example_g00644_impl_instrKinds)] W) : Kinds W := by
  rw [MakeChecks.laidMetH_plain _ _ _ (by kernel_rfl)] at h
  obtain ⟨ps, ⟨g0, t0, cs0, f0, p0, q0, hg0, ht0, hv0, hd0, _⟩, _⟩ := h
  obtain rfl := Option.some.inj (gKinds.symm.trans hg0)
  obtain rfl := Option.some.inj (tKinds.symm.trans ht0)
  exact kinds_reads hv0 hd0
end Go.Proofs.YtiidkhfigifmjaaGreatDoor
