/- What the row's list of the table of conditions gives. -/
import Derived.Test.YtiidkhfigifmjaaGreatDoorU30
import Derived.Test.YtiidkhfigifmjaaGreatDoorRows
import Derived.LaidMore
import Derived.Stop.Joined
import Derived.OpenShut
import Derived.Test.YtiidkhfigifmjaaGreatDoorU00
import Derived.Test.YtiidkhfigifmjaaGreatDoorU01
import Derived.Test.YtiidkhfigifmjaaGreatDoorU44
import Derived.Test.YtiidkhfigifmjaaGreatDoorU42
import Derived.Test.YtiidkhfigifmjaaGreatDoorU02
import Derived.Test.YtiidkhfigifmjaaGreatDoorU26
namespace Go.Proofs.YtiidkhfigifmjaaGreatDoor
open Go.ChangeShapes Go.WideShapes Go.ChangeAt Go.RowKit
set_option linter.unusedVariables false
set_option linter.unusedSimpArgs false

section
variable {H : Type} {enc : TypeId × Value → H} {P : Program} {w : World} {base : Nat} {spare : Nat → Bool} {held : Bool}
theorem trod_twocz {t : TypeId} {f0 f1 : Field} {fuel : Nat} {c0 c1 : Value} {x : DataW H × List MemPlace} (hs : P.underlying t = some (.struct #[f0, f1])) (o0 : f0.offset = 0) (o1 : f1.offset = 1) (k0 : P.cellsOf f0.type = 1) (k1 : P.cellsOf f1.type = 1) (h : DataW.trod enc P w base spare held fuel t [c0, c1] = some x) :
    ∃ (y0 y1 : DataW H × List MemPlace) (n : Nat), x.1 = .agg [y0.1, y1.1] ∧ DataW.trod enc P w base spare held n f0.type [c0] = some y0 ∧ DataW.trod enc P w base spare held n f1.type [c1] = some y1 := by
  obtain ⟨xs, n, _, rfl, hl, hlen, hf⟩ := DataW.trod_struct hs h
  match xs, hlen with
  | [y0, y1], _ => exact ⟨y0, y1, n, by simp, by simpa [o0, k0] using hf 0 f0 rfl, by simpa [o1, k1] using hf 1 f1 rfl⟩
end
theorem gCondsz : Tryz.prog.globalNamed "loop.example/g00644/impl.conditions" = some 2 := by kernel_rfl
theorem tCondsz : (Tryz.prog.globals[2]?).map (·.type) = some 158 := by kernel_rfl
theorem cd_dataz (k : Nat) (hk : k < 8) {x : DataW Unit} (h : (match (Rows.laid_loop_example_g00644_impl_conditions : DataW Unit) with | .agg l => l | _ => [])[k]? = some x) : x = .agg [.lit (.int .i64 (cdF k : Int)), .lit (.int .i64 (cdW k : Int))] := by
  rcases (by omega : k = 0 ∨ k = 1 ∨ k = 2 ∨ k = 3 ∨ k = 4 ∨ k = 5 ∨ k = 6 ∨ k = 7) with rfl | rfl | rfl | rfl | rfl | rfl | rfl | rfl
  all_goals exact (Option.some.inj h).symm
theorem conds_readsz {W : World} {held : Bool} {cs : Array Value} {fuel : Nat} {p : List MemPlace} (hv : World.var? Tryz.prog W "loop.example/g00644/impl.conditions" = some cs)
    (h : DataW.trod (fun _ => ()) Tryz.prog W 0 (fun _ => true) held fuel 158 cs.toList = some (Rows.laid_loop_example_g00644_impl_conditions, p)) : Conds W := by
  obtain ⟨xs, m1, rfl, hx1, hlen, hn, hel⟩ := DataW.trod_array Tryz.underlying158 h
  have c1 : Tryz.prog.cellsOf 157 = 2 := by kernel_rfl
  have c2 : Tryz.prog.cellsOf 158 = 16 := by kernel_rfl
  have hx2 := congrArg Prod.fst hx1
  dsimp only at hx2
  intro k hk
  have h0 := hel k hk
  rw [c1] at h0
  have hxi : xs[k]? = some xs[k] := List.getElem?_eq_getElem (by omega)
  rw [hxi] at h0
  have hl2 : ((cs.toList.drop (k * 2)).take 2).length = 2 := by
    rw [List.length_take, List.length_drop, hlen, c2]
    omega
  obtain ⟨v0, v1, h5⟩ : ∃ v0 v1, (cs.toList.drop (k * 2)).take 2 = [v0, v1] := by
    match hq : (cs.toList.drop (k * 2)).take 2, hl2 with
    | [v0, v1], _ => exact ⟨v0, v1, rfl⟩
  rw [h5] at h0
  obtain ⟨y0, y1, m, hy, g0, g1⟩ := trod_twocz Tryz.underlying157 rfl rfl (by kernel_rfl) (by kernel_rfl) h0
  have hd := cd_dataz k hk (x := xs[k].1) (by rw [hx2]; dsimp only; rw [List.getElem?_map, hxi]; rfl)
  rw [hd] at hy
  simp only [DataW.agg.injEq, List.cons.injEq, and_true] at hy
  obtain ⟨z0, z1⟩ := hy
  obtain ⟨n0, e0, i0, _⟩ := DataW.trod_int Tryz.underlying3 g0
  obtain ⟨n1, e1, i1, _⟩ := DataW.trod_int Tryz.underlying3 g1
  simp only [List.cons.injEq, and_true] at e0 e1
  rw [i0] at z0
  rw [i1] at z1
  simp only [DataW.lit.injEq, Lit.int.injEq, true_and] at z0 z1
  have ht : ∀ t c, [v0, v1][t]? = some c → t < 2 → W.cell? ⟨2, k * 2 + t, none⟩ = some c := fun t c h1 h2 => by
    rw [World.var?_cell gCondsz hv (k * 2 + t), ← Array.getElem?_toList]
    have h3 := congrArg (·[t]?) h5
    simp only [List.getElem?_take, List.getElem?_drop] at h3
    rw [if_pos h2] at h3
    rw [h3, h1]
  exact ⟨by rw [z0, ← e0]; exact ht 0 _ rfl (by omega), by rw [z1, ← e1]; exact ht 1 _ rfl (by omega)⟩
theorem condh_ofz {W : World} (h : laidMetH Tryz.prog [("loop.example/g00644/impl.conditions", Rows.laid_loop_example_g00644_impl_conditions)] W) : Conds W := by
  rw [MakeChecks.laidMetH_plain _ _ _ (by kernel_rfl)] at h
  obtain ⟨ps, ⟨g0, t0, cs0, f0, p0, q0, hg0, ht0, hv0, hd0, _⟩, _⟩ := h
  obtain rfl := Option.some.inj (gCondsz.symm.trans hg0)
  obtain rfl := Option.some.inj (tCondsz.symm.trans ht0)
  exact conds_readsz hv0 hd0
end Go.Proofs.YtiidkhfigifmjaaGreatDoor

/- How long a cycle is: what the specification and the program answer. -/
namespace Go.Proofs.YtiidkhfigifmjaaGreatDoor
open Go.ChangeShapes Go.WideShapes Go.ChangeAt Go.RowKit
set_option linter.unusedVariables false
set_option linter.unusedSimpArgs false

theorem hidL {p : Prop} (h : p) : Hid p := h
def lenI (k : Int) : Int := if k = 1 ∨ k = 4 ∨ k = 5 then 4 else 3
def len2 (k : Int) : Value := if inB k 1 5 = true then .tuple #[.int .i64 (lenI k), .int .i64 0] else .tuple #[.int .i64 0, .int .i64 4]
theorem five_of {k : Int} (h : inB k 1 5 = true) : k = 1 ∨ k = 2 ∨ k = 3 ∨ k = 4 ∨ k = 5 := by
  simp [inB] at h
  omega
def tmI (k : Nat) : Int := if k = 0 then 0 else lenI k
/-- the program's table of lengths, in its block -/
def Times (w : World) : Prop := ∀ k, k < 6 → w.cell? ⟨0, k, none⟩ = some (.int .i64 (tmI k))
theorem Times.below {w w' : World} (h : Times w) (hb : Below w.heap.size w w') : Times w' := fun k hk => by
  rw [hb.cell (p := ⟨0, k, none⟩) (World.block_lt_of_cell? w _ (h k hk))]
  exact h k hk
theorem withinL_impl (n a b : Int) (w : World) : Calls Tryz.prog 49 #[.int .i64 n, .int .i64 a, .int .i64 b] w fun e w' => e = .returned (.bool (inB n a b)) ∧ w' = w := by
  go_enter Tryz.func49, Tryz.ntmps49
  go_wp2
  all_goals go_ret
  all_goals exact ⟨ret_bool (by rw [Bool.eq_iff_iff]; simp [inB]; try omega), rfl⟩
theorem length_impl (k : Int) (w : World) (hT : Times w) : Calls Tryz.prog 16 #[.int .i64 k] w fun e w' => e = .returned (len2 k) ∧ w' = w := by
  cases h : inB k 1 5
  · have e : len2 k = .tuple #[.int .i64 0, .int .i64 4] := by unfold len2; rw [h]; rfl
    rw [e]
    clear e
    replace hT := hidL hT
    go_enter Tryz.func16, Tryz.ntmps16
    go_wp2_with (go_at_call 49; refine (withinL_impl _ _ _ _).mono ?_; rintro e w' ⟨rfl, rfl⟩; rw [h])
    go_ret2
    exact ⟨rfl, rfl⟩
  · have t1 := hT 1 (by omega)
    have t2 := hT 2 (by omega)
    have t3 := hT 3 (by omega)
    have t4 := hT 4 (by omega)
    have t5 := hT 5 (by omega)
    replace hT := hidL hT
    rcases five_of h with rfl | rfl | rfl | rfl | rfl
    all_goals
      go_enter Tryz.func16, Tryz.ntmps16
      go_wp2_with (go_at_call 49; refine (withinL_impl _ _ _ _).mono ?_; rintro e w' ⟨rfl, rfl⟩; rw [h])
      go_ret2
      exact ⟨rfl, rfl⟩
end Go.Proofs.YtiidkhfigifmjaaGreatDoor

/- What the row's list of the table of lengths gives. -/
namespace Go.Proofs.YtiidkhfigifmjaaGreatDoor
open Go.ChangeShapes Go.WideShapes Go.ChangeAt Go.RowKit
set_option linter.unusedVariables false

theorem gTimes : Tryz.prog.globalNamed "loop.example/g00644/impl.cycleTimes" = some 0 := by kernel_rfl
theorem tTimes : (Tryz.prog.globals[0]?).map (·.type) = some 84 := by kernel_rfl
theorem times_reads {W : World} {held : Bool} {cs : Array Value} {fuel : Nat} {p : List MemPlace} (hv : World.var? Tryz.prog W "loop.example/g00644/impl.cycleTimes" = some cs)
    (h : DataW.trod (fun _ => ()) Tryz.prog W 0 (fun _ => true) held fuel 84 cs.toList = some (Rows.laid_loop_example_g00644_impl_cycleTimes, p)) : Times W := by
  obtain ⟨xs, m1, rfl, hx1, hlen, hn, hel⟩ := DataW.trod_array Tryz.underlying84 h
  have c1 : Tryz.prog.cellsOf 3 = 1 := by kernel_rfl
  have hd : xs.map (·.1) = [(.lit (.int .i64 0) : DataW Unit), .lit (.int .i64 4), .lit (.int .i64 3), .lit (.int .i64 3), .lit (.int .i64 4), .lit (.int .i64 4)] := by
    have := congrArg Prod.fst hx1
    simp only [Rows.laid_loop_example_g00644_impl_cycleTimes, DataW.agg.injEq] at this
    exact this.symm
  intro i hi
  have h0 := hel i hi
  rw [c1, Nat.mul_one] at h0
  have hxi : xs[i]? = some xs[i] := List.getElem?_eq_getElem (by omega)
  rw [hxi] at h0
  obtain ⟨n, e1, e2, _⟩ := DataW.trod_int Tryz.underlying3 h0
  have hcs : cs[i]? = some (.int .i64 n) := by
    have := congrArg (·[0]?) e1
    simpa [List.getElem?_take, List.getElem?_drop] using this
  rw [World.var?_cell gTimes hv i, hcs]
  have hz : (xs.map (·.1))[i]? = some (DataW.lit (.int .i64 (tmI i)) : DataW Unit) := by
    rw [hd]
    rcases (by omega : i = 0 ∨ i = 1 ∨ i = 2 ∨ i = 3 ∨ i = 4 ∨ i = 5) with rfl | rfl | rfl | rfl | rfl | rfl <;> rfl
  rw [List.getElem?_map, hxi, e2] at hz
  simp at hz
  rw [hz]
theorem times_of {W : World} (h : laidMetH Tryz.prog [("loop.example/g00644/impl.cycleTimes", Rows.laid_loop_example_g00644_impl_cycleTimes)] W) : Times W := by
  rw [MakeChecks.laidMetH_plain _ _ _ (by kernel_rfl)] at h
  obtain ⟨ps, ⟨g0, t0, cs0, f0, p0, q0, hg0, ht0, hv0, hd0, _⟩, _⟩ := h
  obtain rfl := Option.some.inj (gTimes.symm.trans hg0)
  obtain rfl := Option.some.inj (tTimes.symm.trans ht0)
  exact times_reads hv0 hd0
end Go.Proofs.YtiidkhfigifmjaaGreatDoor

/- What the rows' lists of the program's tables give, together. -/
namespace Go.Proofs.YtiidkhfigifmjaaGreatDoor
open Go.ChangeShapes Go.WideShapes Go.ChangeAt Go.RowKit
set_option linter.unusedVariables false

theorem laid_split {P : Program} {n : String} {d : DataW Unit} {r : List (String × DataW Unit)} {w : World} (h : laidMet P ((n, d) :: r) w) : laidMet P [(n, d)] w ∧ laidMet P r w := by
  obtain ⟨ps, ⟨g, t, cs, fuel, p, q, h1, h2, h3, h4, h5, rfl⟩, hnd, hc⟩ := h
  have hs := List.nodup_append.1 hnd
  refine ⟨⟨MemPlace.row ⟨g, 0, none⟩ cs.size ++ p ++ [], ⟨g, t, cs, fuel, p, [], h1, h2, h3, h4, rfl, rfl⟩, by rw [List.append_nil]; exact hs.1, fun b off hm => hc b off (List.mem_append.2 (.inl (by rwa [List.append_nil] at hm)))⟩, ⟨q, h5, hs.2.1, fun b off hm => hc b off (List.mem_append.2 (.inr hm))⟩⟩
theorem step3_of {W : World} (h : laidMetH Tryz.prog [("loop.example/g00644/impl.copiedFlags", Rows.laid_loop_example_g00644_impl_copiedFlags), ("loop.example/g00644/impl.instrKinds", Rows.laid_loop_example_g00644_impl_instrKinds), ("loop.example/g00644/impl.conditions", Rows.laid_loop_example_g00644_impl_conditions)] W) : Flags W ∧ Kinds W ∧ Conds W := by
  rw [MakeChecks.laidMetH_plain _ _ _ (by kernel_rfl)] at h
  obtain ⟨h0, h⟩ := laid_split h
  obtain ⟨h1, h2⟩ := laid_split h
  exact ⟨flags_of (by rw [MakeChecks.laidMetH_plain _ _ _ (by kernel_rfl)]; exact h0), kinds_of (by rw [MakeChecks.laidMetH_plain _ _ _ (by kernel_rfl)]; exact h1), condh_ofz (by rw [MakeChecks.laidMetH_plain _ _ _ (by kernel_rfl)]; exact h2)⟩
theorem step4_of {W : World} (h : laidMetH Tryz.prog [("loop.example/g00644/impl.copiedFlags", Rows.laid_loop_example_g00644_impl_copiedFlags), ("loop.example/g00644/impl.instrKinds", Rows.laid_loop_example_g00644_impl_instrKinds), ("loop.example/g00644/impl.cycleTimes", Rows.laid_loop_example_g00644_impl_cycleTimes), ("loop.example/g00644/impl.conditions", Rows.laid_loop_example_g00644_impl_conditions)] W) : Flags W ∧ Kinds W ∧ Conds W ∧ Times W := by
  rw [MakeChecks.laidMetH_plain _ _ _ (by kernel_rfl)] at h
  obtain ⟨h0, h⟩ := laid_split h
  obtain ⟨h1, h⟩ := laid_split h
  obtain ⟨h3, h2⟩ := laid_split h
  exact ⟨flags_of (by rw [MakeChecks.laidMetH_plain _ _ _ (by kernel_rfl)]; exact h0), kinds_of (by rw [MakeChecks.laidMetH_plain _ _ _ (by kernel_rfl)]; exact h1), condh_ofz (by rw [MakeChecks.laidMetH_plain _ _ _ (by kernel_rfl)]; exact h2), times_of (by rw [MakeChecks.laidMetH_plain _ _ _ (by kernel_rfl)]; exact h3)⟩
end Go.Proofs.YtiidkhfigifmjaaGreatDoor

/- A region that draws its order: its slots are kept by name, the rest of the state by what is said of the operations done. -/
namespace Go.Proofs.YtiidkhfigifmjaaGreatDoor
open Go.ChangeShapes Go.WideShapes Go.ChangeAt Go.RowKit
set_option linter.unusedVariables false

def arrOf (n : Nat) (f : Nat → Bool) : Array Bool := ((List.range n).map f).toArray
theorem arrOf_get (n : Nat) (f : Nat → Bool) (i : Nat) (d : Bool) : (arrOf n f).getD i d = if i < n then f i else d := by
  rw [getD_list]
  show ((List.range n).map f).getD i d = _
  rw [List.getD_eq_getElem?_getD, List.getElem?_map]
  by_cases h : i < n
  · rw [List.getElem?_range h, if_pos h]; rfl
  · rw [List.getElem?_eq_none (by simpa using h), if_neg h]; rfl
theorem arrOf_set (n : Nat) (f : Nat → Bool) (i : Nat) : (arrOf n f).setIfInBounds i true = arrOf n (fun j => j == i || f j) := by
  apply Array.ext_getElem?
  intro j
  rw [Array.getElem?_setIfInBounds]
  have hs : ∀ g, (arrOf n g).size = n := fun g => by simp [arrOf]
  have hg : ∀ g : Nat → Bool, (arrOf n g)[j]? = if j < n then some (g j) else none := fun g => by
    show ((List.range n).map g).toArray[j]? = _
    rw [List.getElem?_toArray, List.getElem?_map]
    by_cases h : j < n
    · rw [List.getElem?_range h, if_pos h]; rfl
    · rw [List.getElem?_eq_none (by simpa using h), if_neg h]; rfl
  rw [hg, hg, hs]
  by_cases e : i = j
  · subst e
    simp
  · rw [if_neg e]
    have : (j == i) = false := by simp; exact fun e2 => e e2.symm
    rw [this]; rfl
theorem arrOf_false (n : Nat) : Array.replicate n false = arrOf n (fun _ => false) := by
  apply Array.ext_getElem?
  intro j
  show (Array.replicate n false)[j]? = ((List.range n).map fun _ => false).toArray[j]?
  rw [Array.getElem?_replicate, List.getElem?_toArray, List.getElem?_map]
  by_cases h : j < n
  · rw [List.getElem?_range h, if_pos h]; rfl
  · rw [List.getElem?_eq_none (by simpa using h), if_neg h]; rfl
/-- the slot that operation i writes -/
def dstAt (ops : Array Oper) (i : Nat) : Option Nat := (ops[i]?).bind (·.dst)
/-- no two operations write one slot -/
def dstOK (ops : Array Oper) : Bool := (List.range ops.size).all fun i => (List.range ops.size).all fun j => i == j || dstAt ops i == none || dstAt ops i != dstAt ops j
theorem dst_apart {ops : Array Oper} (h : dstOK ops = true) {i j s : Nat} (hi : dstAt ops i = some s) (hj : dstAt ops j = some s) : i = j := by
  have lt : ∀ {k}, dstAt ops k = some s → k < ops.size := fun {k} hk => by
    rcases Nat.lt_or_ge k ops.size with h1 | h1
    · exact h1
    · unfold dstAt at hk
      rw [Array.getElem?_eq_none h1] at hk
      cases hk
  have h1 := List.all_eq_true.1 (List.all_eq_true.1 h i (List.mem_range.2 (lt hi))) j (List.mem_range.2 (lt hj))
  rw [hi, hj] at h1
  simpa using h1
/-- what is known of a frame while a region is done -/
structure Fr (ops : Array Oper) (A : Act) (f : Nat → Bool) (V : Nat → Value) (a : Act) : Prop where
  size : a.tmps.size = A.tmps.size
  defers : a.defers = A.defers
  old : ∀ s, (∀ i, dstAt ops i ≠ some s) → a.tmps.getD s undef = A.tmps.getD s undef
  new : ∀ i s, dstAt ops i = some s → f i = true → a.tmps.getD s undef = V i
theorem put_get (a : Act) (k s : Nat) (v : Value) (hk : k < a.tmps.size) : (a.put (some k) v).tmps.getD s undef = if k = s then v else a.tmps.getD s undef := by
  show (a.tmps.setIfInBounds k v).getD s undef = _
  rw [Array.getD_eq_getD_getElem?, Array.getElem?_setIfInBounds]
  by_cases e : k = s
  · subst e
    rw [if_pos rfl, if_pos rfl, if_pos hk]; rfl
  · rw [if_neg e, if_neg e, ← Array.getD_eq_getD_getElem?]
theorem Fr.put {ops : Array Oper} {A : Act} {f : Nat → Bool} {V V' : Nat → Value} {a : Act} (h : Fr ops A f V a) (hd : dstOK ops = true) (hin : ∀ i s, dstAt ops i = some s → s < A.tmps.size) {i : Nat} {o : Oper} (ho : ops[i]? = some o) (hf : f i = false) {v : Value} (hv : v = V' i) (hV : ∀ j, f j = true → V' j = V j) :
    Fr ops A (fun j => j == i || f j) V' (a.put o.dst v) := by
  have hdi : dstAt ops i = o.dst := by unfold dstAt; rw [ho]; rfl
  cases hds : o.dst with
  | none =>
    refine ⟨h.size, h.defers, h.old, fun j s hj hfj => ?_⟩
    have hne : (j == i) = false := by
      simp
      intro e
      rw [e, hdi, hds] at hj
      cases hj
    have hfj : (j == i || f j) = true := hfj
    rw [hne] at hfj
    have hfj : f j = true := hfj
    rw [hV j hfj]
    exact h.new j s hj hfj
  | some k =>
    have hk : k < a.tmps.size := by rw [h.size]; exact hin i k (by rw [hdi, hds])
    refine ⟨by show (a.tmps.setIfInBounds k v).size = _; rw [Array.size_setIfInBounds]; exact h.size, h.defers, fun s hs => ?_, fun j s hj hfj => ?_⟩
    · rw [put_get a k s v hk, if_neg (fun e => hs i (by rw [hdi, hds, e]))]
      exact h.old s hs
    · rw [put_get a k s v hk]
      by_cases e : k = s
      · subst e
        have : i = j := dst_apart hd (by rw [hdi, hds]) hj
        subst this
        rw [if_pos rfl, hv]
      · rw [if_neg e]
        have hne : (j == i) = false := by
          simp
          intro e2
          rw [e2, hdi, hds] at hj
          exact e (Option.some.inj hj)
        have hfj : (j == i || f j) = true := hfj
        rw [hne] at hfj
        have hfj : f j = true := hfj
        rw [hV j hfj]
        exact h.new j s hj hfj
theorem wp_region_slots {P : Program} {ops : Array Oper} {Q : Exit → Act → World → Prop} {id : Nat} {A : Act} {w1 : World} {E : Type} (V : Nat → E → Value) (J : (Nat → Bool) → E → World → Prop) (hm : P.follows .mixedOrders = true) (hac : acyc .any ops = true) (hd : dstOK ops = true) (hin : ∀ i s, dstAt ops i = some s → s < A.tmps.size)
    (step : ∀ (f : Nat → Bool) (e : E) (a : Act) (w : World) (i : Nat) (o : Oper), i < ops.size → ops[i]? = some o → f i = false → (∀ d ∈ o.after, Region.binds .any d = true → f d.on = true) → J f e w → Fr ops A f (fun j => V j e) a →
      ∀ K : Act → World → Prop, (∀ v e' w', v = V i e' → (∀ j, f j = true → V j e' = V j e) → J (fun j => j == i || f j) e' w' → K (a.put o.dst v) w') → if Region.wanted o (yielded ops a.tmps) = true then Oper.wp P o a w K Q else K (a.put o.dst undef) w)
    (e0 : E) (start : J (fun _ => false) e0 w1.drew)
    (done : ∀ (f : Nat → Bool) (e : E) (a : Act) (w : World), (∀ i, i < ops.size → f i = true) → J f e w → Fr ops A f (fun j => V j e) a → Q .normal a w) :
    (Code.region id ops true).wp P Q A w1 := by
  refine wp_region_inv hm (fun listed a w => ∃ f e, listed = arrOf ops.size f ∧ Fr ops A f (fun j => V j e) a ∧ J f e w) ?_ hac ?_ ?_ ?_
  · rintro listed a w i o ⟨f, e, rfl, hF, hJ⟩ hun ho hdep K hK
    have hi : i < ops.size := (Array.getElem?_eq_some_iff.1 ho).1
    rw [arrOf_get, if_pos hi] at hun
    refine step f e a w i o hi ho hun (fun d hd1 hd2 => ?_) hJ hF K (fun v e' w' hv hV hJ' => hK _ _ ⟨_, e', arrOf_set _ _ _, hF.put hd hin ho hun (V' := fun j => V j e') hv hV, hJ'⟩)
    have := hdep d hd1 hd2
    rw [arrOf_get] at this
    split at this
    · exact this
    · cases this
  · rintro listed a w ⟨f, e, rfl, _⟩
    simp [arrOf]
  · rintro listed a w ⟨f, e, rfl, hF, hJ⟩ hall
    refine done f e a w (fun i hi => ?_) hJ hF
    have := hall i hi
    rw [arrOf_get, if_pos hi] at this
    exact this
  · exact ⟨fun _ => false, e0, arrOf_false _, ⟨rfl, rfl, fun _ _ => rfl, fun i s _ h => by cases h⟩, start⟩
/-- the frame behind the region -/
theorem Fr.eq {ops : Array Oper} {A : Act} {f : Nat → Bool} {V : Nat → Value} {a : Act} (h : Fr ops A f V a) (L : List (Nat × Value)) (hL : ∀ s, (∀ i, dstAt ops i ≠ some s) → lookA L s = none) (hN : ∀ i s, dstAt ops i = some s → f i = true ∧ lookA L s = some (V i)) : a = putsA A L := by
  have ht : a.tmps = (putsA A L).tmps := by
    apply Array.ext
    · rw [h.size, putsA_size]
    · intro k h1 h2
      have hk : k < A.tmps.size := by rw [← h.size]; exact h1
      have e1 : a.tmps.getD k undef = a.tmps[k] := by simp [Array.getD, h1]
      have e2 : (putsA A L).tmps.getD k undef = (putsA A L).tmps[k] := by simp [Array.getD, h2]
      rw [← e1, ← e2, putsA_get A k hk L]
      by_cases hx : ∃ i, dstAt ops i = some k
      · obtain ⟨i, hi⟩ := hx
        rw [(hN i k hi).2, h.new i k hi (hN i k hi).1]
        rfl
      · have hno : ∀ i, dstAt ops i ≠ some k := fun i hi => hx ⟨i, hi⟩
        rw [hL k hno, h.old k hno]
        rfl
  have hdf : a.defers = (putsA A L).defers := by rw [h.defers, putsA_defers]
  cases a
  cases hp : putsA A L
  rw [hp] at ht hdf
  simp only at ht hdf
  rw [ht, hdf]
end Go.Proofs.YtiidkhfigifmjaaGreatDoor

/- What the laws do with a processor: copied, held against another. -/
namespace Go.Proofs.YtiidkhfigifmjaaGreatDoor
open Go.ChangeShapes Go.WideShapes Go.ChangeAt Go.RowKit
set_option linter.unusedVariables false
set_option linter.unusedSimpArgs false

abbrev rgA (c : Cu) : Array Value := #[.int .i64 c.r0, .int .i64 c.r1, .int .i64 c.r2, .int .i64 c.r3, .int .i64 c.r4, .int .i64 c.r5, .int .i64 c.r6, .int .i64 c.r7]
abbrev rgV (c : Cu) : Value := .agg (rgA c)
theorem eight {k : Nat} (h : k < 8) : k = 0 ∨ k = 1 ∨ k = 2 ∨ k = 3 ∨ k = 4 ∨ k = 5 ∨ k = 6 ∨ k = 7 := by omega
def rgZ (c : Cu) (k i : Nat) : Value := .int .i64 (if i < k then c.reg i else 0)
def pt8 (c : Cu) (k : Nat) : Array Value := #[rgZ c k 0, rgZ c k 1, rgZ c k 2, rgZ c k 3, rgZ c k 4, rgZ c k 5, rgZ c k 6, rgZ c k 7]
abbrev z8 : Array Value := #[.int .i64 0, .int .i64 0, .int .i64 0, .int .i64 0, .int .i64 0, .int .i64 0, .int .i64 0, .int .i64 0]
theorem pt8_zero (c : Cu) : pt8 c 0 = z8 := rfl
theorem pt8_all (c : Cu) : pt8 c 8 = rgA c := rfl
theorem pt8_succ (c : Cu) (k : Nat) (hk : k < 8) : (pt8 c k).setIfInBounds k (.int .i64 (c.reg k)) = pt8 c (k + 1) := by
  rcases eight hk with rfl | rfl | rfl | rfl | rfl | rfl | rfl | rfl <;> rfl
theorem pt8_at (c : Cu) (k : Nat) (hk : k < 8) : (pt8 c k)[k]? = some (.int .i64 0) := by
  rcases eight hk with rfl | rfl | rfl | rfl | rfl | rfl | rfl | rfl <;> rfl
theorem rgA_at (c : Cu) (k : Nat) (hk : k < 8) : (rgA c)[k]? = some (.int .i64 (c.reg k)) := by
  rcases eight hk with rfl | rfl | rfl | rfl | rfl | rfl | rfl | rfl <;> rfl
set_option maxRecDepth 100000 in
theorem toa (c : Cu) (w : World) : Calls Tryz.prog 55 #[rgV c] w fun e w' => e = .returned (rgV c) ∧ Below w.heap.size w w' := by
  have hs := hid (Tri.start w (rgA c) z8 (pt8 c 0) 23 23 23)
  rw [pt8_zero] at hs
  go_enter Tryz.func55, Tryz.ntmps55
  go_wp2
  go_loopw [4] (fun i wr => ∃ k : Nat, k ≤ 8 ∧ i = .int .i64 k ∧ Tri w wr (rgA c) z8 (pt8 c k)) (fun i _ => 8 - (intOf i).toNat)
  case atStart => exact ⟨0, by omega, rfl, hs.out⟩
  case round =>
    obtain ⟨k, hk, rfl, hS⟩ := hrel
    clear hs
    by_cases hlt : k < 8
    · have x0 := hS.q0.cell k
      rw [rgA_at c k hlt] at x0
      have x2 := hS.q2.cell k
      rw [pt8_at c k hlt] at x2
      have f2 := hS.q2.frozen k
      have hn := hid (hS.put k (.int .i64 (c.reg k)))
      rw [pt8_succ c k hlt] at hn
      clear hS
      generalize c.reg k = y at *
      go_wp2
      go_roundw
      case rel => exact ⟨k + 1, by omega, by go_num, hn.out⟩
      case measure => simp [intOf]; omega
    · obtain rfl : k = 8 := by omega
      rw [pt8_all] at hS
      have x1 := hS.q1.cell
      have f1 := hS.q1.frozen
      have x2 := hS.q2.cell
      have hb := hid hS.bel
      clear hS
      go_wp2
      refine bodyPost_ret (v := rgV c) (by simp [results, Tryz.results55, go_sem, x1]) rfl ⟨rfl, ?_⟩
      iterate 8 refine Below.setCell ?_ (by first | omega | (simp; done) | (simp; omega)) _
      exact hb.out
set_option maxRecDepth 100000 in
theorem eqa_yes (c : Cu) (w : World) : Calls Tryz.prog 58 #[rgV c, rgV c] w fun e w' => e = .returned (.bool true) ∧ Below w.heap.size w w' := by
  have hs := hid (two_in (w := w) (rgA c) (rgA c) 23 23)
  go_enter Tryz.func58, Tryz.ntmps58
  go_wp2
  go_loopw [5] (fun i wr => ∃ k : Nat, k ≤ 8 ∧ i = .int .i64 k ∧ Blk wr w.heap.size (rgA c) ∧ Blk wr (w.heap.size + 1) (rgA c) ∧ Below w.heap.size w wr) (fun i _ => 8 - (intOf i).toNat)
  case atStart => exact ⟨0, by omega, rfl, hs.out⟩
  case round =>
    obtain ⟨k, hk, rfl, q0, q1, hB⟩ := hrel
    clear hs
    by_cases hlt : k < 8
    · have x0 := q0.cell k
      rw [rgA_at c k hlt] at x0
      have x1 := q1.cell k
      rw [rgA_at c k hlt] at x1
      have hn : Hid (Blk wr.drew w.heap.size (rgA c) ∧ Blk wr.drew (w.heap.size + 1) (rgA c) ∧ Below w.heap.size w wr.drew) := ⟨q0, q1, hB.drew⟩
      clear q0 q1 hB
      generalize c.reg k = y at *
      go_wp2
      go_region
      go_wp2
      go_roundw
      case rel => exact ⟨k + 1, by omega, by go_num, hn.out⟩
      case measure => simp [intOf]; omega
    · obtain rfl : k = 8 := by omega
      replace hB := hid hB
      clear q0 q1
      go_wp2
      go_ret
      exact ⟨rfl, hB.out⟩
set_option maxRecDepth 100000 in
set_option maxHeartbeats 1000000 in
theorem toc (c : Cu) (w : World) : Calls Tryz.prog 20 #[cuV c] w fun e w' => e = .returned (cuV c) ∧ Below w.heap.size w w' := by
  have hs := hid (Tri.start w (cuA c) zeC zeC 53 25 25)
  have x0 := hs.out.q0.cell
  go_enter Tryz.func20, Tryz.ntmps20
  go_upto_region 2 with fail
  obtain ⟨V, hV⟩ : ∃ V, (((w.alloc (.cells (cuA c) 53)).alloc (.cells zeC 25)).alloc (.cells zeC 25)) = V := ⟨_, rfl⟩
  rw [hV] at hs x0 ⊢
  clear hV
  go_wp2_with fail
  refine (toa c V).mono ?_
  rintro e w1 ⟨rfl, hb⟩
  have h1 := hid (hs.out.below hb)
  have y0 := h1.out.q0.cell
  have y1 := h1.out.q1.cell
  have y2 := h1.out.q2.cell
  have g1 := h1.out.q1.frozen
  have g2 := h1.out.q2.frozen
  have l1 := h1.out.q1.lt
  have l2 := h1.out.q2.lt
  have hB := hid h1.out.bel
  clear hs x0 hb h1
  go_wp2
  refine bodyPost_ret (v := cuV c) (by simp [results, Tryz.results20, go_sem, y1, y2]) rfl ⟨rfl, ?_⟩
  repeat refine Below.setCell ?_ (by first | omega | (simp; done) | (simp; omega)) _
  exact hB.out
set_option maxRecDepth 100000 in
set_option maxHeartbeats 1000000 in
theorem eqc_yes (c : Cu) (w : World) : Calls Tryz.prog 22 #[cuV c, cuV c] w fun e w' => e = .returned (.bool true) ∧ Below w.heap.size w w' := by
  have hs := hid (two_in (w := w) (cuA c) (cuA c) 25 25)
  have x0 := hs.out.1.cell
  have x1 := hs.out.2.1.cell
  go_enter Tryz.func22, Tryz.ntmps22
  go_upto_region 1 with fail
  obtain ⟨V, hV⟩ : ∃ V, ((w.alloc (.cells (cuA c) 25)).alloc (.cells (cuA c) 25)) = V := ⟨_, rfl⟩
  rw [hV] at hs x0 x1 ⊢
  clear hV
  go_wp2_with fail
  refine (eqa_yes c V).mono ?_
  rintro e w1 ⟨rfl, hb⟩
  have y0 := (hs.out.1.below hb hs.out.1.lt).cell
  have y1 := (hs.out.2.1.below hb hs.out.2.1.lt).cell
  have hB := hid (hs.out.2.2.trans (hb.mono hs.out.2.2.size))
  clear hs x0 x1 hb
  go_wp2
  go_ret
  exact ⟨rfl, hB.out⟩
end Go.Proofs.YtiidkhfigifmjaaGreatDoor
