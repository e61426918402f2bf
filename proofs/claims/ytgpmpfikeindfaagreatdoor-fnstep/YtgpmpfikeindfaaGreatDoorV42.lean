/- What the row's list of the table of conditions gives. -/
import Derived.Test.YtgpmpfikeindfaaGreatDoorV27
import Derived.Test.YtgpmpfikeindfaaGreatDoorRows
import Derived.LaidMore
import Derived.Stop.Joined
import Derived.OpenShut
import Derived.Test.YtgpmpfikeindfaaGreatDoorV00
import Derived.Test.YtgpmpfikeindfaaGreatDoorV41
import Derived.Deep.RegionHeld3
namespace Go.Proofs.YtgpmpfikeindfaaGreatDoor
open Go.ChangeShapes Go.WideShapes Go.ChangeAt Go.RowKit
set_option linter.unusedVariables false
set_option linter.unusedSimpArgs false

section
variable {H : Type} {enc : TypeId × Value → H} {P : Program} {w : World} {base : Nat} {spare : Nat → Bool} {held : Bool}
theorem trod_twocz {t : TypeId} {f0 f1 : Field} {fuel : Nat} {c0 c1 : Value} {x : DataW H × List MemPlace} (hs : P.underlying t = some (.struct #[f0, f1])) (o0 : f0.offset = 0) (o1 : f1.offset = 1) (k0 : P.cellsOf f0.type = 1) (k1 : P.cellsOf f1.type = 1) (h : DataW.trod enc P w base spare held fuel t [c0, c1] = some x) :
    ∃ (y0 y1 : DataW H × List MemPlace) (n : Nat), x.1 = .agg [y0.1, y1.1] ∧ DataW.trod enc P w base spare held n f0.type [c0] = some y0 ∧ DataW.trod enc P w base spare held n f1.type [c1] = some y1 := by
  obtain ⟨xs, n, _, rfl, hl, hlen, hf⟩ := DataW.trod_struct hs h
  match xs, hlen with
  | [y0, y1], _ => exact ⟨y0, y1, n, by simp, by simpa [o0, k0] using hf 0 f0 rfl, by simpa [o1, k1] using hf 1 f1 rfl⟩
end
theorem gCondsz : Tryz.prog.globalNamed "loop.example/g00644/impl.conditions" = some 2 := by kernel_rfl
theorem tCondsz : (Tryz.prog.globals[2]?).map (·.type) = some 139 := by kernel_rfl
theorem cd_dataz (k : Nat) (hk : k < 8) {x : DataW Unit} (h : (match (Rows.laid_loop_example_g00644_impl_conditions : DataW Unit) with | .agg l => l | _ => [])[k]? = some x) : x = .agg [.lit (.int .i64 (cdF k : Int)), .lit (.int .i64 (cdW k : Int))] := by
  rcases (by omega : k = 0 ∨ k = 1 ∨ k = 2 ∨ k = 3 ∨ k = 4 ∨ k = 5 ∨ k = 6 ∨ k = 7) with rfl | rfl | rfl | rfl | rfl | rfl | rfl | rfl
  all_goals exact (Option.some.inj h).symm
theorem conds_readsz {W : World} {held : Bool} {cs : Array Value} {fuel : Nat} {p : List MemPlace} (hv : World.var? Tryz.prog W "loop.example/g00644/impl.conditions" = some cs)
    (h : DataW.trod (fun _ => ()) Tryz.prog W 0 (fun _ => true) held fuel 139 cs.toList = some (Rows.laid_loop_example_g00644_impl_conditions, p)) : Conds W := by
  obtain ⟨xs, m1, rfl, hx1, hlen, hn, hel⟩ := DataW.trod_array Tryz.underlying139 h
  have c1 : Tryz.prog.cellsOf 138 = 2 := by kernel_rfl
  have c2 : Tryz.prog.cellsOf 139 = 16 := by kernel_rfl
  have hx2 := congrArg Prod.fst hx1
  dsimp only at hx2
  intro k hk
  have h0 := hel k hk
  rw [c1] at h0
  have hxi : xs[k]? = some xs[k] := List.getElem?_eq_getElem (by omega)
  rw [hxi] at h0
  have hl2 : ((cs.toList.drop (k * 2)).take 2).length = 2 := by
    rw [List.length_take, List.length_drop, hlen, c2]
    omega
  obtain ⟨v0, v1, h5⟩ : ∃ v0 v1, (cs.toList.drop (k * 2)).take 2 = [v0, v1] := by
    match hq : (cs.toList.drop (k * 2)).take 2, hl2 with
    | [v0, v1], _ => exact ⟨v0, v1, rfl⟩
  rw [h5] at h0
  obtain ⟨y0, y1, m, hy, g0, g1⟩ := trod_twocz Tryz.underlying138 rfl rfl (by kernel_rfl) (by kernel_rfl) h0
  have hd := cd_dataz k hk (x := xs[k].1) (by rw [hx2]; dsimp only; rw [List.getElem?_map, hxi]; rfl)
  rw [hd] at hy
  simp only [DataW.agg.injEq, List.cons.injEq, and_true] at hy
  obtain ⟨z0, z1⟩ := hy
  obtain ⟨n0, e0, i0, _⟩ := DataW.trod_int Tryz.underlying3 g0
  obtain ⟨n1, e1, i1, _⟩ := DataW.trod_int Tryz.underlying3 g1
  simp only [List.cons.injEq, and_true] at e0 e1
  rw [i0] at z0
  rw [i1] at z1
  simp only [DataW.lit.injEq, Lit.int.injEq, true_and] at z0 z1
  have ht : ∀ t c, [v0, v1][t]? = some c → t < 2 → W.cell? ⟨2, k * 2 + t, none⟩ = some c := fun t c h1 h2 => by
    rw [World.var?_cell gCondsz hv (k * 2 + t), ← Array.getElem?_toList]
    have h3 := congrArg (·[t]?) h5
    simp only [List.getElem?_take, List.getElem?_drop] at h3
    rw [if_pos h2] at h3
    rw [h3, h1]
  exact ⟨by rw [z0, ← e0]; exact ht 0 _ rfl (by omega), by rw [z1, ← e1]; exact ht 1 _ rfl (by omega)⟩
theorem condh_ofz {W : World} (h : laidMetH Tryz.prog [("loop.example/g00644/impl.conditions", Rows.laid_loop_example_g00644_impl_conditions)] W) : Conds W := by
  rw [MakeChecks.laidMetH_plain _ _ _ (by kernel_rfl)] at h
  obtain ⟨ps, ⟨g0, t0, cs0, f0, p0, q0, hg0, ht0, hv0, hd0, _⟩, _⟩ := h
  obtain rfl := Option.some.inj (gCondsz.symm.trans hg0)
  obtain rfl := Option.some.inj (tCondsz.symm.trans ht0)
  exact conds_readsz hv0 hd0
end Go.Proofs.YtgpmpfikeindfaaGreatDoor

/- How long a cycle is: what the specification and the program answer. -/
namespace Go.Proofs.YtgpmpfikeindfaaGreatDoor
open Go.ChangeShapes Go.WideShapes Go.ChangeAt Go.RowKit
set_option linter.unusedVariables false
set_option linter.unusedSimpArgs false

theorem hidK {p : Prop} (h : p) : Hid p := h
def lenI (k : Int) : Int := if k = 1 ∨ k = 4 ∨ k = 5 then 4 else 3
def lenK2 (k : Int) : Value := if inB k 1 5 = true then .tuple #[.int .i64 (lenI k), .int .i64 0] else .tuple #[.int .i64 0, .int .i64 4]
theorem fiveK_of {k : Int} (h : inB k 1 5 = true) : k = 1 ∨ k = 2 ∨ k = 3 ∨ k = 4 ∨ k = 5 := by
  simp [inB] at h
  omega
def tmI (k : Nat) : Int := if k = 0 then 0 else lenI k
/-- the program's table of lengths, in its block -/
def Times (w : World) : Prop := ∀ k, k < 6 → w.cell? ⟨0, k, none⟩ = some (.int .i64 (tmI k))
theorem Times.below {w w' : World} (h : Times w) (hb : Below w.heap.size w w') : Times w' := fun k hk => by
  rw [hb.cell (p := ⟨0, k, none⟩) (World.block_lt_of_cell? w _ (h k hk))]
  exact h k hk
theorem withinT_impl (n a b : Int) (w : World) : Calls Tryz.prog 33 #[.int .i64 n, .int .i64 a, .int .i64 b] w fun e w' => e = .returned (.bool (inB n a b)) ∧ w' = w := by
  go_enter Tryz.func33, Tryz.ntmps33
  go_wp2
  all_goals go_ret
  all_goals exact ⟨ret_bool (by rw [Bool.eq_iff_iff]; simp [inB]; try omega), rfl⟩
theorem length_impl (k : Int) (w : World) (hT : Times w) : Calls Tryz.prog 14 #[.int .i64 k] w fun e w' => e = .returned (lenK2 k) ∧ w' = w := by
  cases h : inB k 1 5
  · have e : lenK2 k = .tuple #[.int .i64 0, .int .i64 4] := by unfold lenK2; rw [h]; rfl
    rw [e]
    clear e
    replace hT := hidK hT
    go_enter Tryz.func14, Tryz.ntmps14
    go_wp2_with (go_at_call 33; refine (withinT_impl _ _ _ _).mono ?_; rintro e w' ⟨rfl, rfl⟩; rw [h])
    go_ret2
    exact ⟨rfl, rfl⟩
  · have t1 := hT 1 (by omega)
    have t2 := hT 2 (by omega)
    have t3 := hT 3 (by omega)
    have t4 := hT 4 (by omega)
    have t5 := hT 5 (by omega)
    replace hT := hidK hT
    rcases fiveK_of h with rfl | rfl | rfl | rfl | rfl
    all_goals
      go_enter Tryz.func14, Tryz.ntmps14
      go_wp2_with (go_at_call 33; refine (withinT_impl _ _ _ _).mono ?_; rintro e w' ⟨rfl, rfl⟩; rw [h])
      go_ret2
      exact ⟨rfl, rfl⟩
end Go.Proofs.YtgpmpfikeindfaaGreatDoor

/- What the row's list of the table of lengths gives. -/
namespace Go.Proofs.YtgpmpfikeindfaaGreatDoor
open Go.ChangeShapes Go.WideShapes Go.ChangeAt Go.RowKit
set_option linter.unusedVariables false

theorem gTimes : Tryz.prog.globalNamed "loop.example/g00644/impl.cycleTimes" = some 0 := by kernel_rfl
theorem tTimes : (Tryz.prog.globals[0]?).map (·.type) = some 70 := by kernel_rfl
theorem times_reads {W : World} {held : Bool} {cs : Array Value} {fuel : Nat} {p : List MemPlace} (hv : World.var? Tryz.prog W "loop.example/g00644/impl.cycleTimes" = some cs)
    (h : DataW.trod (fun _ => ()) Tryz.prog W 0 (fun _ => true) held fuel 70 cs.toList = some (Rows.laid_loop_example_g00644_impl_cycleTimes, p)) : Times W := by
  obtain ⟨xs, m1, rfl, hx1, hlen, hn, hel⟩ := DataW.trod_array Tryz.underlying70 h
  have c1 : Tryz.prog.cellsOf 3 = 1 := by kernel_rfl
  have hd : xs.map (·.1) = [(.lit (.int .i64 0) : DataW Unit), .lit (.int .i64 4), .lit (.int .i64 3), .lit (.int .i64 3), .lit (.int .i64 4), .lit (.int .i64 4)] := by
    have := congrArg Prod.fst hx1
    simp only [Rows.laid_loop_example_g00644_impl_cycleTimes, DataW.agg.injEq] at this
    exact this.symm
  intro i hi
  have h0 := hel i hi
  rw [c1, Nat.mul_one] at h0
  have hxi : xs[i]? = some xs[i] := List.getElem?_eq_getElem (by omega)
  rw [hxi] at h0
  obtain ⟨n, e1, e2, _⟩ := DataW.trod_int Tryz.underlying3 h0
  have hcs : cs[i]? = some (.int .i64 n) := by
    have := congrArg (·[0]?) e1
    simpa [List.getElem?_take, List.getElem?_drop] using this
  rw [World.var?_cell gTimes hv i, hcs]
  have hz : (xs.map (·.1))[i]? = some (DataW.lit (.int .i64 (tmI i)) : DataW Unit) := by
    rw [hd]
    rcases (by omega : i = 0 ∨ i = 1 ∨ i = 2 ∨ i = 3 ∨ i = 4 ∨ i = 5) with rfl | rfl | rfl | rfl | rfl | rfl <;> rfl
  rw [List.getElem?_map, hxi, e2] at hz
  simp at hz
  rw [hz]
theorem times_of {W : World} (h : laidMetH Tryz.prog [("loop.example/g00644/impl.cycleTimes", Rows.laid_loop_example_g00644_impl_cycleTimes)] W) : Times W := by
  rw [MakeChecks.laidMetH_plain _ _ _ (by kernel_rfl)] at h
  obtain ⟨ps, ⟨g0, t0, cs0, f0, p0, q0, hg0, ht0, hv0, hd0, _⟩, _⟩ := h
  obtain rfl := Option.some.inj (gTimes.symm.trans hg0)
  obtain rfl := Option.some.inj (tTimes.symm.trans ht0)
  exact times_reads hv0 hd0
end Go.Proofs.YtgpmpfikeindfaaGreatDoor

/- What the rows' lists of the program's tables give, together. -/
namespace Go.Proofs.YtgpmpfikeindfaaGreatDoor
open Go.ChangeShapes Go.WideShapes Go.ChangeAt Go.RowKit
set_option linter.unusedVariables false

theorem laid_split {P : Program} {n : String} {d : DataW Unit} {r : List (String × DataW Unit)} {w : World} (h : laidMet P ((n, d) :: r) w) : laidMet P [(n, d)] w ∧ laidMet P r w := by
  obtain ⟨ps, ⟨g, t, cs, fuel, p, q, h1, h2, h3, h4, h5, rfl⟩, hnd, hc⟩ := h
  have hs := List.nodup_append.1 hnd
  refine ⟨⟨MemPlace.row ⟨g, 0, none⟩ cs.size ++ p ++ [], ⟨g, t, cs, fuel, p, [], h1, h2, h3, h4, rfl, rfl⟩, by rw [List.append_nil]; exact hs.1, fun b off hm => hc b off (List.mem_append.2 (.inl (by rwa [List.append_nil] at hm)))⟩, ⟨q, h5, hs.2.1, fun b off hm => hc b off (List.mem_append.2 (.inr hm))⟩⟩
theorem step3_of {W : World} (h : laidMetH Tryz.prog [("loop.example/g00644/impl.copiedFlags", Rows.laid_loop_example_g00644_impl_copiedFlags), ("loop.example/g00644/impl.instrKinds", Rows.laid_loop_example_g00644_impl_instrKinds), ("loop.example/g00644/impl.conditions", Rows.laid_loop_example_g00644_impl_conditions)] W) : Flags W ∧ Kinds W ∧ Conds W := by
  rw [MakeChecks.laidMetH_plain _ _ _ (by kernel_rfl)] at h
  obtain ⟨h0, h⟩ := laid_split h
  obtain ⟨h1, h2⟩ := laid_split h
  exact ⟨flags_of (by rw [MakeChecks.laidMetH_plain _ _ _ (by kernel_rfl)]; exact h0), kinds_of (by rw [MakeChecks.laidMetH_plain _ _ _ (by kernel_rfl)]; exact h1), condh_ofz (by rw [MakeChecks.laidMetH_plain _ _ _ (by kernel_rfl)]; exact h2)⟩
theorem step4_of {W : World} (h : laidMetH Tryz.prog [("loop.example/g00644/impl.copiedFlags", Rows.laid_loop_example_g00644_impl_copiedFlags), ("loop.example/g00644/impl.instrKinds", Rows.laid_loop_example_g00644_impl_instrKinds), ("loop.example/g00644/impl.cycleTimes", Rows.laid_loop_example_g00644_impl_cycleTimes), ("loop.example/g00644/impl.conditions", Rows.laid_loop_example_g00644_impl_conditions)] W) : Flags W ∧ Kinds W ∧ Conds W ∧ Times W := by
  rw [MakeChecks.laidMetH_plain _ _ _ (by kernel_rfl)] at h
  obtain ⟨h0, h⟩ := laid_split h
  obtain ⟨h1, h⟩ := laid_split h
  obtain ⟨h3, h2⟩ := laid_split h
  exact ⟨flags_of (by rw [MakeChecks.laidMetH_plain _ _ _ (by kernel_rfl)]; exact h0), kinds_of (by rw [MakeChecks.laidMetH_plain _ _ _ (by kernel_rfl)]; exact h1), condh_ofz (by rw [MakeChecks.laidMetH_plain _ _ _ (by kernel_rfl)]; exact h2), times_of (by rw [MakeChecks.laidMetH_plain _ _ _ (by kernel_rfl)]; exact h3)⟩
end Go.Proofs.YtgpmpfikeindfaaGreatDoor

/- A region that draws its order: what every operation keeps holds at its end, whatever the order. -/
namespace Go.Proofs.YtgpmpfikeindfaaGreatDoor
open Go.ChangeShapes Go.WideShapes Go.ChangeAt Go.RowKit
set_option linter.unusedVariables false

theorem count_set : ∀ (l : List Bool) (i : Nat), l.getD i true = false → (l.set i true).count false + 1 = l.count false := by
  intro l
  induction l with
  | nil => intro i h; simp at h
  | cons b t ih =>
    intro i h
    cases i with
    | zero =>
      have : b = false := by simpa using h
      subst this
      simp
    | succ i =>
      have := ih i (by simpa using h)
      cases b <;> simp [List.set_cons_succ] <;> omega
theorem count_zero : ∀ (l : List Bool) (i : Nat), l.count false = 0 → l.getD i true = true := by
  intro l
  induction l with
  | nil => intro i _; simp
  | cons b t ih =>
    intro i h
    cases b
    · simp at h
    · cases i with
      | zero => rfl
      | succ i => simpa using ih i (by simpa using h)
section
variable {P : Program} {ops : Array Oper} {Q : Exit → Act → World → Prop} {md : Region.Mode}
theorem getD_list (l : Array Bool) (i : Nat) (d : Bool) : l.getD i d = l.toList.getD i d := by
  rw [Array.getD_eq_getD_getElem?, List.getD_eq_getElem?_getD, Array.getElem?_toList]
theorem any_inv (I : Array Bool → Act → World → Prop)
    (step : ∀ (listed : Array Bool) (a : Act) (w : World) (i : Nat) (o : Oper), I listed a w → listed.getD i true = false → ops[i]? = some o → (∀ e ∈ o.after, Region.binds md e = true → listed.getD e.on false = true) →
      ∀ K' : Act → World → Prop, (∀ a' w', I (listed.setIfInBounds i true) a' w' → K' a' w') → if Region.wanted o (yielded ops a.tmps) = true then Oper.wp P o a w K' Q else K' (a.put o.dst undef) w)
    (done : ∀ (listed : Array Bool) (a : Act) (w : World), I listed a w → Region.ready md ops listed = [] → Q .normal a w) :
    ∀ (fuel : Nat) (listed : Array Bool) (a : Act) (w : World), I listed a w → listed.toList.count false ≤ fuel → wpAny P md ops Q fuel listed a w := by
  intro fuel
  induction fuel with
  | zero =>
    intro listed a w hI hc
    have hr : Region.ready md ops listed = [] := by
      rw [List.eq_nil_iff_forall_not_mem]
      intro j hj
      have h1 := (mem_ready.1 hj).1
      rw [getD_list, count_zero _ _ (by omega)] at h1
      cases h1
    exact ⟨hr, done _ _ _ hI hr⟩
  | succ fuel ih =>
    intro listed a w hI hc
    refine ⟨fun hr => done _ _ _ hI hr, fun i hi => ?_⟩
    obtain ⟨h1, o, ho, hd⟩ := mem_ready.1 hi
    refine wpOp_step ho (fun K' hK => step listed a w i o hI h1 ho hd K' (fun a' w' hI' => hK a' w' (ih _ a' w' hI' ?_)))
    rw [getD_list] at h1
    have := count_set listed.toList i h1
    rw [Array.toList_setIfInBounds]
    omega
/-- each operation waits for earlier ones alone -/
def acyc (md : Region.Mode) (ops : Array Oper) : Bool := (List.range ops.size).all fun i => match ops[i]? with
  | some o => o.after.all fun e => !Region.binds md e || decide (e.on < i)
  | none => true
theorem ready_nil_all {listed : Array Bool} (hac : acyc md ops = true) (hs : listed.size = ops.size) (hr : Region.ready md ops listed = []) : ∀ i, i < ops.size → listed.getD i false = true := by
  intro i
  induction i using Nat.strongRecOn with
  | ind i ih =>
    intro hi
    have hi2 : i < listed.size := by omega
    have e1 : ∀ d, listed.getD i d = listed[i] := fun d => by simp [Array.getD, hi2]
    cases hb : listed[i] with
    | true => rw [e1, hb]
    | false =>
      have hm : i ∈ Region.ready md ops listed := by
        refine mem_ready.2 ⟨by rw [e1, hb], ops[i], Array.getElem?_eq_getElem hi, fun e he hbind => ?_⟩
        have h1 := List.all_eq_true.1 hac i (List.mem_range.2 hi)
        rw [Array.getElem?_eq_getElem hi] at h1
        have h2 := Array.all_eq_true'.1 h1 e he
        rw [hbind] at h2
        have h3 : e.on < i := by simpa using h2
        exact ih e.on h3 (by omega)
      rw [hr] at hm
      cases hm
theorem wp_region_inv {id : Nat} {a : Act} {w : World} (hm : P.follows .mixedOrders = true) (I : Array Bool → Act → World → Prop)
    (step : ∀ (listed : Array Bool) (a : Act) (w : World) (i : Nat) (o : Oper), I listed a w → listed.getD i true = false → ops[i]? = some o → (∀ e ∈ o.after, Region.binds .any e = true → listed.getD e.on false = true) →
      ∀ K' : Act → World → Prop, (∀ a' w', I (listed.setIfInBounds i true) a' w' → K' a' w') → if Region.wanted o (yielded ops a.tmps) = true then Oper.wp P o a w K' Q else K' (a.put o.dst undef) w)
    (hac : acyc .any ops = true) (size : ∀ listed a w, I listed a w → listed.size = ops.size)
    (done : ∀ (listed : Array Bool) (a : Act) (w : World), I listed a w → (∀ i, i < ops.size → listed.getD i false = true) → Q .normal a w)
    (start : I (Array.replicate ops.size false) a { w with drawn := w.drawn + 1 }) : (Code.region id ops true).wp P Q a w :=
  wp_region_any hm (any_inv I step (fun l a w hI hr => done l a w hI (ready_nil_all hac (size l a w hI) hr)) _ _ _ _ start (by
    have : (Array.replicate ops.size false).toList.length = ops.size := by simp
    exact Nat.le_trans List.count_le_length (by omega)))
end
end Go.Proofs.YtgpmpfikeindfaaGreatDoor

/- Slots of a frame that are written in any order. -/
namespace Go.Proofs.YtgpmpfikeindfaaGreatDoor
set_option linter.unusedVariables false

def putsA (A : Act) : List (Nat × Value) → Act
  | [] => A
  | (i, v) :: t => (putsA A t).put (some i) v
def lookA : List (Nat × Value) → Nat → Option Value
  | [], _ => none
  | (i, v) :: t, k => if i = k then some v else lookA t k
def updA : List (Nat × Value) → Nat → Value → List (Nat × Value)
  | [], _, _ => []
  | (i, u) :: t, k, v => if i = k then (i, v) :: t else (i, u) :: updA t k v
theorem putsA_size (A : Act) : ∀ L, (putsA A L).tmps.size = A.tmps.size := by
  intro L
  induction L with
  | nil => rfl
  | cons x t ih =>
    show ((putsA A t).tmps.setIfInBounds x.1 x.2).size = _
    rw [Array.size_setIfInBounds, ih]
theorem putsA_defers (A : Act) : ∀ L, (putsA A L).defers = A.defers := by
  intro L
  induction L with
  | nil => rfl
  | cons x t ih => exact ih
theorem putsA_get (A : Act) (k : Nat) (hk : k < A.tmps.size) : ∀ L, (putsA A L).tmps.getD k undef = (lookA L k).getD (A.tmps.getD k undef) := by
  intro L
  induction L with
  | nil => rfl
  | cons x t ih =>
    obtain ⟨i, v⟩ := x
    show ((putsA A t).tmps.setIfInBounds i v).getD k undef = ((if i = k then some v else lookA t k).getD _)
    have hs := putsA_size A t
    by_cases e : i = k
    · subst e
      rw [if_pos rfl, Array.getD_eq_getD_getElem?, Array.getElem?_setIfInBounds, if_pos rfl, if_pos (by omega)]
      rfl
    · rw [if_neg e, ← ih, Array.getD_eq_getD_getElem?, Array.getElem?_setIfInBounds, if_neg e, ← Array.getD_eq_getD_getElem?]
theorem put_same (a : Act) (k : Nat) (u v : Value) : (a.put (some k) u).put (some k) v = a.put (some k) v := by
  show ({ a with tmps := (a.tmps.setIfInBounds k u).setIfInBounds k v } : Act) = { a with tmps := a.tmps.setIfInBounds k v }
  congr 1
  apply Array.ext_getElem?
  intro j
  simp only [Array.getElem?_setIfInBounds, Array.size_setIfInBounds]
  split <;> rfl
theorem putsA_put (A : Act) (k : Nat) (v : Value) : ∀ L, (lookA L k).isSome = true → (putsA A L).put (some k) v = putsA A (updA L k v) := by
  intro L
  induction L with
  | nil => intro h; cases h
  | cons x t ih =>
    obtain ⟨i, u⟩ := x
    intro h
    show ((putsA A t).put (some i) u).put (some k) v = putsA A (if i = k then (i, v) :: t else (i, u) :: updA t k v)
    by_cases e : i = k
    · subst e
      rw [if_pos rfl]
      exact put_same _ _ _ _
    · rw [if_neg e]
      have h2 : (lookA t k).isSome = true := by
        have : (lookA ((i, u) :: t) k) = lookA t k := by show (if i = k then some u else lookA t k) = _; rw [if_neg e]
        rw [this] at h
        exact h
      show _ = (putsA A (updA t k v)).put (some i) u
      rw [← ih h2]
      exact (Act.put_comm _ (x := some i) (y := some k) u v (fun d hd => by
        have : i = d := Option.some.inj hd
        subst this
        exact fun e2 => e (Option.some.inj e2).symm))
theorem putsA_self (A : Act) : ∀ (ks : List Nat), putsA A (ks.map fun k => (k, A.tmps.getD k undef)) = A := by
  intro ks
  induction ks with
  | nil => rfl
  | cons k t ih =>
    show (putsA A (t.map fun k => (k, A.tmps.getD k undef))).put (some k) (A.tmps.getD k undef) = A
    rw [ih]
    show ({ A with tmps := A.tmps.setIfInBounds k (A.tmps.getD k undef) } : Act) = A
    have : A.tmps.setIfInBounds k (A.tmps.getD k undef) = A.tmps := by
      apply Array.ext_getElem?
      intro j
      rw [Array.getElem?_setIfInBounds]
      split
      · rename_i e
        subst e
        split
        · rename_i hl
          rw [Array.getElem?_eq_getElem hl]
          rfl
        · rename_i hl
          rw [Array.getElem?_eq_none (by omega)]
      · rfl
    rw [this]
end Go.Proofs.YtgpmpfikeindfaaGreatDoor
