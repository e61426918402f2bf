/- Answers of two structs, laid down. -/
import Derived.Test.YtiidkhfigifmjaaU17
import Derived.Test.YtiidkhfigifmjaaHcu
import Derived.Test.YtiidkhfigifmjaaU01
import Derived.Deep.RegionHeld3
namespace Go.Proofs.Ytiidkhfigifmjaa
open Go.ChangeShapes Go.WideShapes Go.ChangeAt Go.RowKit
set_option linter.unusedVariables false
set_option linter.unusedSimpArgs false

abbrev zCL : List Value := [.int .i64 0, .int .i64 0, .int .i64 0, .int .i64 0, .int .i64 0, .int .i64 0, .int .i64 0, .int .i64 0, .int .i64 0, .int .i64 0, .int .i64 0, .bool false, .bool false, .bool false]
abbrev zML : List Value := [.slice none 0 0, .slice none 0 0, .int .i64 0, .int .i64 0, .bool false]
theorem sets_heap (b : Nat) (l : List Value) : ∀ (W : World) (i k : Nat), k ≠ b → (sets W b i l).heap[k]? = W.heap[k]? := by
  induction l with
  | nil => exact fun _ _ _ _ => rfl
  | cons u t ih => exact fun W i k hk => (ih _ _ k hk).trans (Below.heap_setCell _ _ _ _ hk)
theorem sets_size (b : Nat) (l : List Value) : ∀ (W : World) (i : Nat), (sets W b i l).heap.size = W.heap.size := by
  induction l with
  | nil => exact fun _ _ => rfl
  | cons u t ih => exact fun W i => (ih _ _).trans (sizeSet _ _ _)
theorem sets_below (b : Nat) (l : List Value) : ∀ (w W : World) (n i : Nat), Below n w W → n ≤ b → Below n w (sets W b i l) := by
  induction l with
  | nil => exact fun _ _ _ _ h _ => h
  | cons u t ih => exact fun w W n i h hn => ih _ _ _ _ (h.setCell (p := ⟨b, i, none⟩) hn u) hn
/-- an answer of two structs is laid down -/
theorem fin_blk {w W : World} {b g : Nat} {A B : Array Value} (q1 : Blk W b A) (q2 : Blk W g B) (hbg : b ≠ g) (hB : Below w.heap.size w W) (lb : w.heap.size ≤ b) (lg : w.heap.size ≤ g) (L1 L2 : List Value) :
    (∀ i, (sets (sets W b 0 L1) g 0 L2).cell? ⟨b, i, none⟩ = (setsA 0 L1 A)[i]?) ∧ (∀ i, (sets (sets W b 0 L1) g 0 L2).cell? ⟨g, i, none⟩ = (setsA 0 L2 B)[i]?) ∧ (∀ k, k ≠ b → k ≠ g → (sets (sets W b 0 L1) g 0 L2).heap[k]? = W.heap[k]?) ∧ (sets (sets W b 0 L1) g 0 L2).heap.size = W.heap.size ∧ Below w.heap.size w (sets (sets W b 0 L1) g 0 L2) := by
  have g2 := sets_grown g L2 (sets W b 0 L1) 0
  have g1 := sets_grown b L1 W 0
  refine ⟨((sets_blk b L1 W 0 A q1).grown g2 (by simp [hbg])).cell, (sets_blk g L2 _ 0 B (q2.grown g1 (by simp; exact fun e => hbg e.symm))).cell, fun k h1 h2 => (sets_heap g L2 _ 0 k h2).trans (sets_heap b L1 W 0 k h1), by rw [sets_size, sets_size], sets_below _ _ _ _ _ _ (sets_below _ _ _ _ _ _ hB lb) lg⟩
theorem four_four {w : World} {A0 A1 A2 A3 : Array Value} {t0 t1 t2 t3 : TypeId} {V : World} (hV : (((w.alloc (.cells A0 t0)).alloc (.cells A1 t1)).alloc (.cells A2 t2)).alloc (.cells A3 t3) = V) :
    Blk V w.heap.size A0 ∧ Blk V (w.heap.size + 1) A1 ∧ Blk V (w.heap.size + 1 + 1) A2 ∧ Blk V (w.heap.size + 1 + 1 + 1) A3 ∧ Below w.heap.size w V ∧ V.heap.size = w.heap.size + 1 + 1 + 1 + 1 := by
  subst hV
  obtain ⟨h1, h2, h3⟩ := four_new w A0 A1 A2 A3 t0 t1 t2 t3
  exact ⟨(h3 _ _ (by simp)).1, (h3 _ _ (by simp)).1, (h3 _ _ (by simp)).1, (h3 _ _ (by simp)).1, h1, h2⟩
theorem zset1 : setsA 0 zCL zC = zC := rfl
theorem zset2 : setsA 0 zML zM = zM := rfl
theorem cp0_v : cpV cp0 = .agg zC := rfl
theorem Out.form {w W : World} {x : Mx} {vr vm cv : Value} (h : Out w W x vr vm cv) : ∃ e1 p1 e2 p2, vr = .slice e1 x.m.rom.length p1 ∧ vm = .slice e2 x.m.ram.length p2 := by
  obtain ⟨a1, p1, a2, p2, e, _, _⟩ := h.mem.form
  simp only [memV, Value.agg.injEq, Array.mk.injEq, List.cons.injEq] at e
  exact ⟨a1, p1, a2, p2, e.1, e.2.1⟩
/-- the specification's answer is laid down behind its copy of the memory -/
theorem lay_two {w w1 w2 : World} {x : Mx} {vr vm cv : Value} {b g : Nat} (hb : Below w.heap.size w w1) (q2 : Blk w1 b zC) (q3 : Blk w1 g zM) (hO : Out w1 w2 x vr vm cv) (hbg : b ≠ g) (lb : w.heap.size ≤ b) (lg : w.heap.size ≤ g) :
    ∀ V2, Below w2.heap.size w2 V2 → ∀ w3 u, MemO w3 V2.heap.size w3.heap.size u x.m → Below V2.heap.size V2 w3 → Blk w3 b zC ∧ Blk w3 g zM ∧ ∀ vr' vm', u = memV vr' vm' x.m.page x.m.screen x.m.locked →
      (∀ i, (sets (sets w3 b 0 (cpuL x.c)) g 0 (meL vr' vm' x.m)).cell? ⟨b, i, none⟩ = (cpA x.c)[i]?) ∧ (∀ i, (sets (sets w3 b 0 (cpuL x.c)) g 0 (meL vr' vm' x.m)).cell? ⟨g, i, none⟩ = (#[vr', vm', .int .i64 x.m.page, .int .i64 x.m.screen, .bool x.m.locked] : Array Value)[i]?) ∧ Ans w (sets (sets w3 b 0 (cpuL x.c)) g 0 (meL vr' vm' x.m)) x u cv := by
  intro V2 hV w3 u hm hb3
  have l2 := q2.lt
  have l3 := q3.lt
  have hz := hO.bel.size
  have hz2 := hV.size
  have hB : Below w1.heap.size w1 w3 := hO.bel.trans ((new_trans hV hb3).mono hz)
  have k2 := q2.below hB l2
  have k3 := q3.below hB l3
  refine ⟨k2, k3, fun vr' vm' e => ?_⟩
  obtain ⟨F1, F2, F3, F4, F5⟩ := fin_blk k2 k3 hbg (new_trans hb hB) lb lg (cpuL x.c) (meL vr' vm' x.m)
  rw [setsC] at F1
  rw [setsM] at F2
  refine ⟨F1, F2, ?_⟩
  have hA : Ans w1 w3 x u cv := ⟨⟨V2.heap.size, w3.heap.size, hm, by omega, Nat.le_refl _, fun y hy => .inl (by have := (hO.own.lt y hy).2; omega)⟩, own3_below hO.own (new_trans hV hb3), hB⟩
  exact hA.laid hb.size (fun y hy => F3 y (by omega) (by omega)) (by rw [F4]; exact Nat.le_refl _) F5
theorem ans_empty {w W' : World} {c : Cp} {M : Mem} {u : Value} {lo hi E : Nat} (hm : MemO W' lo hi u M) (h1 : w.heap.size ≤ lo) (h2 : hi ≤ W'.heap.size) (hE : W'.heap[E]? = some (.cells #[] 64 (0, 0))) (hE1 : w.heap.size ≤ E) (hE2 : E < lo ∨ hi ≤ E) (hB : Below w.heap.size w W') : Ans w W' ⟨c, M, []⟩ u (.slice (some ⟨E, 0, none⟩) 0 0) :=
  ⟨⟨lo, hi, hm, h1, h2, fun g hg => by
    have : E = g := by simpa [Value.ownBlock] using hg
    subst this
    exact hE2⟩, ⟨rfl, .inr ⟨E, 0, #[], rfl, hE1, hE, Nat.le_refl _, Nat.zero_le _, rfl, rfl⟩⟩, hB⟩
/-- a copy of the memory is laid down, with no cycles -/
theorem lay_own {w w1 : World} {c : Cp} {M : Mem} {b g : Nat} (hb : Below w.heap.size w w1) (q2 : Blk w1 b zC) (q3 : Blk w1 g zM) (hbg : b ≠ g) (lb : w.heap.size ≤ b) (lg : w.heap.size ≤ g) :
    ∀ V2, Below w1.heap.size w1 V2 → ∀ w3 u, MemO w3 V2.heap.size w3.heap.size u M → Below V2.heap.size V2 w3 → Blk w3 b zC ∧ Blk w3 g zM ∧ ∀ vr' vm', u = memV vr' vm' M.page M.screen M.locked → ∀ WF, sets (sets w3 b 0 (cpuL c)) g 0 (meL vr' vm' M) = WF →
      (∀ i, WF.cell? ⟨b, i, none⟩ = (cpA c)[i]?) ∧ (∀ i, WF.cell? ⟨g, i, none⟩ = (#[vr', vm', .int .i64 M.page, .int .i64 M.screen, .bool M.locked] : Array Value)[i]?) ∧ (∀ i, (WF.alloc (.cells #[] 64)).cell? ⟨b, i, none⟩ = (cpA c)[i]?) ∧ (∀ i, (WF.alloc (.cells #[] 64)).cell? ⟨g, i, none⟩ = (#[vr', vm', .int .i64 M.page, .int .i64 M.screen, .bool M.locked] : Array Value)[i]?) ∧ WF.heap.size = w3.heap.size ∧
      (V2.heap[w1.heap.size]? = some (.cells #[] 64 (0, 0)) → Ans w WF ⟨c, M, []⟩ u (.slice (some ⟨w1.heap.size, 0, none⟩) 0 0)) ∧ Ans w (WF.alloc (.cells #[] 64)) ⟨c, M, []⟩ u (.slice (some ⟨w3.heap.size, 0, none⟩) 0 0) ∧ Ans w WF ⟨c, M, []⟩ u (.slice none 0 0) := by
  intro V2 hV w3 u hm hb3
  have l2 := q2.lt
  have l3 := q3.lt
  have hz2 := hV.size
  have hz3 := hb3.size
  have hzw := hb.size
  have hB : Below w1.heap.size w1 w3 := new_trans hV hb3
  have k2 := q2.below hB l2
  have k3 := q3.below hB l3
  refine ⟨k2, k3, fun vr' vm' e WF hWF => ?_⟩
  obtain ⟨F1, F2, F3, F4, F5⟩ := fin_blk k2 k3 hbg (new_trans hb hB) lb lg (cpuL c) (meL vr' vm' M)
  rw [setsC] at F1
  rw [setsM] at F2
  rw [hWF] at F1 F2 F3 F4 F5
  have hm2 : MemO WF V2.heap.size w3.heap.size u M := hm.kept (fun y hy _ => F3 y (by omega) (by omega))
  refine ⟨F1, F2, fun i => (World.cell?_of_block (w := WF) (a := ⟨b, i, none⟩) (Below.heap_alloc WF _ b (by omega))).trans (F1 i), fun i => (World.cell?_of_block (w := WF) (a := ⟨g, i, none⟩) (Below.heap_alloc WF _ g (by omega))).trans (F2 i), F4, fun hE => ?_, ?_, ?_⟩
  · have hlt : w1.heap.size < V2.heap.size := (Array.getElem?_eq_some_iff.1 hE).1
    exact ans_empty hm2 (by omega) (by omega) ((F3 _ (by omega) (by omega)).trans ((hb3.block _ hlt).trans hE)) (by omega) (.inl hlt) F5
  · refine ans_empty (hm2.kept (fun y _ h2 => Below.heap_alloc WF _ y (by omega))) (by omega) (by rw [World.size_alloc]; omega) ?_ (by omega) (.inr (Nat.le_refl _)) (F5.alloc F5.size _)
    rw [← F4]
    exact heap_alloc_new WF _
  · exact ⟨⟨_, _, hm2, by omega, by omega, fun y hy => by cases hy⟩, World.ownsRow_nil _ _ _ _, F5⟩
end Go.Proofs.Ytiidkhfigifmjaa

/- A region that draws its order: what every operation keeps holds at its end, whatever the order. -/
namespace Go.Proofs.Ytiidkhfigifmjaa
open Go.ChangeShapes Go.WideShapes Go.ChangeAt Go.RowKit
set_option linter.unusedVariables false

theorem count_set : ∀ (l : List Bool) (i : Nat), l.getD i true = false → (l.set i true).count false + 1 = l.count false := by
  intro l
  induction l with
  | nil => intro i h; simp at h
  | cons b t ih =>
    intro i h
    cases i with
    | zero =>
      have : b = false := by simpa using h
      subst this
      simp
    | succ i =>
      have := ih i (by simpa using h)
      cases b <;> simp [List.set_cons_succ] <;> omega
theorem count_zero : ∀ (l : List Bool) (i : Nat), l.count false = 0 → l.getD i true = true := by
  intro l
  induction l with
  | nil => intro i _; simp
  | cons b t ih =>
    intro i h
    cases b
    · simp at h
    · cases i with
      | zero => rfl
      | succ i => simpa using ih i (by simpa using h)
section
variable {P : Program} {ops : Array Oper} {Q : Exit → Act → World → Prop} {md : Region.Mode}
theorem getD_list (l : Array Bool) (i : Nat) (d : Bool) : l.getD i d = l.toList.getD i d := by
  rw [Array.getD_eq_getD_getElem?, List.getD_eq_getElem?_getD, Array.getElem?_toList]
theorem any_inv (I : Array Bool → Act → World → Prop)
    (step : ∀ (listed : Array Bool) (a : Act) (w : World) (i : Nat) (o : Oper), I listed a w → listed.getD i true = false → ops[i]? = some o → (∀ e ∈ o.after, Region.binds md e = true → listed.getD e.on false = true) →
      ∀ K' : Act → World → Prop, (∀ a' w', I (listed.setIfInBounds i true) a' w' → K' a' w') → if Region.wanted o (yielded ops a.tmps) = true then Oper.wp P o a w K' Q else K' (a.put o.dst undef) w)
    (done : ∀ (listed : Array Bool) (a : Act) (w : World), I listed a w → Region.ready md ops listed = [] → Q .normal a w) :
    ∀ (fuel : Nat) (listed : Array Bool) (a : Act) (w : World), I listed a w → listed.toList.count false ≤ fuel → wpAny P md ops Q fuel listed a w := by
  intro fuel
  induction fuel with
  | zero =>
    intro listed a w hI hc
    have hr : Region.ready md ops listed = [] := by
      rw [List.eq_nil_iff_forall_not_mem]
      intro j hj
      have h1 := (mem_ready.1 hj).1
      rw [getD_list, count_zero _ _ (by omega)] at h1
      cases h1
    exact ⟨hr, done _ _ _ hI hr⟩
  | succ fuel ih =>
    intro listed a w hI hc
    refine ⟨fun hr => done _ _ _ hI hr, fun i hi => ?_⟩
    obtain ⟨h1, o, ho, hd⟩ := mem_ready.1 hi
    refine wpOp_step ho (fun K' hK => step listed a w i o hI h1 ho hd K' (fun a' w' hI' => hK a' w' (ih _ a' w' hI' ?_)))
    rw [getD_list] at h1
    have := count_set listed.toList i h1
    rw [Array.toList_setIfInBounds]
    omega
/-- each operation waits for earlier ones alone -/
def acyc (md : Region.Mode) (ops : Array Oper) : Bool := (List.range ops.size).all fun i => match ops[i]? with
  | some o => o.after.all fun e => !Region.binds md e || decide (e.on < i)
  | none => true
theorem ready_nil_all {listed : Array Bool} (hac : acyc md ops = true) (hs : listed.size = ops.size) (hr : Region.ready md ops listed = []) : ∀ i, i < ops.size → listed.getD i false = true := by
  intro i
  induction i using Nat.strongRecOn with
  | ind i ih =>
    intro hi
    have hi2 : i < listed.size := by omega
    have e1 : ∀ d, listed.getD i d = listed[i] := fun d => by simp [Array.getD, hi2]
    cases hb : listed[i] with
    | true => rw [e1, hb]
    | false =>
      have hm : i ∈ Region.ready md ops listed := by
        refine mem_ready.2 ⟨by rw [e1, hb], ops[i], Array.getElem?_eq_getElem hi, fun e he hbind => ?_⟩
        have h1 := List.all_eq_true.1 hac i (List.mem_range.2 hi)
        rw [Array.getElem?_eq_getElem hi] at h1
        have h2 := Array.all_eq_true'.1 h1 e he
        rw [hbind] at h2
        have h3 : e.on < i := by simpa using h2
        exact ih e.on h3 (by omega)
      rw [hr] at hm
      cases hm
theorem wp_region_inv {id : Nat} {a : Act} {w : World} (hm : P.follows .mixedOrders = true) (I : Array Bool → Act → World → Prop)
    (step : ∀ (listed : Array Bool) (a : Act) (w : World) (i : Nat) (o : Oper), I listed a w → listed.getD i true = false → ops[i]? = some o → (∀ e ∈ o.after, Region.binds .any e = true → listed.getD e.on false = true) →
      ∀ K' : Act → World → Prop, (∀ a' w', I (listed.setIfInBounds i true) a' w' → K' a' w') → if Region.wanted o (yielded ops a.tmps) = true then Oper.wp P o a w K' Q else K' (a.put o.dst undef) w)
    (hac : acyc .any ops = true) (size : ∀ listed a w, I listed a w → listed.size = ops.size)
    (done : ∀ (listed : Array Bool) (a : Act) (w : World), I listed a w → (∀ i, i < ops.size → listed.getD i false = true) → Q .normal a w)
    (start : I (Array.replicate ops.size false) a { w with drawn := w.drawn + 1 }) : (Code.region id ops true).wp P Q a w :=
  wp_region_any hm (any_inv I step (fun l a w hI hr => done l a w hI (ready_nil_all hac (size l a w hI) hr)) _ _ _ _ start (by
    have : (Array.replicate ops.size false).toList.length = ops.size := by simp
    exact Nat.le_trans List.count_le_length (by omega)))
end
end Go.Proofs.Ytiidkhfigifmjaa
