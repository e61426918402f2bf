/- A table written in a range over an iterator: what the program's WaitTable answers, a row of its own; what the row's lists of the patterns give. -/
import Derived.Test.YtllcffakpobdlabDoorQc
import Derived.Test.YtllcffakpobdlabDoorQa
import Derived.Test.YtllcffakpobdlabDoorSc
import Derived.LaidMore
import Derived.OpenShut
import Derived.Stop.Joined
import Derived.Laws.OwnMore
import Derived.OneCell
import Derived.Deep.OwnRows
namespace Go.Proofs.YtllcffakpobdlabDoor
open Go.ChangeShapes Go.WideShapes Go.ChangeAt Go.RowKit Go.Shelf
attribute [local go_sem] Oper.semAt_some
set_option linter.unusedVariables false
set_option linter.unusedSimpArgs false

/-- the table once the T of 'pre' have come -/
def wlp (pre : List T640) : List Value := pre.foldl (fun l x => l.set x.val (.int .i64 (waitI (x.val : Int)))) (List.replicate 640 (.int .i64 0))
theorem wlp_snoc (pre : List T640) (x : T640) : wlp (pre ++ [x]) = (wlp pre).set x.val (.int .i64 (waitI (x.val : Int))) := by unfold wlp; rw [List.foldl_append]; rfl
theorem wlp_at (k : Nat) (hk : k ≤ 640) (i : Nat) (hi : i < 640) : (wlp (ts k))[i]? = some (if i < k then .int .i64 (waitI (i : Int)) else .int .i64 0) := by
  induction k with
  | zero =>
    rw [if_neg (by omega)]
    unfold wlp ts
    rw [List.foldl_nil, List.getElem?_replicate, if_pos hi]
  | succ k ih =>
    have ih := ih (by omega)
    rw [ts_succ k (by omega), wlp_snoc]
    by_cases e : i = k
    · subst e
      rw [List.getElem?_set_self (by have := List.getElem?_eq_some_iff.1 ih; exact this.1), if_pos (by omega)]
    · rw [List.getElem?_set_ne (by simp only; omega), ih]
      by_cases h : i < k
      · rw [if_pos h, if_pos (by omega)]
      · rw [if_neg h, if_neg (by omega)]
theorem wlp_len (pre : List T640) : (wlp pre).length = 640 := by
  unfold wlp
  have : ∀ (l : List Value), (pre.foldl (fun l x => l.set x.val (.int .i64 (waitI (x.val : Int)))) l).length = l.length := by
    induction pre with
    | nil => intro l; rfl
    | cons x xs ih => intro l; rw [List.foldl_cons, ih, List.length_set]
  rw [this, List.length_replicate]
theorem wlp_all : wlp (ts 640) = wtN 640 := by
  apply List.ext_getElem?
  intro i
  by_cases h : i < 640
  · rw [wlp_at 640 (Nat.le_refl _) i h, wtN_at 640 i h, if_pos h]
  · rw [List.getElem?_eq_none (by rw [wlp_len]; omega), List.getElem?_eq_none (by rw [wtN_len]; omega)]

theorem infoQ : (Tryd.prog.info? 3).map (fun i => (i.zero, i.size, i.bytes)) = some (some (.int .i64 0), 1, 8) := by kernel_rfl
theorem made640 : ∃ MC : Array Value, MC.size = 640 ∧ MC.toList = wlp [] ∧ ∀ w : World, (Instr.makeSlice 33 (.int .i64 640) (.int .i64 640)).run Tryd.prog w = .ok (.slice (some ⟨w.heap.size, 0, none⟩) 640 640) (w.alloc (.cells MC 3)) :=
  ⟨madeCells #[.int .i64 0] 640, by rw [← Array.length_toList, toList_madeCells_one, List.length_replicate], toList_madeCells_one _ _, fun w => run_make_row' (P := Tryd.prog) 33 3 (.int .i64 0) 8 Tryd.underlying33 infoQ rfl .i64 .i64 640 (by omega) (by omega) w⟩
set_option maxRecDepth 100000 in
set_option maxHeartbeats 2000000 in
theorem table_in (w : World) (hP : Pat w) :
    CallsIn Fence.wide 3 Tryd.prog 15 #[] w fun e W' => ∃ v, e = .returned v ∧ W'.ownsRow w.heap.size 3 1 v 640 (wtN 640) ∧ Below w.heap.size w W' := by
  obtain ⟨MC, hsz, hls, hmk⟩ := made640
  refine callsIn_of_wp_marks Tryd.func15 rfl trivial ?_ rfl
  simp only [Tryd.ntmps15, List.size_toArray, List.length_cons, List.length_nil, Nat.reduceAdd, Nat.reduceSub, Array.replicate_succ, Array.replicate_zero, List.push_toArray, List.append_toArray, List.nil_append, List.cons_append]
  gi_wp2
  have r0 : (w.alloc (.cells MC 3)).ownsRow w.heap.size 3 1 (.slice (some ⟨w.heap.size, 0, none⟩) 640 640) 640 (wlp []) := by
    rw [← hls]
    exact World.ownsRow_lit w MC 640 (Nat.le_refl _) (by decide) (by omega)
  have bO := Boxed.new (w.alloc (.cells MC 3)) 33 (.slice (some ⟨w.heap.size, 0, none⟩) 640 640)
  rw [World.size_alloc] at bO
  have hB0 : Below w.heap.size w ((w.alloc (.cells MC 3)).alloc (.cells #[.slice (some ⟨w.heap.size, 0, none⟩) 640 640] 33)) := ((Below.refl _ w).alloc (Nat.le_refl _) _).alloc (by simp) _
  refine wpIn_rangeFunc_ownG rfl (by decide) (gf := 33) (lb := #[]) rfl trivial (enters_of Tryd.func33 (by kernel_rfl) rfl)
    (ts_stops Fence.wide 2 trivial rfl (by decide) w.heap.size _) belowK_t (belowK_b (by simp; omega)) (Below.refl _ _) (fun _ => rfl)
    (fun pre W => (∃ v, Boxed W (w.heap.size + 1) 33 v ∧ W.ownsRow w.heap.size 3 1 v 640 (wlp pre) ∧ v = .slice (some ⟨w.heap.size, 0, none⟩) 640 640) ∧ Below w.heap.size w W)
    (fun _ _ _ => False)
    (OwnFrom.and (Own.from (holdsRow_own w.heap.size (w.heap.size + 1) 33 3 1 (fun pre : List T640 => 640) (fun pre => wlp pre) (fun pre v => v = .slice (some ⟨w.heap.size, 0, none⟩) 640 640)) _) (ownFrom_below (Nat.le_refl _) (by simp; omega)))
    (fun _ _ _ _ _ hs _ _ => hs)
    ⟨⟨_, bO, r0.alloc _, rfl⟩, hB0⟩
    (fun x => { tmps := #[.slice none 0 0, .pointer (some ⟨w.heap.size + 1, 0, none⟩), .int .i64 (x.val : Int), .slice (some ⟨w.heap.size, 0, none⟩) 640 640, .int .i64 (x.val : Int), undef, undef, undef, undef, undef, undef], defers := [] }) ?assign ?body ?done ?stop
  case assign =>
    intro l x W K hK
    gi_wp2
    exact hK
  case body =>
    rintro l pre x W ⟨⟨v, hv, hrow, rfl⟩, hB⟩ hlt
    have hc := hv.cell
    have hPW := pat_below hP hB
    have hPd : Pat W.drew := pat_below hPW ((Below.refl _ _).drew)
    have hx := x.2
    obtain ⟨u, hcx⟩ : ∃ u, W.cell? ⟨w.heap.size, x.val, none⟩ = some u := by
      rw [hrow.cellAt x.val (by omega)]
      exact ⟨_, List.getElem?_eq_getElem (by rw [wlp_len]; exact hx)⟩
    have hfx := hrow.frozenAt x.val
    have hmx : Tryd.prog.follows .mixedOrders = true := by kernel_rfl
    have hxi : (x.val : Int) < 640 := by omega
    have hst := hrow.stored x.val (.int .i64 (waitI (x.val : Int)))
    have hk2 : KeepsOthers W (W.setCell ⟨w.heap.size, x.val, none⟩ (.int .i64 (waitI (x.val : Int)))) := KeepsOthers.setCell _ _ _
    have fin : KeepsFrom ((w.alloc (.cells MC 3)).alloc (.cells #[.slice (some ⟨w.heap.size, 0, none⟩) 640 640] 33)).heap.size W (W.setCell ⟨w.heap.size, x.val, none⟩ (.int .i64 (waitI (x.val : Int)))).drew := (hk2.trans (KeepsOthers.drew _)).from _
    have hb2 : Below w.heap.size W (W.setCell ⟨w.heap.size, x.val, none⟩ (.int .i64 (waitI (x.val : Int)))).drew := ((Below.refl w.heap.size W).setCell (p := ⟨w.heap.size, x.val, none⟩) (Nat.le_refl _) _).drew
    have hv2 : Boxed (W.setCell ⟨w.heap.size, x.val, none⟩ (.int .i64 (waitI (x.val : Int)))).drew (w.heap.size + 1) 33 (.slice (some ⟨w.heap.size, 0, none⟩) 640 640) := by
      have h2 : Boxed (W.setCell ⟨w.heap.size, x.val, none⟩ (.int .i64 (waitI (x.val : Int)))) (w.heap.size + 1) 33 (.slice (some ⟨w.heap.size, 0, none⟩) 640 640) := hv.kept hst.2 (by simp)
      exact h2
    have hr2 : (W.setCell ⟨w.heap.size, x.val, none⟩ (.int .i64 (waitI (x.val : Int)))).drew.ownsRow w.heap.size 3 1 (.slice (some ⟨w.heap.size, 0, none⟩) 640 640) 640 (wlp (pre ++ [x])) := by rw [wlp_snoc]; exact hst.1
    gi_wp2
    gi_region_with_o (refine ⟨trivial, ?_⟩; gi_at_call 30; refine (CallsIn.inRound l (callsIn_wide.2 (waitof_impl _ _ (by omega) (by omega) hPd))).mono ?_; rintro e w' ⟨rfl, rfl⟩)
    all_goals exact ⟨fin, hb2, ⟨_, hv2, hr2, rfl⟩, hB.trans hb2⟩
  case done =>
    rintro D ys W hD rfl ⟨⟨v, hv, hrow, rfl⟩, hB⟩ hK
    have hc := hv.cell
    gi_wp2
    refine ⟨by simp, .inl ⟨_, _, rfl, run_takeDeferred hK, ?_⟩⟩
    exact ⟨_, results_tmp rfl _ _ _, _, rfl, by have := ownsRow_putObj hrow (.deferred none) hK rfl; rw [wlp_all] at this; exact this, hB.trans (belowK_b (w := w) (Nat.le_refl _) W D _ _ (by simp at hD; omega) hK rfl rfl)⟩
  case stop =>
    rintro D c pre W _ _ h _
    exact h.elim
theorem table_impl (w : World) (hP : Pat w) : Calls Tryd.prog 15 #[] w fun e W' => ∃ v, e = .returned v ∧ W'.ownsRow w.heap.size 3 1 v 640 (wtN 640) ∧ Below w.heap.size w W' := callsIn_wide.1 (table_in w hP)
end Go.Proofs.YtllcffakpobdlabDoor
