/- The level of the sound chip whole: the program. -/
import Derived.Test.YtjdgfbaioafjcaaDoorYn
namespace Go.Proofs.YtjdgfbaioafjcaaDoor
open Go.ChangeShapes Go.WideShapes Go.ChangeAt Go.RowKit
set_option linter.unusedVariables false
set_option linter.unusedSimpArgs false

theorem lev_impl_bad (c : Sg) (w : World) (hP : PBit w) (hc : okS c = false) : Calls Tryd.prog 19 #[sgV c] w fun e w' => e = .returned (.tuple #[.int .i64 0, .int .i64 1]) ∧ Below w.heap.size w w' := by
  have q := hid (Blk.new w (sgA c) 27)
  have hB := hid ((Below.refl w.heap.size w).alloc (Nat.le_refl _) (.cells (sgA c) 27))
  have hrg := hid (sg_range q.out)
  have hP1 := hid (hP.alloc (.cells (sgA c) 27))
  clear hP
  go_enter Tryd.func19, Tryd.ntmps19
  go_upto_region 1 with fail
  obtain ⟨V, hV⟩ : ∃ V, w.alloc (.cells (sgA c) 27) = V := ⟨_, rfl⟩
  rw [hV] at q hB hrg hP1 ⊢
  clear hV
  go_wp2_with (refine wpList_load_mid rfl 27 _ rfl w.heap.size 0 rfl (sgA c).toList _ hrg.out Tryd.underlying27 rfl (sg_size c) ?_)
  refine (sok_impl c _ hP1.out).mono ?_
  rintro e w1 ⟨rfl, hb⟩
  rw [hc]
  have hB1 := hid (new_trans hB.out hb)
  clear hb hB q hrg hP1
  go_wp2_with fail
  go_ret2
  exact ⟨rfl, hB1.out⟩
theorem ch_ix0 (a b : Bool) (v : Int) (a1 b1 : Bool) (v1 : Int) (w : World) : (Instr.index 53 (.agg (chA a b v a1 b1 v1)) (.int .i64 0)).run Tryd.prog w = .ok (.agg #[.bool a, .bool b, .int .i64 v]) w := by kernel_rfl
theorem ch_ix1 (a b : Bool) (v : Int) (a1 b1 : Bool) (v1 : Int) (w : World) : (Instr.index 53 (.agg (chA a b v a1 b1 v1)) (.int .i64 1)).run Tryd.prog w = .ok (.agg #[.bool a1, .bool b1, .int .i64 v1]) w := by kernel_rfl
def onN (a b : Bool) (v : Nat) : Nat := if (a && b) = true then v else 0
theorem onN_le (a b : Bool) (v : Nat) (h : v ≤ 15) : onN a b v ≤ 15 := by
  unfold onN
  split <;> omega
set_option maxRecDepth 100000 in
set_option maxHeartbeats 4000000 in
theorem lev_impl_ok (c : Sg) (a b a1 b1 : Bool) (v v1 : Nat) (w : World) (hP : PBit w) (hc : okS c = true) (hv : v ≤ 15) (hv1 : v1 ≤ 15)
    (hC : ∀ w1, Calls Tryd.prog 37 #[sgV c] w1 fun e w' => e = .returned (.agg (chA a b v a1 b1 v1)) ∧ Below w1.heap.size w1 w') :
    Calls Tryd.prog 19 #[sgV c] w fun e w' => e = .returned (.tuple #[.int .i64 ((onN a b v + onN a1 b1 v1 : Nat) : Int), .int .i64 0]) ∧ Below w.heap.size w w' := by
  have q := hid (Blk.new w (sgA c) 27)
  have hB := hid ((Below.refl w.heap.size w).alloc (Nat.le_refl _) (.cells (sgA c) 27))
  have hrg := hid (sg_range q.out)
  have hP1 := hid (hP.alloc (.cells (sgA c) 27))
  clear hP
  replace hC := hid hC
  go_enter Tryd.func19, Tryd.ntmps19
  go_upto_region 1 with fail
  obtain ⟨V, hV⟩ : ∃ V, w.alloc (.cells (sgA c) 27) = V := ⟨_, rfl⟩
  rw [hV] at q hB hrg hP1 ⊢
  clear hV
  go_wp2_with (refine wpList_load_mid rfl 27 _ rfl w.heap.size 0 rfl (sgA c).toList _ hrg.out Tryd.underlying27 rfl (sg_size c) ?_)
  refine (sok_impl c _ hP1.out).mono ?_
  rintro e w1 ⟨rfl, hb⟩
  rw [hc]
  have hB1 := hid (new_trans hB.out hb)
  have q1 := hid (q.out.below hb q.out.lt)
  have hrg1 := hid (sg_range q1.out)
  clear hb hB q hrg hP1
  go_wp2_with (refine wpList_load_mid rfl 27 _ rfl w.heap.size 0 rfl (sgA c).toList _ hrg1.out Tryd.underlying27 rfl (sg_size c) ?_)
  refine (hC.out _).mono ?_
  rintro e w2 ⟨rfl, hb⟩
  have hB2 := hid (new_trans hB1.out hb)
  clear hb hB1 q1 hrg1 hC hc
  go_wp2_with fail
  go_loopw [4, 12] (fun t i wr => (i = .int .i64 0 ∧ t = .int .i64 0 ∧ Below w.heap.size w wr) ∨ (i = .int .i64 1 ∧ t = .int .i64 (onN a b v : Nat) ∧ Below w.heap.size w wr) ∨ (i = .int .i64 2 ∧ t = .int .i64 ((onN a b v + onN a1 b1 v1 : Nat) : Int) ∧ Below w.heap.size w wr)) (fun _ i _ => 2 - (intOf i).toNat)
  case atStart => exact .inl ⟨rfl, rfl, hB2.out⟩
  case round =>
    clear hB2
    rcases hrel with ⟨rfl, rfl, hW⟩ | ⟨rfl, rfl, hW⟩ | ⟨rfl, rfl, hW⟩
    · have hN := hid (hW.alloc hW.size (.cells #[.bool a, .bool b, .int .i64 (v : Int)] 52))
      have ix := ch_ix0 a b v a1 b1 v1
      clear hW
      cases a <;> cases b
      all_goals
        go_wp2
        go_roundw
        case rel => exact .inr (.inl ⟨rfl, by first | rfl | go_num, hN.out⟩)
        case measure => simp [intOf]
    · have hN := hid (hW.alloc hW.size (.cells #[.bool a1, .bool b1, .int .i64 (v1 : Int)] 52))
      have ix := ch_ix1 a b v a1 b1 v1
      have hS := onN_le a b v hv
      obtain ⟨S, eS⟩ : ∃ S, onN a b v = S := ⟨_, rfl⟩
      rw [eS] at hS ⊢
      replace eS := hid eS
      clear hW
      cases a1 <;> cases b1
      all_goals
        go_wp2
        go_roundw
        case rel => exact .inr (.inr ⟨rfl, by (try rw [eS.out]); first | rfl | go_num | (show _ = Value.int .i64 (((S + v1 : Nat)) : Int); go_num), hN.out⟩)
        case measure => simp [intOf]
    · replace hW := hid hW
      go_wp2
      go_ret2
      exact ⟨rfl, hW.out⟩
theorem lev_impl (c : Sg) (w : World) (hP : PBit w) : Calls Tryd.prog 19 #[sgV c] w fun e w' => e = .returned (.tuple #[.int .i64 (lev2 c).1, .int .i64 (lev2 c).2]) ∧ Below w.heap.size w w' := by
  cases hc : okS c
  · have e : lev2 c = (0, 1) := by unfold lev2; rw [hc]; rfl
    rw [e]
    exact lev_impl_bad c w hP hc
  · have e : lev2 c = (((levN c : Nat) : Int), 0) := by unfold lev2; rw [hc]; rfl
    rw [e]
    obtain ⟨hr, hs, h0, h1, hn, hsh, he, hec⟩ := (okS_iff c).1 hc
    have b4 := hr 4 (by omega)
    have b5 := hr 5 (by omega)
    simp only [Sg.reg, maskN] at b4 b5
    have vle : ∀ v : Nat, v < 32 → volN c.r7.toNat c.env.toNat v ≤ 15 := fun v hv => by
      have := shapeN_le c.r7.toNat c.env.toNat (by omega)
      unfold volN
      split <;> omega
    exact lev_impl_ok c _ _ _ _ _ _ w hP hc (vle c.r4.toNat (by omega)) (vle c.r5.toNat (by omega)) (fun w1 => chans_impl c w1 hc)
end Go.Proofs.YtjdgfbaioafjcaaDoor
