/- Acts that are right: the program. -/
import Derived.Test.YtneagomkohoceabDoorWba
namespace Go.Proofs.YtneagomkohoceabDoor
open Go.ChangeShapes Go.WideShapes Go.ChangeAt Go.RowKit
set_option linter.unusedVariables false
set_option linter.unusedSimpArgs false

set_option maxRecDepth 100000 in
theorem keyd_impl (a b : Int) (d : Bool) (w : World) : Calls Tryd.prog 193 #[.agg #[.int .i64 a, .int .i64 b, .bool d]] w fun e w' => e = .returned (.bool (inB a 0 7 && inB b 0 4)) ∧ Below w.heap.size w w' := by
  have hB := hid ((Below.refl w.heap.size w).alloc (Nat.le_refl _) (.cells #[.int .i64 a, .int .i64 b, .bool d] 191))
  cases h1 : inB a 0 7
  all_goals
    go_enter Tryd.func193, Tryd.ntmps193
    go_wp2_with (go_at_call 79; refine (wi_impl _ _ _ _).mono ?_; rintro r w' ⟨rfl, rfl⟩; first | rw [h1] | skip)
    go_ret
    exact ⟨by first | rfl | simp, hB.out⟩
set_option maxRecDepth 100000 in
theorem joyd_impl (a : Int) (w : World) : Calls Tryd.prog 194 #[.agg #[.int .i64 a]] w fun e w' => e = .returned (.bool (inB a 0 31)) ∧ Below w.heap.size w w' := by
  have hB := hid ((Below.refl w.heap.size w).alloc (Nat.le_refl _) (.cells #[.int .i64 a] 193))
  go_enter Tryd.func194, Tryd.ntmps194
  go_wp2_with (go_at_call 79; refine (wi_impl _ _ _ _).mono ?_; rintro r w' ⟨rfl, rfl⟩)
  go_ret
  exact ⟨rfl, hB.out⟩
set_option maxRecDepth 100000 in
theorem framesd_impl (a : Int) (w : World) : Calls Tryd.prog 196 #[.agg #[.int .i64 a]] w fun e w' => e = .returned (.bool (inB a 0 6)) ∧ Below w.heap.size w w' := by
  have hB := hid ((Below.refl w.heap.size w).alloc (Nat.le_refl _) (.cells #[.int .i64 a] 201))
  go_enter Tryd.func196, Tryd.ntmps196
  go_wp2_with (go_at_call 79; refine (wi_impl _ _ _ _).mono ?_; rintro r w' ⟨rfl, rfl⟩)
  go_ret
  exact ⟨rfl, hB.out⟩
set_option maxRecDepth 100000 in
set_option maxHeartbeats 2000000 in
theorem actok_1 (a b : Int) (d : Bool) (w : World) : Calls Tryd.prog 61 #[acV 1 a b d] w fun e w' => e = .returned (.bool (inB a 0 7 && inB b 0 4)) ∧ Below w.heap.size w w' := by
  have hB := hid ((Below.refl w.heap.size w).alloc (Nat.le_refl _) (.cells (acA 1 a b d) 68))
  go_enter Tryd.func61, Tryd.ntmps61
  go_wp2_with fail
  refine (deed_key a b d _).mono ?_
  rintro r w1 ⟨rfl, hb⟩
  have hB1 := hid (new_trans hB.out hb)
  clear hb hB
  go_wp2_with fail
  refine (keyd_impl a b d _).mono ?_
  rintro r w2 ⟨rfl, hb⟩
  have hB2 := hid (new_trans hB1.out hb)
  clear hb hB1
  go_wp2
  go_ret
  exact ⟨rfl, hB2.out⟩
set_option maxRecDepth 100000 in
theorem bared_impl (w : World) : Calls Tryd.prog 195 #[.agg #[]] w fun e w' => e = .returned (.bool true) ∧ Below w.heap.size w w' := by
  have hB := hid ((Below.refl w.heap.size w).alloc (Nat.le_refl _) (.cells #[] 195))
  go_enter Tryd.func195, Tryd.ntmps195
  go_wp2
  go_ret
  exact ⟨rfl, hB.out⟩
set_option maxRecDepth 100000 in
set_option maxHeartbeats 2000000 in
theorem actok_nil (k a b : Int) (d : Bool) (w : World) (hn : deedV k a b d = .nilIface) : Calls Tryd.prog 61 #[acV k a b d] w fun e w' => e = .returned (.bool false) ∧ Below w.heap.size w w' := by
  have hB := hid ((Below.refl w.heap.size w).alloc (Nat.le_refl _) (.cells (acA k a b d) 68))
  have hD := hid (fun W => deed_impl k a b d W)
  rw [hn] at hD
  clear hn
  go_enter Tryd.func61, Tryd.ntmps61
  go_wp2_with fail
  refine (hD.out _).mono ?_
  rintro r w1 ⟨rfl, hb⟩
  have hB1 := hid (new_trans hB.out hb)
  clear hb hB hD
  go_wp2_with fail
  go_ret
  exact ⟨rfl, hB1.out⟩
set_option maxRecDepth 100000 in
set_option maxHeartbeats 2000000 in
theorem actok_joy (k a b : Int) (d : Bool) (w : World) (hn : deedV k a b d = .iface 193 (.agg #[.int .i64 a])) : Calls Tryd.prog 61 #[acV k a b d] w fun e w' => e = .returned (.bool (inB a 0 31)) ∧ Below w.heap.size w w' := by
  have hB := hid ((Below.refl w.heap.size w).alloc (Nat.le_refl _) (.cells (acA k a b d) 68))
  have hD := hid (fun W => deed_impl k a b d W)
  rw [hn] at hD
  clear hn
  go_enter Tryd.func61, Tryd.ntmps61
  go_wp2_with fail
  refine (hD.out _).mono ?_
  rintro r w1 ⟨rfl, hb⟩
  have hB1 := hid (new_trans hB.out hb)
  clear hb hB hD
  go_wp2_with fail
  refine (joyd_impl a _).mono ?_
  rintro r w2 ⟨rfl, hb⟩
  have hB2 := hid (new_trans hB1.out hb)
  clear hb hB1
  go_wp2
  go_ret
  exact ⟨rfl, hB2.out⟩
set_option maxRecDepth 100000 in
set_option maxHeartbeats 2000000 in
theorem actok_frames (k a b : Int) (d : Bool) (w : World) (hn : deedV k a b d = .iface 201 (.agg #[.int .i64 a])) : Calls Tryd.prog 61 #[acV k a b d] w fun e w' => e = .returned (.bool (inB a 0 6)) ∧ Below w.heap.size w w' := by
  have hB := hid ((Below.refl w.heap.size w).alloc (Nat.le_refl _) (.cells (acA k a b d) 68))
  have hD := hid (fun W => deed_impl k a b d W)
  rw [hn] at hD
  clear hn
  go_enter Tryd.func61, Tryd.ntmps61
  go_wp2_with fail
  refine (hD.out _).mono ?_
  rintro r w1 ⟨rfl, hb⟩
  have hB1 := hid (new_trans hB.out hb)
  clear hb hB hD
  go_wp2_with fail
  refine (framesd_impl a _).mono ?_
  rintro r w2 ⟨rfl, hb⟩
  have hB2 := hid (new_trans hB1.out hb)
  clear hb hB1
  go_wp2
  go_ret
  exact ⟨rfl, hB2.out⟩
set_option maxRecDepth 100000 in
set_option maxHeartbeats 2000000 in
theorem actok_play (k a b : Int) (d : Bool) (w : World) (hn : deedV k a b d = .iface 197 (.agg #[])) : Calls Tryd.prog 61 #[acV k a b d] w fun e w' => e = .returned (.bool (true)) ∧ Below w.heap.size w w' := by
  have hB := hid ((Below.refl w.heap.size w).alloc (Nat.le_refl _) (.cells (acA k a b d) 68))
  have hD := hid (fun W => deed_impl k a b d W)
  rw [hn] at hD
  clear hn
  go_enter Tryd.func61, Tryd.ntmps61
  go_wp2_with fail
  refine (hD.out _).mono ?_
  rintro r w1 ⟨rfl, hb⟩
  have hB1 := hid (new_trans hB.out hb)
  clear hb hB hD
  go_wp2_with fail
  refine (bared_impl _).mono ?_
  rintro r w2 ⟨rfl, hb⟩
  have hB2 := hid (new_trans hB1.out hb)
  clear hb hB1
  go_wp2
  go_ret
  exact ⟨rfl, hB2.out⟩
set_option maxRecDepth 100000 in
set_option maxHeartbeats 2000000 in
theorem actok_stop (k a b : Int) (d : Bool) (w : World) (hn : deedV k a b d = .iface 198 (.agg #[])) : Calls Tryd.prog 61 #[acV k a b d] w fun e w' => e = .returned (.bool (true)) ∧ Below w.heap.size w w' := by
  have hB := hid ((Below.refl w.heap.size w).alloc (Nat.le_refl _) (.cells (acA k a b d) 68))
  have hD := hid (fun W => deed_impl k a b d W)
  rw [hn] at hD
  clear hn
  go_enter Tryd.func61, Tryd.ntmps61
  go_wp2_with fail
  refine (hD.out _).mono ?_
  rintro r w1 ⟨rfl, hb⟩
  have hB1 := hid (new_trans hB.out hb)
  clear hb hB hD
  go_wp2_with fail
  refine (bared_impl _).mono ?_
  rintro r w2 ⟨rfl, hb⟩
  have hB2 := hid (new_trans hB1.out hb)
  clear hb hB1
  go_wp2
  go_ret
  exact ⟨rfl, hB2.out⟩
set_option maxRecDepth 100000 in
set_option maxHeartbeats 2000000 in
theorem actok_rewind (k a b : Int) (d : Bool) (w : World) (hn : deedV k a b d = .iface 199 (.agg #[])) : Calls Tryd.prog 61 #[acV k a b d] w fun e w' => e = .returned (.bool (true)) ∧ Below w.heap.size w w' := by
  have hB := hid ((Below.refl w.heap.size w).alloc (Nat.le_refl _) (.cells (acA k a b d) 68))
  have hD := hid (fun W => deed_impl k a b d W)
  rw [hn] at hD
  clear hn
  go_enter Tryd.func61, Tryd.ntmps61
  go_wp2_with fail
  refine (hD.out _).mono ?_
  rintro r w1 ⟨rfl, hb⟩
  have hB1 := hid (new_trans hB.out hb)
  clear hb hB hD
  go_wp2_with fail
  refine (bared_impl _).mono ?_
  rintro r w2 ⟨rfl, hb⟩
  have hB2 := hid (new_trans hB1.out hb)
  clear hb hB1
  go_wp2
  go_ret
  exact ⟨rfl, hB2.out⟩
set_option maxRecDepth 100000 in
set_option maxHeartbeats 2000000 in
theorem actok_save (k a b : Int) (d : Bool) (w : World) (hn : deedV k a b d = .iface 202 (.agg #[])) : Calls Tryd.prog 61 #[acV k a b d] w fun e w' => e = .returned (.bool (true)) ∧ Below w.heap.size w w' := by
  have hB := hid ((Below.refl w.heap.size w).alloc (Nat.le_refl _) (.cells (acA k a b d) 68))
  have hD := hid (fun W => deed_impl k a b d W)
  rw [hn] at hD
  clear hn
  go_enter Tryd.func61, Tryd.ntmps61
  go_wp2_with fail
  refine (hD.out _).mono ?_
  rintro r w1 ⟨rfl, hb⟩
  have hB1 := hid (new_trans hB.out hb)
  clear hb hB hD
  go_wp2_with fail
  refine (bared_impl _).mono ?_
  rintro r w2 ⟨rfl, hb⟩
  have hB2 := hid (new_trans hB1.out hb)
  clear hb hB1
  go_wp2
  go_ret
  exact ⟨rfl, hB2.out⟩
set_option maxRecDepth 100000 in
set_option maxHeartbeats 2000000 in
theorem actok_load (k a b : Int) (d : Bool) (w : World) (hn : deedV k a b d = .iface 203 (.agg #[])) : Calls Tryd.prog 61 #[acV k a b d] w fun e w' => e = .returned (.bool (true)) ∧ Below w.heap.size w w' := by
  have hB := hid ((Below.refl w.heap.size w).alloc (Nat.le_refl _) (.cells (acA k a b d) 68))
  have hD := hid (fun W => deed_impl k a b d W)
  rw [hn] at hD
  clear hn
  go_enter Tryd.func61, Tryd.ntmps61
  go_wp2_with fail
  refine (hD.out _).mono ?_
  rintro r w1 ⟨rfl, hb⟩
  have hB1 := hid (new_trans hB.out hb)
  clear hb hB hD
  go_wp2_with fail
  refine (bared_impl _).mono ?_
  rintro r w2 ⟨rfl, hb⟩
  have hB2 := hid (new_trans hB1.out hb)
  clear hb hB1
  go_wp2
  go_ret
  exact ⟨rfl, hB2.out⟩
theorem actok_impl (k a b : Int) (d : Bool) (w : World) : Calls Tryd.prog 61 #[acV k a b d] w fun e w' => e = .returned (.bool (okAc k a b d)) ∧ Below w.heap.size w w' := by
  by_cases k1 : k = 1
  · subst k1
    exact actok_1 a b d w
  have nil : ∀ Q : Bool, Q = false → deedV k a b d = .nilIface → Calls Tryd.prog 61 #[acV k a b d] w fun e w' => e = .returned (.bool Q) ∧ Below w.heap.size w w' := fun Q hq h => by
    rw [hq]
    exact actok_nil k a b d w h
  by_cases hd : d = false
  · by_cases hb : b = 0
    · by_cases k2 : k = 2
      · have e1 : deedV k a b d = .iface 193 (.agg #[.int .i64 a]) := by simp [deedV, k2, hb, hd]
        have e2 : okAc k a b d = inB a 0 31 := by simp [okAc, k2, hb, hd]
        rw [e2]; exact actok_joy k a b d w e1
      by_cases k6 : k = 6
      · have e1 : deedV k a b d = .iface 201 (.agg #[.int .i64 a]) := by simp [deedV, k6, hb, hd]
        have e2 : okAc k a b d = inB a 0 6 := by simp [okAc, k6, hb, hd]
        rw [e2]; exact actok_frames k a b d w e1
      by_cases ha : a = 0
      · by_cases k3 : k = 3
        · have e1 : deedV k a b d = .iface 197 (.agg #[]) := by simp [deedV, k3, hb, hd, ha]
          have e2 : okAc k a b d = true := by simp [okAc, k3, hb, hd, ha, inB]
          rw [e2]; exact actok_play k a b d w e1
        by_cases k4 : k = 4
        · have e1 : deedV k a b d = .iface 198 (.agg #[]) := by simp [deedV, k4, hb, hd, ha]
          have e2 : okAc k a b d = true := by simp [okAc, k4, hb, hd, ha, inB]
          rw [e2]; exact actok_stop k a b d w e1
        by_cases k5 : k = 5
        · have e1 : deedV k a b d = .iface 199 (.agg #[]) := by simp [deedV, k5, hb, hd, ha]
          have e2 : okAc k a b d = true := by simp [okAc, k5, hb, hd, ha, inB]
          rw [e2]; exact actok_rewind k a b d w e1
        by_cases k7 : k = 7
        · have e1 : deedV k a b d = .iface 202 (.agg #[]) := by simp [deedV, k7, hb, hd, ha]
          have e2 : okAc k a b d = true := by simp [okAc, k7, hb, hd, ha, inB]
          rw [e2]; exact actok_save k a b d w e1
        by_cases k8 : k = 8
        · have e1 : deedV k a b d = .iface 203 (.agg #[]) := by simp [deedV, k8, hb, hd, ha]
          have e2 : okAc k a b d = true := by simp [okAc, k8, hb, hd, ha, inB]
          rw [e2]; exact actok_load k a b d w e1
        have hk : inB k 3 8 = false := by simp only [inB, decide_eq_false_iff_not]; omega
        exact nil _ (by simp [okAc, k1, k2, k6, hk]) (by simp [deedV, k1, k2, k3, k4, k5, k6, k7, k8])
      · exact nil _ (by simp [okAc, k1, k2, k6, ha]) (by simp [deedV, k1, k2, k6, ha])
    · exact nil _ (by simp [okAc, k1, hb]) (by simp [deedV, k1, hb])
  · exact nil _ (by simp [okAc, k1, hd]) (by simp [deedV, k1, hd])
set_option maxRecDepth 100000 in
theorem toac (k a b : Int) (d : Bool) (w : World) : Calls Tryd.prog 21 #[acV k a b d] w fun e w' => e = .returned (acV k a b d) ∧ Below w.heap.size w w' := by
  go_enter Tryd.func21, Tryd.ntmps21
  go_wp2
  exact bodyPost_ret (v := acV k a b d) (by simp [results, Tryd.results21, go_sem]) rfl ⟨rfl, by repeat (first | exact Below.refl _ _ | refine Below.drew ?_ | refine Below.alloc ?_ (by first | omega | (simp; omega) | simp) _ | refine Below.setCell ?_ (by first | omega | (simp; omega) | simp) _)⟩
end Go.Proofs.YtneagomkohoceabDoor
