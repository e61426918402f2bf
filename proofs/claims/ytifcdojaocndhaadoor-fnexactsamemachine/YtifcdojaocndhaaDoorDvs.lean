/- Whether two decks are alike: the specification and the program. -/
import Derived.Test.YtifcdojaocndhaaDoorS25
import Derived.Test.YtifcdojaocndhaaDoorMbs
namespace Go.Proofs.YtifcdojaocndhaaDoor
open Go.ChangeShapes Go.WideShapes Go.ChangeAt Go.RowKit
set_option linter.unusedVariables false
set_option linter.unusedSimpArgs false

set_option maxRecDepth 100000 in
theorem equalD_impl (v v' : Value) (za zb : List Int) (w : World) (h : RowR w v za) (h' : RowR w v' zb) (hl : za.length ≤ 1000000000) (hl' : zb.length ≤ 1000000000) :
    Calls Tryd.prog 158 #[v, v'] w fun e w' => e = .returned (.bool (decide (za = zb))) ∧ ∃ n, w' = w.drewN n := by
  obtain ⟨a, cap, rfl, h⟩ := h
  obtain ⟨a', cap', rfl, h'⟩ := h'
  replace h := hid h
  replace h' := hid h'
  by_cases hne : za.length = zb.length
  · have hN : Hid (∀ k, k < za.length → ¬ za.getD k 0 = zb.getD k 0 → decide (za = zb) = false) := fun k hk hn => by
      apply decide_eq_false
      intro e
      exact hn (by rw [e])
    have hY : Hid ((∀ j, j < za.length → za.getD j 0 = zb.getD j 0) → decide (za = zb) = true) := fun hj => decide_eq_true (getD_ext hne hj)
    have hln := hid hne
    rw [← hne] at hl' ⊢
    clear hne
    go_enter Tryd.func158, Tryd.ntmps158
    go_wp2
    go_loopw [13] (fun i wr => ∃ k : Nat, k ≤ za.length ∧ i = .int .i64 k ∧ (∃ n, wr = w.drewN n) ∧ ∀ j, j < k → za.getD j 0 = zb.getD j 0) (fun i _ => za.length - (intOf i).toNat)
    case atStart => exact ⟨0, by omega, rfl, ⟨0, rfl⟩, fun j hj => by omega⟩
    case round =>
      obtain ⟨k, hk, rfl, ⟨n, rfl⟩, hj⟩ := hrel
      by_cases hlt : k < za.length
      · obtain ⟨b, off, rfl, c1⟩ := row_some h.out hlt
        obtain ⟨b', off', rfl, c2⟩ := row_some h'.out (k := k) (by rw [← hln.out]; exact hlt)
        by_cases he : za.getD k 0 = zb.getD k 0
        · have hj2 : Hid (∀ j, j < k + 1 → za.getD j 0 = zb.getD j 0) := fun j hj1 => by
            by_cases e : j = k
            · rw [e]; exact he
            · exact hj j (by omega)
          rw [← he] at c2
          clear h h' hj hN hY he
          generalize za.getD k 0 = z at *
          go_wp2
          go_region
          go_wp2
          go_roundw
          case rel => exact ⟨k + 1, by omega, by go_num, ⟨n + 1, rfl⟩, hj2.out⟩
          case measure => simp [intOf]; omega
        · have hE := hid (hN.out k hlt he)
          have he2 : (za.getD k 0 != zb.getD k 0) = true := by simpa using he
          clear h h' hj hN hY he
          generalize za.getD k 0 = z at *
          generalize zb.getD k 0 = z' at *
          go_wp2
          go_region
          go_wp2
          go_ret
          exact ⟨ret_bool hE.out.symm, n + 1, rfl⟩
      · obtain rfl : k = za.length := by omega
        have hE := hid (hY.out hj)
        clear hj hN hY
        go_wp2
        go_ret
        exact ⟨ret_bool hE.out.symm, n, rfl⟩
  · have e : decide (za = zb) = false := decide_eq_false (fun e => hne (by rw [e]))
    have hne2 : ((za.length : Int) != (zb.length : Int)) = true := by simp; omega
    rw [e]
    clear e hne
    go_enter Tryd.func158, Tryd.ntmps158
    go_wp2
    go_ret
    exact ⟨rfl, 0, rfl⟩
set_option maxRecDepth 100000 in
theorem same0D_spec (v v' : Value) (za zb : List Int) (w : World) (h : RowR w v za) (h' : RowR w v' zb) (hl : za.length ≤ 1000000000) (hl' : zb.length ≤ 1000000000) :
    Calls Tryd.prog 126 #[v, v'] w fun e w' => e = .returned (.bool (decide (za = zb))) ∧ ∃ n, w' = w.drewN n := by
  obtain ⟨a, cap, rfl, h⟩ := h
  obtain ⟨a', cap', rfl, h'⟩ := h'
  replace h := hid h
  replace h' := hid h'
  by_cases hne : za.length = zb.length
  · have hN : Hid (∀ k, k < za.length → ¬ za.getD k 0 = zb.getD k 0 → decide (za = zb) = false) := fun k hk hn => by
      apply decide_eq_false
      intro e
      exact hn (by rw [e])
    have hY : Hid ((∀ j, j < za.length → za.getD j 0 = zb.getD j 0) → decide (za = zb) = true) := fun hj => decide_eq_true (getD_ext hne hj)
    have hln := hid hne
    rw [← hne] at hl' ⊢
    clear hne
    go_enter Tryd.func126, Tryd.ntmps126
    go_wp2
    go_loopw [5] (fun i wr => ∃ k : Nat, k ≤ za.length ∧ i = .int .i64 k ∧ (∃ n, wr = w.drewN n) ∧ ∀ j, j < k → za.getD j 0 = zb.getD j 0) (fun i _ => za.length - (intOf i).toNat)
    case atStart => exact ⟨0, by omega, rfl, ⟨0, rfl⟩, fun j hj => by omega⟩
    case round =>
      obtain ⟨k, hk, rfl, ⟨n, rfl⟩, hj⟩ := hrel
      by_cases hlt : k < za.length
      · obtain ⟨b, off, rfl, c1⟩ := row_some h.out hlt
        obtain ⟨b', off', rfl, c2⟩ := row_some h'.out (k := k) (by rw [← hln.out]; exact hlt)
        by_cases he : za.getD k 0 = zb.getD k 0
        · have hj2 : Hid (∀ j, j < k + 1 → za.getD j 0 = zb.getD j 0) := fun j hj1 => by
            by_cases e : j = k
            · rw [e]; exact he
            · exact hj j (by omega)
          rw [← he] at c2
          clear h h' hj hN hY he
          generalize za.getD k 0 = z at *
          go_wp2
          go_region
          go_wp2
          go_roundw
          case rel => exact ⟨k + 1, by omega, by go_num, ⟨n + 1, rfl⟩, hj2.out⟩
          case measure => simp [intOf]; omega
        · have hE := hid (hN.out k hlt he)
          have he2 : (za.getD k 0 != zb.getD k 0) = true := by simpa using he
          clear h h' hj hN hY he
          generalize za.getD k 0 = z at *
          generalize zb.getD k 0 = z' at *
          go_wp2
          go_region
          go_wp2
          go_ret
          exact ⟨ret_bool hE.out.symm, n + 1, rfl⟩
      · obtain rfl : k = za.length := by omega
        have hE := hid (hY.out hj)
        clear hj hN hY
        go_wp2
        go_ret
        exact ⟨ret_bool hE.out.symm, n, rfl⟩
  · have e : decide (za = zb) = false := decide_eq_false (fun e => hne (by rw [e]))
    have hne2 : ((za.length : Int) != (zb.length : Int)) = true := by simp; omega
    rw [e]
    clear e hne
    go_enter Tryd.func126, Tryd.ntmps126
    go_wp2
    go_ret
    exact ⟨rfl, 0, rfl⟩
theorem Dk.same_eq (P P2 : List Int) (ix lf ix2 lf2 : Int) (lv pl lv2 pl2 : Bool) : (Dk.mk P ix lf lv pl).same ⟨P2, ix2, lf2, lv2, pl2⟩ = ((Dk.mk P ix lf lv pl).ok && (Dk.mk P2 ix2 lf2 lv2 pl2).ok && decide (P = P2) && (ix == ix2) && (lf == lf2) && (lv == lv2) && (pl == pl2)) := by
  have e1 : decide (ix = ix2) = (ix == ix2) := by rw [Bool.eq_iff_iff]; simp
  have e2 : decide (lf = lf2) = (lf == lf2) := by rw [Bool.eq_iff_iff]; simp
  rw [← e1, ← e2]
  rfl
set_option maxRecDepth 100000 in
set_option maxHeartbeats 2000000 in
theorem sds_n1 (a1 a2 : Option Addr) (c1 c2 : Nat) (P P2 : List Int) (ix lf ix2 lf2 : Int) (lv pl lv2 pl2 : Bool) (w : World) (h : RowR w (.slice a1 P.length c1) P) (h2 : RowR w (.slice a2 P2.length c2) P2) (hl : P.length ≤ 1048576) (hl2 : P2.length ≤ 1048576) (k2v : Bool) (k1 : (Dk.mk P ix lf lv pl).ok = false) (k2 : (Dk.mk P2 ix2 lf2 lv2 pl2).ok = k2v) :
    Calls Tryd.prog 71 #[.agg #[.slice a1 P.length c1, .int .i64 ix, .int .i64 lf, .bool lv, .bool pl], .agg #[.slice a2 P2.length c2, .int .i64 ix2, .int .i64 lf2, .bool lv2, .bool pl2]] w fun e w' => e = .returned (.bool false) ∧ Below w.heap.size w w' := by
  obtain ⟨q1, q2, hB⟩ := two_newD w #[.slice a1 P.length c1, .int .i64 ix, .int .i64 lf, .bool lv, .bool pl] #[.slice a2 P2.length c2, .int .i64 ix2, .int .i64 lf2, .bool lv2, .bool pl2] 38 38
  have hO1 := hid (fun W hh => deckok_spec a1 c1 ⟨P, ix, lf, lv, pl⟩ W hh hl)
  have hO2 := hid (fun W hh => deckok_spec a2 c2 ⟨P2, ix2, lf2, lv2, pl2⟩ W hh hl2)
  rw [k1] at hO1
  rw [k2] at hO2
  have hr1 := h.below hB
  have hr2 := h2.below hB
  clear k1 k2
  go_enter Tryd.func71, Tryd.ntmps71
  go_upto_region 1 with fail
  obtain ⟨V, hV⟩ : ∃ V, (w.alloc (.cells #[.slice a1 P.length c1, .int .i64 ix, .int .i64 lf, .bool lv, .bool pl] 38)).alloc (.cells #[.slice a2 P2.length c2, .int .i64 ix2, .int .i64 lf2, .bool lv2, .bool pl2] 38) = V := ⟨_, rfl⟩
  rw [hV] at q1 q2 hB hr1 hr2 ⊢
  clear hV
  obtain ⟨O, hO⟩ : ∃ O, w.heap.size = O := ⟨_, rfl⟩
  have hB' : Hid (Below w.heap.size w V) := hB
  rw [hO] at q1 q2 ⊢
  clear hO hB
  have x1 := q1.cell
  have x2 := q2.cell
  replace q1 := hid q1
  replace q2 := hid q2
  replace hr1 := hid hr1
  replace hr2 := hid hr2
  go_wp2_with fail
  refine (hO1.out _ hr1.out).mono ?_
  rintro e w1 ⟨rfl, hb⟩
  have q3 := hid (q1.out.below hb q1.out.lt)
  have q4 := hid (q2.out.below hb q2.out.lt)
  have hr3 := hid (hr1.out.below hb)
  have hr4 := hid (hr2.out.below hb)
  have B1 := hid (new_trans hB'.out hb)
  clear hb x1 x2 q1 q2 hr1 hr2 hB' hO1
  have x1 := q3.out.cell
  have x2 := q4.out.cell
  go_wp2
  go_ret
  exact ⟨rfl, B1.out⟩
set_option maxRecDepth 100000 in
set_option maxHeartbeats 2000000 in
theorem sds_n2 (a1 a2 : Option Addr) (c1 c2 : Nat) (P P2 : List Int) (ix lf ix2 lf2 : Int) (lv pl lv2 pl2 : Bool) (w : World) (h : RowR w (.slice a1 P.length c1) P) (h2 : RowR w (.slice a2 P2.length c2) P2) (hl : P.length ≤ 1048576) (hl2 : P2.length ≤ 1048576) (k1 : (Dk.mk P ix lf lv pl).ok = true) (k2 : (Dk.mk P2 ix2 lf2 lv2 pl2).ok = false) :
    Calls Tryd.prog 71 #[.agg #[.slice a1 P.length c1, .int .i64 ix, .int .i64 lf, .bool lv, .bool pl], .agg #[.slice a2 P2.length c2, .int .i64 ix2, .int .i64 lf2, .bool lv2, .bool pl2]] w fun e w' => e = .returned (.bool false) ∧ Below w.heap.size w w' := by
  obtain ⟨q1, q2, hB⟩ := two_newD w #[.slice a1 P.length c1, .int .i64 ix, .int .i64 lf, .bool lv, .bool pl] #[.slice a2 P2.length c2, .int .i64 ix2, .int .i64 lf2, .bool lv2, .bool pl2] 38 38
  have hO1 := hid (fun W hh => deckok_spec a1 c1 ⟨P, ix, lf, lv, pl⟩ W hh hl)
  have hO2 := hid (fun W hh => deckok_spec a2 c2 ⟨P2, ix2, lf2, lv2, pl2⟩ W hh hl2)
  rw [k1] at hO1
  rw [k2] at hO2
  have hr1 := h.below hB
  have hr2 := h2.below hB
  clear k1 k2
  go_enter Tryd.func71, Tryd.ntmps71
  go_upto_region 1 with fail
  obtain ⟨V, hV⟩ : ∃ V, (w.alloc (.cells #[.slice a1 P.length c1, .int .i64 ix, .int .i64 lf, .bool lv, .bool pl] 38)).alloc (.cells #[.slice a2 P2.length c2, .int .i64 ix2, .int .i64 lf2, .bool lv2, .bool pl2] 38) = V := ⟨_, rfl⟩
  rw [hV] at q1 q2 hB hr1 hr2 ⊢
  clear hV
  obtain ⟨O, hO⟩ : ∃ O, w.heap.size = O := ⟨_, rfl⟩
  have hB' : Hid (Below w.heap.size w V) := hB
  rw [hO] at q1 q2 ⊢
  clear hO hB
  have x1 := q1.cell
  have x2 := q2.cell
  replace q1 := hid q1
  replace q2 := hid q2
  replace hr1 := hid hr1
  replace hr2 := hid hr2
  go_wp2_with fail
  refine (hO1.out _ hr1.out).mono ?_
  rintro e w1 ⟨rfl, hb⟩
  have q3 := hid (q1.out.below hb q1.out.lt)
  have q4 := hid (q2.out.below hb q2.out.lt)
  have hr3 := hid (hr1.out.below hb)
  have hr4 := hid (hr2.out.below hb)
  have B1 := hid (new_trans hB'.out hb)
  clear hb x1 x2 q1 q2 hr1 hr2 hB' hO1
  have x1 := q3.out.cell
  have x2 := q4.out.cell
  go_wp2_with fail
  refine (hO2.out _ hr4.out).mono ?_
  rintro e w2 ⟨rfl, hb⟩
  have q5 := hid (q3.out.below hb q3.out.lt)
  have q6 := hid (q4.out.below hb q4.out.lt)
  have hr5 := hid (hr3.out.below hb)
  have hr6 := hid (hr4.out.below hb)
  have B2 := hid (new_trans B1.out hb)
  clear hb x1 x2 q3 q4 hr3 hr4 B1 hO2
  have x1 := q5.out.cell
  have x2 := q6.out.cell
  go_wp2
  go_ret
  exact ⟨rfl, B2.out⟩
set_option maxRecDepth 100000 in
set_option maxHeartbeats 2000000 in
theorem sds_n3 (a1 a2 : Option Addr) (c1 c2 : Nat) (P P2 : List Int) (ix lf ix2 lf2 : Int) (lv pl lv2 pl2 : Bool) (w : World) (h : RowR w (.slice a1 P.length c1) P) (h2 : RowR w (.slice a2 P2.length c2) P2) (hl : P.length ≤ 1048576) (hl2 : P2.length ≤ 1048576) (k1 : (Dk.mk P ix lf lv pl).ok = true) (k2 : (Dk.mk P2 ix2 lf2 lv2 pl2).ok = true) (hp : decide (P = P2) = false) :
    Calls Tryd.prog 71 #[.agg #[.slice a1 P.length c1, .int .i64 ix, .int .i64 lf, .bool lv, .bool pl], .agg #[.slice a2 P2.length c2, .int .i64 ix2, .int .i64 lf2, .bool lv2, .bool pl2]] w fun e w' => e = .returned (.bool false) ∧ Below w.heap.size w w' := by
  obtain ⟨q1, q2, hB⟩ := two_newD w #[.slice a1 P.length c1, .int .i64 ix, .int .i64 lf, .bool lv, .bool pl] #[.slice a2 P2.length c2, .int .i64 ix2, .int .i64 lf2, .bool lv2, .bool pl2] 38 38
  have hO1 := hid (fun W hh => deckok_spec a1 c1 ⟨P, ix, lf, lv, pl⟩ W hh hl)
  have hO2 := hid (fun W hh => deckok_spec a2 c2 ⟨P2, ix2, lf2, lv2, pl2⟩ W hh hl2)
  rw [k1] at hO1
  rw [k2] at hO2
  have hr1 := h.below hB
  have hr2 := h2.below hB
  clear k1 k2
  go_enter Tryd.func71, Tryd.ntmps71
  go_upto_region 1 with fail
  obtain ⟨V, hV⟩ : ∃ V, (w.alloc (.cells #[.slice a1 P.length c1, .int .i64 ix, .int .i64 lf, .bool lv, .bool pl] 38)).alloc (.cells #[.slice a2 P2.length c2, .int .i64 ix2, .int .i64 lf2, .bool lv2, .bool pl2] 38) = V := ⟨_, rfl⟩
  rw [hV] at q1 q2 hB hr1 hr2 ⊢
  clear hV
  obtain ⟨O, hO⟩ : ∃ O, w.heap.size = O := ⟨_, rfl⟩
  have hB' : Hid (Below w.heap.size w V) := hB
  rw [hO] at q1 q2 ⊢
  clear hO hB
  have x1 := q1.cell
  have x2 := q2.cell
  replace q1 := hid q1
  replace q2 := hid q2
  replace hr1 := hid hr1
  replace hr2 := hid hr2
  go_wp2_with fail
  refine (hO1.out _ hr1.out).mono ?_
  rintro e w1 ⟨rfl, hb⟩
  have q3 := hid (q1.out.below hb q1.out.lt)
  have q4 := hid (q2.out.below hb q2.out.lt)
  have hr3 := hid (hr1.out.below hb)
  have hr4 := hid (hr2.out.below hb)
  have B1 := hid (new_trans hB'.out hb)
  clear hb x1 x2 q1 q2 hr1 hr2 hB' hO1
  have x1 := q3.out.cell
  have x2 := q4.out.cell
  go_wp2_with fail
  refine (hO2.out _ hr4.out).mono ?_
  rintro e w2 ⟨rfl, hb⟩
  have q5 := hid (q3.out.below hb q3.out.lt)
  have q6 := hid (q4.out.below hb q4.out.lt)
  have hr5 := hid (hr3.out.below hb)
  have hr6 := hid (hr4.out.below hb)
  have B2 := hid (new_trans B1.out hb)
  clear hb x1 x2 q3 q4 hr3 hr4 B1 hO2
  have x1 := q5.out.cell
  have x2 := q6.out.cell
  have hE := hid (same0D_spec _ _ P P2 w2 hr5.out hr6.out (by omega) (by omega))
  rw [hp] at hE
  go_wp2_with fail
  refine hE.out.mono ?_
  rintro e w3 ⟨rfl, n3, rfl⟩
  have B3 : Hid (Below w.heap.size w (w2.drewN n3)) := B2.out.trans (Below.drewN _ _ _)
  have q7 : Blk (w2.drewN n3) O _ := q5.out
  have q8 : Blk (w2.drewN n3) (O + 1) _ := q6.out
  obtain ⟨W3, hW3⟩ : ∃ W, w2.drewN n3 = W := ⟨_, rfl⟩
  rw [hW3] at q7 q8 B3 ⊢
  clear hW3 x1 x2 q5 q6 hr5 hr6 B2 hE
  have x1 := q7.cell
  have x2 := q8.cell
  clear q7 q8
  go_wp2
  go_ret
  exact ⟨rfl, B3.out⟩
set_option maxRecDepth 100000 in
set_option maxHeartbeats 2000000 in
theorem sds_e0 (a1 a2 : Option Addr) (c1 c2 : Nat) (P P2 : List Int) (ix lf ix2 lf2 : Int) (lv pl lv2 pl2 : Bool) (w : World) (h : RowR w (.slice a1 P.length c1) P) (h2 : RowR w (.slice a2 P2.length c2) P2) (hl : P.length ≤ 1048576) (hl2 : P2.length ≤ 1048576) (k1 : (Dk.mk P ix lf lv pl).ok = true) (k2 : (Dk.mk P2 ix2 lf2 lv2 pl2).ok = true) (hp : decide (P = P2) = true) (e0 : (ix == ix2) = false) :
    Calls Tryd.prog 71 #[.agg #[.slice a1 P.length c1, .int .i64 ix, .int .i64 lf, .bool lv, .bool pl], .agg #[.slice a2 P2.length c2, .int .i64 ix2, .int .i64 lf2, .bool lv2, .bool pl2]] w fun e w' => e = .returned (.bool false) ∧ Below w.heap.size w w' := by
  obtain ⟨q1, q2, hB⟩ := two_newD w #[.slice a1 P.length c1, .int .i64 ix, .int .i64 lf, .bool lv, .bool pl] #[.slice a2 P2.length c2, .int .i64 ix2, .int .i64 lf2, .bool lv2, .bool pl2] 38 38
  have hO1 := hid (fun W hh => deckok_spec a1 c1 ⟨P, ix, lf, lv, pl⟩ W hh hl)
  have hO2 := hid (fun W hh => deckok_spec a2 c2 ⟨P2, ix2, lf2, lv2, pl2⟩ W hh hl2)
  rw [k1] at hO1
  rw [k2] at hO2
  have hr1 := h.below hB
  have hr2 := h2.below hB
  clear k1 k2
  go_enter Tryd.func71, Tryd.ntmps71
  go_upto_region 1 with fail
  obtain ⟨V, hV⟩ : ∃ V, (w.alloc (.cells #[.slice a1 P.length c1, .int .i64 ix, .int .i64 lf, .bool lv, .bool pl] 38)).alloc (.cells #[.slice a2 P2.length c2, .int .i64 ix2, .int .i64 lf2, .bool lv2, .bool pl2] 38) = V := ⟨_, rfl⟩
  rw [hV] at q1 q2 hB hr1 hr2 ⊢
  clear hV
  obtain ⟨O, hO⟩ : ∃ O, w.heap.size = O := ⟨_, rfl⟩
  have hB' : Hid (Below w.heap.size w V) := hB
  rw [hO] at q1 q2 ⊢
  clear hO hB
  have x1 := q1.cell
  have x2 := q2.cell
  replace q1 := hid q1
  replace q2 := hid q2
  replace hr1 := hid hr1
  replace hr2 := hid hr2
  go_wp2_with fail
  refine (hO1.out _ hr1.out).mono ?_
  rintro e w1 ⟨rfl, hb⟩
  have q3 := hid (q1.out.below hb q1.out.lt)
  have q4 := hid (q2.out.below hb q2.out.lt)
  have hr3 := hid (hr1.out.below hb)
  have hr4 := hid (hr2.out.below hb)
  have B1 := hid (new_trans hB'.out hb)
  clear hb x1 x2 q1 q2 hr1 hr2 hB' hO1
  have x1 := q3.out.cell
  have x2 := q4.out.cell
  go_wp2_with fail
  refine (hO2.out _ hr4.out).mono ?_
  rintro e w2 ⟨rfl, hb⟩
  have q5 := hid (q3.out.below hb q3.out.lt)
  have q6 := hid (q4.out.below hb q4.out.lt)
  have hr5 := hid (hr3.out.below hb)
  have hr6 := hid (hr4.out.below hb)
  have B2 := hid (new_trans B1.out hb)
  clear hb x1 x2 q3 q4 hr3 hr4 B1 hO2
  have x1 := q5.out.cell
  have x2 := q6.out.cell
  have hE := hid (same0D_spec _ _ P P2 w2 hr5.out hr6.out (by omega) (by omega))
  rw [hp] at hE
  go_wp2_with fail
  refine hE.out.mono ?_
  rintro e w3 ⟨rfl, n3, rfl⟩
  have B3 : Hid (Below w.heap.size w (w2.drewN n3)) := B2.out.trans (Below.drewN _ _ _)
  have q7 : Blk (w2.drewN n3) O _ := q5.out
  have q8 : Blk (w2.drewN n3) (O + 1) _ := q6.out
  obtain ⟨W3, hW3⟩ : ∃ W, w2.drewN n3 = W := ⟨_, rfl⟩
  rw [hW3] at q7 q8 B3 ⊢
  clear hW3 x1 x2 q5 q6 hr5 hr6 B2 hE
  have x1 := q7.cell
  have x2 := q8.cell
  clear q7 q8
  go_wp2
  go_ret
  exact ⟨rfl, B3.out⟩
set_option maxRecDepth 100000 in
set_option maxHeartbeats 2000000 in
theorem sds_e1 (a1 a2 : Option Addr) (c1 c2 : Nat) (P P2 : List Int) (ix lf ix2 lf2 : Int) (lv pl lv2 pl2 : Bool) (w : World) (h : RowR w (.slice a1 P.length c1) P) (h2 : RowR w (.slice a2 P2.length c2) P2) (hl : P.length ≤ 1048576) (hl2 : P2.length ≤ 1048576) (k1 : (Dk.mk P ix lf lv pl).ok = true) (k2 : (Dk.mk P2 ix2 lf2 lv2 pl2).ok = true) (hp : decide (P = P2) = true) (e0 : (ix == ix2) = true) (e1 : (lf == lf2) = false) :
    Calls Tryd.prog 71 #[.agg #[.slice a1 P.length c1, .int .i64 ix, .int .i64 lf, .bool lv, .bool pl], .agg #[.slice a2 P2.length c2, .int .i64 ix2, .int .i64 lf2, .bool lv2, .bool pl2]] w fun e w' => e = .returned (.bool false) ∧ Below w.heap.size w w' := by
  obtain ⟨q1, q2, hB⟩ := two_newD w #[.slice a1 P.length c1, .int .i64 ix, .int .i64 lf, .bool lv, .bool pl] #[.slice a2 P2.length c2, .int .i64 ix2, .int .i64 lf2, .bool lv2, .bool pl2] 38 38
  have hO1 := hid (fun W hh => deckok_spec a1 c1 ⟨P, ix, lf, lv, pl⟩ W hh hl)
  have hO2 := hid (fun W hh => deckok_spec a2 c2 ⟨P2, ix2, lf2, lv2, pl2⟩ W hh hl2)
  rw [k1] at hO1
  rw [k2] at hO2
  have hr1 := h.below hB
  have hr2 := h2.below hB
  clear k1 k2
  go_enter Tryd.func71, Tryd.ntmps71
  go_upto_region 1 with fail
  obtain ⟨V, hV⟩ : ∃ V, (w.alloc (.cells #[.slice a1 P.length c1, .int .i64 ix, .int .i64 lf, .bool lv, .bool pl] 38)).alloc (.cells #[.slice a2 P2.length c2, .int .i64 ix2, .int .i64 lf2, .bool lv2, .bool pl2] 38) = V := ⟨_, rfl⟩
  rw [hV] at q1 q2 hB hr1 hr2 ⊢
  clear hV
  obtain ⟨O, hO⟩ : ∃ O, w.heap.size = O := ⟨_, rfl⟩
  have hB' : Hid (Below w.heap.size w V) := hB
  rw [hO] at q1 q2 ⊢
  clear hO hB
  have x1 := q1.cell
  have x2 := q2.cell
  replace q1 := hid q1
  replace q2 := hid q2
  replace hr1 := hid hr1
  replace hr2 := hid hr2
  go_wp2_with fail
  refine (hO1.out _ hr1.out).mono ?_
  rintro e w1 ⟨rfl, hb⟩
  have q3 := hid (q1.out.below hb q1.out.lt)
  have q4 := hid (q2.out.below hb q2.out.lt)
  have hr3 := hid (hr1.out.below hb)
  have hr4 := hid (hr2.out.below hb)
  have B1 := hid (new_trans hB'.out hb)
  clear hb x1 x2 q1 q2 hr1 hr2 hB' hO1
  have x1 := q3.out.cell
  have x2 := q4.out.cell
  go_wp2_with fail
  refine (hO2.out _ hr4.out).mono ?_
  rintro e w2 ⟨rfl, hb⟩
  have q5 := hid (q3.out.below hb q3.out.lt)
  have q6 := hid (q4.out.below hb q4.out.lt)
  have hr5 := hid (hr3.out.below hb)
  have hr6 := hid (hr4.out.below hb)
  have B2 := hid (new_trans B1.out hb)
  clear hb x1 x2 q3 q4 hr3 hr4 B1 hO2
  have x1 := q5.out.cell
  have x2 := q6.out.cell
  have hE := hid (same0D_spec _ _ P P2 w2 hr5.out hr6.out (by omega) (by omega))
  rw [hp] at hE
  go_wp2_with fail
  refine hE.out.mono ?_
  rintro e w3 ⟨rfl, n3, rfl⟩
  have B3 : Hid (Below w.heap.size w (w2.drewN n3)) := B2.out.trans (Below.drewN _ _ _)
  have q7 : Blk (w2.drewN n3) O _ := q5.out
  have q8 : Blk (w2.drewN n3) (O + 1) _ := q6.out
  obtain ⟨W3, hW3⟩ : ∃ W, w2.drewN n3 = W := ⟨_, rfl⟩
  rw [hW3] at q7 q8 B3 ⊢
  clear hW3 x1 x2 q5 q6 hr5 hr6 B2 hE
  have x1 := q7.cell
  have x2 := q8.cell
  clear q7 q8
  go_wp2
  go_ret
  exact ⟨rfl, B3.out⟩
set_option maxRecDepth 100000 in
set_option maxHeartbeats 2000000 in
theorem sds_e2 (a1 a2 : Option Addr) (c1 c2 : Nat) (P P2 : List Int) (ix lf ix2 lf2 : Int) (lv pl lv2 pl2 : Bool) (w : World) (h : RowR w (.slice a1 P.length c1) P) (h2 : RowR w (.slice a2 P2.length c2) P2) (hl : P.length ≤ 1048576) (hl2 : P2.length ≤ 1048576) (k1 : (Dk.mk P ix lf lv pl).ok = true) (k2 : (Dk.mk P2 ix2 lf2 lv2 pl2).ok = true) (hp : decide (P = P2) = true) (e0 : (ix == ix2) = true) (e1 : (lf == lf2) = true) (e2 : (lv == lv2) = false) :
    Calls Tryd.prog 71 #[.agg #[.slice a1 P.length c1, .int .i64 ix, .int .i64 lf, .bool lv, .bool pl], .agg #[.slice a2 P2.length c2, .int .i64 ix2, .int .i64 lf2, .bool lv2, .bool pl2]] w fun e w' => e = .returned (.bool false) ∧ Below w.heap.size w w' := by
  obtain ⟨q1, q2, hB⟩ := two_newD w #[.slice a1 P.length c1, .int .i64 ix, .int .i64 lf, .bool lv, .bool pl] #[.slice a2 P2.length c2, .int .i64 ix2, .int .i64 lf2, .bool lv2, .bool pl2] 38 38
  have hO1 := hid (fun W hh => deckok_spec a1 c1 ⟨P, ix, lf, lv, pl⟩ W hh hl)
  have hO2 := hid (fun W hh => deckok_spec a2 c2 ⟨P2, ix2, lf2, lv2, pl2⟩ W hh hl2)
  rw [k1] at hO1
  rw [k2] at hO2
  have hr1 := h.below hB
  have hr2 := h2.below hB
  clear k1 k2
  go_enter Tryd.func71, Tryd.ntmps71
  go_upto_region 1 with fail
  obtain ⟨V, hV⟩ : ∃ V, (w.alloc (.cells #[.slice a1 P.length c1, .int .i64 ix, .int .i64 lf, .bool lv, .bool pl] 38)).alloc (.cells #[.slice a2 P2.length c2, .int .i64 ix2, .int .i64 lf2, .bool lv2, .bool pl2] 38) = V := ⟨_, rfl⟩
  rw [hV] at q1 q2 hB hr1 hr2 ⊢
  clear hV
  obtain ⟨O, hO⟩ : ∃ O, w.heap.size = O := ⟨_, rfl⟩
  have hB' : Hid (Below w.heap.size w V) := hB
  rw [hO] at q1 q2 ⊢
  clear hO hB
  have x1 := q1.cell
  have x2 := q2.cell
  replace q1 := hid q1
  replace q2 := hid q2
  replace hr1 := hid hr1
  replace hr2 := hid hr2
  go_wp2_with fail
  refine (hO1.out _ hr1.out).mono ?_
  rintro e w1 ⟨rfl, hb⟩
  have q3 := hid (q1.out.below hb q1.out.lt)
  have q4 := hid (q2.out.below hb q2.out.lt)
  have hr3 := hid (hr1.out.below hb)
  have hr4 := hid (hr2.out.below hb)
  have B1 := hid (new_trans hB'.out hb)
  clear hb x1 x2 q1 q2 hr1 hr2 hB' hO1
  have x1 := q3.out.cell
  have x2 := q4.out.cell
  go_wp2_with fail
  refine (hO2.out _ hr4.out).mono ?_
  rintro e w2 ⟨rfl, hb⟩
  have q5 := hid (q3.out.below hb q3.out.lt)
  have q6 := hid (q4.out.below hb q4.out.lt)
  have hr5 := hid (hr3.out.below hb)
  have hr6 := hid (hr4.out.below hb)
  have B2 := hid (new_trans B1.out hb)
  clear hb x1 x2 q3 q4 hr3 hr4 B1 hO2
  have x1 := q5.out.cell
  have x2 := q6.out.cell
  have hE := hid (same0D_spec _ _ P P2 w2 hr5.out hr6.out (by omega) (by omega))
  rw [hp] at hE
  go_wp2_with fail
  refine hE.out.mono ?_
  rintro e w3 ⟨rfl, n3, rfl⟩
  have B3 : Hid (Below w.heap.size w (w2.drewN n3)) := B2.out.trans (Below.drewN _ _ _)
  have q7 : Blk (w2.drewN n3) O _ := q5.out
  have q8 : Blk (w2.drewN n3) (O + 1) _ := q6.out
  obtain ⟨W3, hW3⟩ : ∃ W, w2.drewN n3 = W := ⟨_, rfl⟩
  rw [hW3] at q7 q8 B3 ⊢
  clear hW3 x1 x2 q5 q6 hr5 hr6 B2 hE
  have x1 := q7.cell
  have x2 := q8.cell
  clear q7 q8
  go_wp2
  go_ret
  exact ⟨rfl, B3.out⟩
set_option maxRecDepth 100000 in
set_option maxHeartbeats 2000000 in
theorem sds_e3 (a1 a2 : Option Addr) (c1 c2 : Nat) (P P2 : List Int) (ix lf ix2 lf2 : Int) (lv pl lv2 pl2 : Bool) (w : World) (h : RowR w (.slice a1 P.length c1) P) (h2 : RowR w (.slice a2 P2.length c2) P2) (hl : P.length ≤ 1048576) (hl2 : P2.length ≤ 1048576) (k1 : (Dk.mk P ix lf lv pl).ok = true) (k2 : (Dk.mk P2 ix2 lf2 lv2 pl2).ok = true) (hp : decide (P = P2) = true) (e0 : (ix == ix2) = true) (e1 : (lf == lf2) = true) (e2 : (lv == lv2) = true) (e3 : (pl == pl2) = false) :
    Calls Tryd.prog 71 #[.agg #[.slice a1 P.length c1, .int .i64 ix, .int .i64 lf, .bool lv, .bool pl], .agg #[.slice a2 P2.length c2, .int .i64 ix2, .int .i64 lf2, .bool lv2, .bool pl2]] w fun e w' => e = .returned (.bool false) ∧ Below w.heap.size w w' := by
  obtain ⟨q1, q2, hB⟩ := two_newD w #[.slice a1 P.length c1, .int .i64 ix, .int .i64 lf, .bool lv, .bool pl] #[.slice a2 P2.length c2, .int .i64 ix2, .int .i64 lf2, .bool lv2, .bool pl2] 38 38
  have hO1 := hid (fun W hh => deckok_spec a1 c1 ⟨P, ix, lf, lv, pl⟩ W hh hl)
  have hO2 := hid (fun W hh => deckok_spec a2 c2 ⟨P2, ix2, lf2, lv2, pl2⟩ W hh hl2)
  rw [k1] at hO1
  rw [k2] at hO2
  have hr1 := h.below hB
  have hr2 := h2.below hB
  clear k1 k2
  go_enter Tryd.func71, Tryd.ntmps71
  go_upto_region 1 with fail
  obtain ⟨V, hV⟩ : ∃ V, (w.alloc (.cells #[.slice a1 P.length c1, .int .i64 ix, .int .i64 lf, .bool lv, .bool pl] 38)).alloc (.cells #[.slice a2 P2.length c2, .int .i64 ix2, .int .i64 lf2, .bool lv2, .bool pl2] 38) = V := ⟨_, rfl⟩
  rw [hV] at q1 q2 hB hr1 hr2 ⊢
  clear hV
  obtain ⟨O, hO⟩ : ∃ O, w.heap.size = O := ⟨_, rfl⟩
  have hB' : Hid (Below w.heap.size w V) := hB
  rw [hO] at q1 q2 ⊢
  clear hO hB
  have x1 := q1.cell
  have x2 := q2.cell
  replace q1 := hid q1
  replace q2 := hid q2
  replace hr1 := hid hr1
  replace hr2 := hid hr2
  go_wp2_with fail
  refine (hO1.out _ hr1.out).mono ?_
  rintro e w1 ⟨rfl, hb⟩
  have q3 := hid (q1.out.below hb q1.out.lt)
  have q4 := hid (q2.out.below hb q2.out.lt)
  have hr3 := hid (hr1.out.below hb)
  have hr4 := hid (hr2.out.below hb)
  have B1 := hid (new_trans hB'.out hb)
  clear hb x1 x2 q1 q2 hr1 hr2 hB' hO1
  have x1 := q3.out.cell
  have x2 := q4.out.cell
  go_wp2_with fail
  refine (hO2.out _ hr4.out).mono ?_
  rintro e w2 ⟨rfl, hb⟩
  have q5 := hid (q3.out.below hb q3.out.lt)
  have q6 := hid (q4.out.below hb q4.out.lt)
  have hr5 := hid (hr3.out.below hb)
  have hr6 := hid (hr4.out.below hb)
  have B2 := hid (new_trans B1.out hb)
  clear hb x1 x2 q3 q4 hr3 hr4 B1 hO2
  have x1 := q5.out.cell
  have x2 := q6.out.cell
  have hE := hid (same0D_spec _ _ P P2 w2 hr5.out hr6.out (by omega) (by omega))
  rw [hp] at hE
  go_wp2_with fail
  refine hE.out.mono ?_
  rintro e w3 ⟨rfl, n3, rfl⟩
  have B3 : Hid (Below w.heap.size w (w2.drewN n3)) := B2.out.trans (Below.drewN _ _ _)
  have q7 : Blk (w2.drewN n3) O _ := q5.out
  have q8 : Blk (w2.drewN n3) (O + 1) _ := q6.out
  obtain ⟨W3, hW3⟩ : ∃ W, w2.drewN n3 = W := ⟨_, rfl⟩
  rw [hW3] at q7 q8 B3 ⊢
  clear hW3 x1 x2 q5 q6 hr5 hr6 B2 hE
  have x1 := q7.cell
  have x2 := q8.cell
  clear q7 q8
  go_wp2
  go_ret
  exact ⟨rfl, B3.out⟩
set_option maxRecDepth 100000 in
set_option maxHeartbeats 2000000 in
theorem sds_e4 (a1 a2 : Option Addr) (c1 c2 : Nat) (P P2 : List Int) (ix lf ix2 lf2 : Int) (lv pl lv2 pl2 : Bool) (w : World) (h : RowR w (.slice a1 P.length c1) P) (h2 : RowR w (.slice a2 P2.length c2) P2) (hl : P.length ≤ 1048576) (hl2 : P2.length ≤ 1048576) (k1 : (Dk.mk P ix lf lv pl).ok = true) (k2 : (Dk.mk P2 ix2 lf2 lv2 pl2).ok = true) (hp : decide (P = P2) = true) (e0 : (ix == ix2) = true) (e1 : (lf == lf2) = true) (e2 : (lv == lv2) = true) (e3 : (pl == pl2) = true) :
    Calls Tryd.prog 71 #[.agg #[.slice a1 P.length c1, .int .i64 ix, .int .i64 lf, .bool lv, .bool pl], .agg #[.slice a2 P2.length c2, .int .i64 ix2, .int .i64 lf2, .bool lv2, .bool pl2]] w fun e w' => e = .returned (.bool true) ∧ Below w.heap.size w w' := by
  obtain ⟨q1, q2, hB⟩ := two_newD w #[.slice a1 P.length c1, .int .i64 ix, .int .i64 lf, .bool lv, .bool pl] #[.slice a2 P2.length c2, .int .i64 ix2, .int .i64 lf2, .bool lv2, .bool pl2] 38 38
  have hO1 := hid (fun W hh => deckok_spec a1 c1 ⟨P, ix, lf, lv, pl⟩ W hh hl)
  have hO2 := hid (fun W hh => deckok_spec a2 c2 ⟨P2, ix2, lf2, lv2, pl2⟩ W hh hl2)
  rw [k1] at hO1
  rw [k2] at hO2
  have hr1 := h.below hB
  have hr2 := h2.below hB
  clear k1 k2
  go_enter Tryd.func71, Tryd.ntmps71
  go_upto_region 1 with fail
  obtain ⟨V, hV⟩ : ∃ V, (w.alloc (.cells #[.slice a1 P.length c1, .int .i64 ix, .int .i64 lf, .bool lv, .bool pl] 38)).alloc (.cells #[.slice a2 P2.length c2, .int .i64 ix2, .int .i64 lf2, .bool lv2, .bool pl2] 38) = V := ⟨_, rfl⟩
  rw [hV] at q1 q2 hB hr1 hr2 ⊢
  clear hV
  obtain ⟨O, hO⟩ : ∃ O, w.heap.size = O := ⟨_, rfl⟩
  have hB' : Hid (Below w.heap.size w V) := hB
  rw [hO] at q1 q2 ⊢
  clear hO hB
  have x1 := q1.cell
  have x2 := q2.cell
  replace q1 := hid q1
  replace q2 := hid q2
  replace hr1 := hid hr1
  replace hr2 := hid hr2
  go_wp2_with fail
  refine (hO1.out _ hr1.out).mono ?_
  rintro e w1 ⟨rfl, hb⟩
  have q3 := hid (q1.out.below hb q1.out.lt)
  have q4 := hid (q2.out.below hb q2.out.lt)
  have hr3 := hid (hr1.out.below hb)
  have hr4 := hid (hr2.out.below hb)
  have B1 := hid (new_trans hB'.out hb)
  clear hb x1 x2 q1 q2 hr1 hr2 hB' hO1
  have x1 := q3.out.cell
  have x2 := q4.out.cell
  go_wp2_with fail
  refine (hO2.out _ hr4.out).mono ?_
  rintro e w2 ⟨rfl, hb⟩
  have q5 := hid (q3.out.below hb q3.out.lt)
  have q6 := hid (q4.out.below hb q4.out.lt)
  have hr5 := hid (hr3.out.below hb)
  have hr6 := hid (hr4.out.below hb)
  have B2 := hid (new_trans B1.out hb)
  clear hb x1 x2 q3 q4 hr3 hr4 B1 hO2
  have x1 := q5.out.cell
  have x2 := q6.out.cell
  have hE := hid (same0D_spec _ _ P P2 w2 hr5.out hr6.out (by omega) (by omega))
  rw [hp] at hE
  go_wp2_with fail
  refine hE.out.mono ?_
  rintro e w3 ⟨rfl, n3, rfl⟩
  have B3 : Hid (Below w.heap.size w (w2.drewN n3)) := B2.out.trans (Below.drewN _ _ _)
  have q7 : Blk (w2.drewN n3) O _ := q5.out
  have q8 : Blk (w2.drewN n3) (O + 1) _ := q6.out
  obtain ⟨W3, hW3⟩ : ∃ W, w2.drewN n3 = W := ⟨_, rfl⟩
  rw [hW3] at q7 q8 B3 ⊢
  clear hW3 x1 x2 q5 q6 hr5 hr6 B2 hE
  have x1 := q7.cell
  have x2 := q8.cell
  clear q7 q8
  go_wp2
  go_ret
  exact ⟨rfl, B3.out⟩
theorem samed_spec (a1 a2 : Option Addr) (c1 c2 : Nat) (d d2 : Dk) (w : World) (h : RowR w (.slice a1 d.pulses.length c1) d.pulses) (h2 : RowR w (.slice a2 d2.pulses.length c2) d2.pulses) (hl : d.pulses.length ≤ 1048576) (hl2 : d2.pulses.length ≤ 1048576) :
    Calls Tryd.prog 71 #[dkV (.slice a1 d.pulses.length c1) d, dkV (.slice a2 d2.pulses.length c2) d2] w fun e w' => e = .returned (.bool (d.same d2)) ∧ Below w.heap.size w w' := by
  obtain ⟨P, ix, lf, lv, pl⟩ := d
  obtain ⟨P2, ix2, lf2, lv2, pl2⟩ := d2
  rw [Dk.same_eq]
  cases k1 : (Dk.mk P ix lf lv pl).ok
  · exact sds_n1 a1 a2 c1 c2 P P2 ix lf ix2 lf2 lv pl lv2 pl2 w h h2 hl hl2 _ k1 rfl
  cases k2 : (Dk.mk P2 ix2 lf2 lv2 pl2).ok
  · exact sds_n2 a1 a2 c1 c2 P P2 ix lf ix2 lf2 lv pl lv2 pl2 w h h2 hl hl2 k1 k2
  cases hp : decide (P = P2)
  · exact sds_n3 a1 a2 c1 c2 P P2 ix lf ix2 lf2 lv pl lv2 pl2 w h h2 hl hl2 k1 k2 hp
  cases e0 : (ix == ix2)
  · exact sds_e0 a1 a2 c1 c2 P P2 ix lf ix2 lf2 lv pl lv2 pl2 w h h2 hl hl2 k1 k2 hp e0
  cases e1 : (lf == lf2)
  · exact sds_e1 a1 a2 c1 c2 P P2 ix lf ix2 lf2 lv pl lv2 pl2 w h h2 hl hl2 k1 k2 hp e0 e1
  cases e2 : (lv == lv2)
  · exact sds_e2 a1 a2 c1 c2 P P2 ix lf ix2 lf2 lv pl lv2 pl2 w h h2 hl hl2 k1 k2 hp e0 e1 e2
  cases e3 : (pl == pl2)
  · exact sds_e3 a1 a2 c1 c2 P P2 ix lf ix2 lf2 lv pl lv2 pl2 w h h2 hl hl2 k1 k2 hp e0 e1 e2 e3
  exact sds_e4 a1 a2 c1 c2 P P2 ix lf ix2 lf2 lv pl lv2 pl2 w h h2 hl hl2 k1 k2 hp e0 e1 e2 e3
end Go.Proofs.YtifcdojaocndhaaDoor
