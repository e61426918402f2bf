/- A machine that is right: the program. -/
import Derived.Test.YtifcdojaocndhaaDoorWads
import Derived.Test.YtifcdojaocndhaaDoorS26
import Derived.Test.YtifcdojaocndhaaDoorS29
import Derived.Test.YtifcdojaocndhaaDoorS30
namespace Go.Proofs.YtifcdojaocndhaaDoor
open Go.ChangeShapes Go.WideShapes Go.ChangeAt Go.RowKit
set_option linter.unusedVariables false
set_option linter.unusedSimpArgs false

set_option maxRecDepth 100000 in
theorem event_impl (e : Evt) (w : World) : Calls Tryd.prog 145 #[evV e] w fun r w' => r = .returned (.bool e.ok) ∧ Below w.heap.size w w' := by
  have hB := hid ((Below.refl w.heap.size w).alloc (Nat.le_refl _) (.cells #[.int .i64 e.t, .int .i64 e.k, .int .i64 e.v] 117))
  cases h1 : inB e.t 0 739
  · have hE := hid (evok_1 h1)
    go_enter Tryd.func145, Tryd.ntmps145
    go_wp2_with (go_at_call 114; refine (wi_impl _ _ _ _).mono ?_; rintro r w' ⟨rfl, rfl⟩; rw [h1])
    go_ret
    exact ⟨ret_bool hE.out.symm, hB.out⟩
  · cases h2 : inB e.k 1 5
    · have hE := hid (evok_2 h1 h2)
      go_enter Tryd.func145, Tryd.ntmps145
      go_wp2_with (go_at_call 114; refine (wi_impl _ _ _ _).mono ?_; rintro r w' ⟨rfl, rfl⟩; first | rw [h1] | rw [h2])
      go_ret
      exact ⟨ret_bool hE.out.symm, hB.out⟩
    · have hE := hid (evok_3 h1 h2)
      go_enter Tryd.func145, Tryd.ntmps145
      go_wp2_with (first | (go_at_call 114; refine (wi_impl _ _ _ _).mono ?_; rintro r w' ⟨rfl, rfl⟩; first | rw [h1] | rw [h2]) | (go_at_call 68; refine (isbP_impl _ _).mono ?_; rintro r w' ⟨rfl, rfl⟩))
      go_ret
      exact ⟨ret_bool hE.out.symm, hB.out⟩
set_option maxRecDepth 100000 in
theorem ahead_impl (a b : Evt) (w : World) : Calls Tryd.prog 146 #[evV a, evV b] w fun r w' => r = .returned (.bool (decide (a.t < b.t))) ∧ Below w.heap.size w w' := by
  have hB := hid (((Below.refl w.heap.size w).alloc (Nat.le_refl _) (.cells #[.int .i64 a.t, .int .i64 a.k, .int .i64 a.v] 117)).alloc (by simp) (.cells #[.int .i64 b.t, .int .i64 b.k, .int .i64 b.v] 117))
  go_enter Tryd.func146, Tryd.ntmps146
  go_wp2
  go_ret
  exact ⟨rfl, hB.out⟩
def areE (l : List Evt) : Bool := decide (l.length ≤ 1000) && evsB l
set_option maxRecDepth 100000 in
set_option maxHeartbeats 4000000 in
theorem aree_impl (v : Value) (l : List Evt) (w : World) (h : EvR w v l) (hl : l.length ≤ 1048576) : Calls Tryd.prog 115 #[v] w fun r w' => r = .returned (.bool (areE l)) ∧ Below w.heap.size w w' := by
  obtain ⟨a, c, rfl, _⟩ := id h
  have hno : Hid (∀ i, i < l.length → evAt l i = false → areE l = false) := fun i hi h => by
    have : evsB l = false := by
      unfold evsB
      rw [List.all_eq_false]
      exact ⟨i, List.mem_range.2 hi, by rw [h]; decide⟩
    unfold areE
    rw [this, Bool.and_false]
  by_cases hlen : l.length ≤ 1000
  rotate_left
  · have e : areE l = false := by unfold areE; rw [decide_eq_false hlen, Bool.false_and]
    rw [e]
    have t1 : (1000 : Int) < (l.length : Int) := by omega
    clear h hno e hlen
    go_enter Tryd.func115, Tryd.ntmps115
    go_wp2
    go_ret
    exact ⟨rfl, Below.refl _ _⟩
  have hy : Hid ((∀ i, i < l.length → evAt l i = true) → areE l = true) := fun h => by
    unfold areE
    rw [(evsB_iff l).2 h, decide_eq_true hlen, Bool.and_true]
  generalize areE l = Q at *
  have t1 : ¬ (1000 : Int) < (l.length : Int) := by omega
  replace h := hid h
  go_enter Tryd.func115, Tryd.ntmps115
  go_upto_region 3 with fail
  go_wp2
  go_loopw [10] (fun i wr => ∃ k : Nat, k ≤ l.length ∧ i = .int .i64 k ∧ (∀ j, j < k → evAt l j = true) ∧ Below w.heap.size w wr) (fun i _ => l.length - (intOf i).toNat)
  case atStart => exact ⟨0, by omega, rfl, fun j hj => by omega, Below.refl _ _⟩
  case round =>
    obtain ⟨k, hk, rfl, hj, hBr⟩ := hrel
    by_cases hlt : k < l.length
    · have he := h.out.below hBr
      obtain ⟨g, o, rfl, y0, y1, y2⟩ := he.at hlt
      obtain ⟨t1, t2, t3, hE⟩ : ∃ b1 b2 b3, l.getD k e0 = ⟨b1, b2, b3⟩ := ⟨(l.getD k e0).t, (l.getD k e0).k, (l.getD k e0).v, rfl⟩
      rw [hE] at y0 y1 y2
      simp only [] at y0 y1 y2
      have z0 := World.block_lt_of_cell? wr _ y0
      have hlv := hid (fun W => event_impl ⟨t1, t2, t3⟩ W)
      have hsn := hid (fun h => hno.out k hlt h)
      have hjn : Hid (evAt l k = true → ∀ j, j < k + 1 → evAt l j = true) := fun h j hj1 => by
        rcases Nat.lt_or_ge j k with h1 | h1
        · exact hj j h1
        · have : j = k := by omega
          rw [this]; exact h
      replace hE := hid hE
      have hX := hid (Blk.new wr #[.int .i64 t1, .int .i64 t2, .int .i64 t3] 117)
      have hVw := (Below.refl wr.heap.size wr).alloc (Nat.le_refl _) (.cells #[.int .i64 t1, .int .i64 t2, .int .i64 t3] 117)
      have hV1 := hid (new_trans hBr hVw)
      have he := hid (he.below hVw)
      clear hy hno hj hVw hBr
      go_upto_region 6 with fail
      obtain ⟨X, hXe⟩ : ∃ X, wr.heap.size = X := ⟨_, rfl⟩
      obtain ⟨V1, hV⟩ : ∃ V1, wr.alloc (.cells #[.int .i64 t1, .int .i64 t2, .int .i64 t3] 117) = V1 := ⟨_, rfl⟩
      rw [hV] at hX hV1 he ⊢
      rw [hXe] at hX ⊢
      clear hV hXe y0 y1 y2 z0
      have hltI : (k : Int) < (l.length : Int) := by omega
      replace hlt := hid hlt
      cases ke : (Evt.mk t1 t2 t3).ok
      · have hfin := hid (hsn.out (evAt_1 (by rw [hE.out]; exact ke)))
        rw [ke] at hlv
        clear hsn hjn
        refine calm_region 16 (fun W => Hid (Below V1.heap.size V1 W)) (fun _ => True) (by kernel_rfl) (by kernel_rfl) (by kernel_rfl) (by kernel_rfl) (by kernel_rfl) (by kernel_rfl) (hid ((Below.refl _ _).drew)) ?_
        refine calm_take (v := ?_) (by decide) (by kernel_rfl) (by kernel_rfl) ?_ ?_; rotate_left; (focus (intro W hW; have b1 : W.rangeAt X 0 [.int .i64 t1, .int .i64 t2, .int .i64 t3] := rng_of (hX.out.below hW.out hX.out.lt) [] _ [] rfl; have c0 := (hX.out.below hW.out hX.out.lt).cell 0; have c1 := (hX.out.below hW.out hX.out.lt).cell 1; have c2 := (hX.out.below hW.out hX.out.lt).cell 2; obtain ⟨_, _, ee, d0, d1, d2⟩ := (he.out.below hW.out).at hlt.out; cases ee; rw [hE.out] at d0 d1 d2; go_simp; first | done | with_reducible rfl)); (try simp only [Act.put, List.setIfInBounds_toArray, List.set_cons_zero, List.set_cons_succ])
        refine calm_call (f := 145) (args := #[evV ⟨t1, t2, t3⟩]) (.bool false) (by decide) (by kernel_rfl) (by kernel_rfl) ?_ ?_ ?_; (focus (intro W; go_simp; first | done | with_reducible rfl)); (focus (intro W hW; exact (hlv.out W).mono (fun r W' hr => ⟨hr.1, new_trans hW.out hr.2⟩))); (try simp only [Act.put, List.setIfInBounds_toArray, List.set_cons_zero, List.set_cons_succ])
        iterate 2 (refine calm_take (v := ?_) (by decide) (by kernel_rfl) (by kernel_rfl) ?_ ?_; rotate_left; (focus (intro W hW; have b1 : W.rangeAt X 0 [.int .i64 t1, .int .i64 t2, .int .i64 t3] := rng_of (hX.out.below hW.out hX.out.lt) [] _ [] rfl; have c0 := (hX.out.below hW.out hX.out.lt).cell 0; have c1 := (hX.out.below hW.out hX.out.lt).cell 1; have c2 := (hX.out.below hW.out hX.out.lt).cell 2; obtain ⟨_, _, ee, d0, d1, d2⟩ := (he.out.below hW.out).at hlt.out; cases ee; rw [hE.out] at d0 d1 d2; go_simp; first | done | with_reducible rfl)); (try simp only [Act.put, List.setIfInBounds_toArray, List.set_cons_zero, List.set_cons_succ]))
        iterate 11 (refine calm_skip (by decide) (by kernel_rfl) ?_; (try simp only [Act.put, List.setIfInBounds_toArray, List.set_cons_zero, List.set_cons_succ]))
        refine calm_take (v := ?_) (by decide) (by kernel_rfl) (by kernel_rfl) ?_ ?_; rotate_left; (focus (intro W hW; have b1 : W.rangeAt X 0 [.int .i64 t1, .int .i64 t2, .int .i64 t3] := rng_of (hX.out.below hW.out hX.out.lt) [] _ [] rfl; have c0 := (hX.out.below hW.out hX.out.lt).cell 0; have c1 := (hX.out.below hW.out hX.out.lt).cell 1; have c2 := (hX.out.below hW.out hX.out.lt).cell 2; obtain ⟨_, _, ee, d0, d1, d2⟩ := (he.out.below hW.out).at hlt.out; cases ee; rw [hE.out] at d0 d1 d2; go_simp; first | done | with_reducible rfl)); (try simp only [Act.put, List.setIfInBounds_toArray, List.set_cons_zero, List.set_cons_succ])
        refine calm_end (fun W hW => ?_)
        have hBW : Hid (Below V1.heap.size V1 W) := hW
        have hBF := hid (new_trans hV1.out hBW.out)
        clear hW
        go_wp2
        go_ret
        exact ⟨ret_bool hfin.out.symm, hBF.out⟩
      · rw [ke] at hlv
        rcases Nat.eq_zero_or_pos k with rfl | hk0
        · have hfin := hid (hjn.out (evAt_2 (by rw [hE.out]; exact ke)))
          clear hsn hjn
          refine calm_region 16 (fun W => Hid (Below V1.heap.size V1 W)) (fun _ => True) (by kernel_rfl) (by kernel_rfl) (by kernel_rfl) (by kernel_rfl) (by kernel_rfl) (by kernel_rfl) (hid ((Below.refl _ _).drew)) ?_
          refine calm_take (v := ?_) (by decide) (by kernel_rfl) (by kernel_rfl) ?_ ?_; rotate_left; (focus (intro W hW; have b1 : W.rangeAt X 0 [.int .i64 t1, .int .i64 t2, .int .i64 t3] := rng_of (hX.out.below hW.out hX.out.lt) [] _ [] rfl; have c0 := (hX.out.below hW.out hX.out.lt).cell 0; have c1 := (hX.out.below hW.out hX.out.lt).cell 1; have c2 := (hX.out.below hW.out hX.out.lt).cell 2; obtain ⟨_, _, ee, d0, d1, d2⟩ := (he.out.below hW.out).at hlt.out; cases ee; rw [hE.out] at d0 d1 d2; go_simp; first | done | with_reducible rfl)); (try simp only [Act.put, List.setIfInBounds_toArray, List.set_cons_zero, List.set_cons_succ])
          refine calm_call (f := 145) (args := #[evV ⟨t1, t2, t3⟩]) (.bool true) (by decide) (by kernel_rfl) (by kernel_rfl) ?_ ?_ ?_; (focus (intro W; go_simp; first | done | with_reducible rfl)); (focus (intro W hW; exact (hlv.out W).mono (fun r W' hr => ⟨hr.1, new_trans hW.out hr.2⟩))); (try simp only [Act.put, List.setIfInBounds_toArray, List.set_cons_zero, List.set_cons_succ])
          iterate 5 (refine calm_take (v := ?_) (by decide) (by kernel_rfl) (by kernel_rfl) ?_ ?_; rotate_left; (focus (intro W hW; have b1 : W.rangeAt X 0 [.int .i64 t1, .int .i64 t2, .int .i64 t3] := rng_of (hX.out.below hW.out hX.out.lt) [] _ [] rfl; have c0 := (hX.out.below hW.out hX.out.lt).cell 0; have c1 := (hX.out.below hW.out hX.out.lt).cell 1; have c2 := (hX.out.below hW.out hX.out.lt).cell 2; obtain ⟨_, _, ee, d0, d1, d2⟩ := (he.out.below hW.out).at hlt.out; cases ee; rw [hE.out] at d0 d1 d2; go_simp; first | done | with_reducible rfl)); (try simp only [Act.put, List.setIfInBounds_toArray, List.set_cons_zero, List.set_cons_succ]))
          iterate 7 (refine calm_skip (by decide) (by kernel_rfl) ?_; (try simp only [Act.put, List.setIfInBounds_toArray, List.set_cons_zero, List.set_cons_succ]))
          iterate 2 (refine calm_take (v := ?_) (by decide) (by kernel_rfl) (by kernel_rfl) ?_ ?_; rotate_left; (focus (intro W hW; have b1 : W.rangeAt X 0 [.int .i64 t1, .int .i64 t2, .int .i64 t3] := rng_of (hX.out.below hW.out hX.out.lt) [] _ [] rfl; have c0 := (hX.out.below hW.out hX.out.lt).cell 0; have c1 := (hX.out.below hW.out hX.out.lt).cell 1; have c2 := (hX.out.below hW.out hX.out.lt).cell 2; obtain ⟨_, _, ee, d0, d1, d2⟩ := (he.out.below hW.out).at hlt.out; cases ee; rw [hE.out] at d0 d1 d2; go_simp; first | done | with_reducible rfl)); (try simp only [Act.put, List.setIfInBounds_toArray, List.set_cons_zero, List.set_cons_succ]))
          refine calm_end (fun W hW => ?_)
          have hBW : Hid (Below V1.heap.size V1 W) := hW
          have hBF := hid (new_trans hV1.out hBW.out)
          clear hW
          go_wp2
          go_roundw
          case rel => exact ⟨1, by have := hlt.out; omega, by go_num, hfin.out, hBF.out⟩
          case measure => simp [intOf]; omega
        · obtain ⟨j, rfl⟩ : ∃ j, k = j + 1 := ⟨k - 1, by omega⟩
          have hlt2 := hid (show j < l.length by have := hlt.out; omega)
          obtain ⟨s1, s2, s3, hs1⟩ : ∃ b1 b2 b3, l.getD j e0 = ⟨b1, b2, b3⟩ := ⟨(l.getD j e0).t, (l.getD j e0).k, (l.getD j e0).v, rfl⟩
          have hah := hid (fun W => ahead_impl ⟨t1, t2, t3⟩ ⟨s1, s2, s3⟩ W)
          replace hs1 := hid hs1
          have hle0 : (0 : Int) ≤ (j : Int) + 1 := by omega
          have hle1 : (j : Int) < (l.length : Int) := by have := hlt.out; omega
          have hle2 : (0 : Int) < (j : Int) + 1 := by omega
          have hwj : IntKind.i64.wrap (j : Int) = (j : Int) := by rw [IntKind.wrap_i64]; omega
          have hltJ : (j : Int) + 1 < (l.length : Int) := by have := hlt.out; omega
          by_cases hfl : t1 < s1
          · have hfin := hid (hsn.out (by rw [evAt_3 (by rw [hE.out]; exact ke), hs1.out, hE.out]; exact decide_eq_false (by show ¬ s1 ≤ t1; omega)))
            have hfd : decide (t1 < s1) = true := decide_eq_true hfl
            have hah : Hid (∀ W, Calls Tryd.prog 146 #[evV ⟨t1, t2, t3⟩, evV ⟨s1, s2, s3⟩] W fun r w' => r = .returned (.bool true) ∧ Below W.heap.size W w') := fun W => by have := hah.out W; rw [← hfd]; exact this
            clear hsn hjn
            refine calm_region 16 (fun W => Hid (Below V1.heap.size V1 W)) (fun _ => True) (by kernel_rfl) (by kernel_rfl) (by kernel_rfl) (by kernel_rfl) (by kernel_rfl) (by kernel_rfl) (hid ((Below.refl _ _).drew)) ?_
            refine calm_take (v := ?_) (by decide) (by kernel_rfl) (by kernel_rfl) ?_ ?_; rotate_left; (focus (intro W hW; have b1 : W.rangeAt X 0 [.int .i64 t1, .int .i64 t2, .int .i64 t3] := rng_of (hX.out.below hW.out hX.out.lt) [] _ [] rfl; have c0 := (hX.out.below hW.out hX.out.lt).cell 0; have c1 := (hX.out.below hW.out hX.out.lt).cell 1; have c2 := (hX.out.below hW.out hX.out.lt).cell 2; obtain ⟨_, _, ee, d0, d1, d2⟩ := (he.out.below hW.out).at hlt.out; cases ee; rw [hE.out] at d0 d1 d2; obtain ⟨_, _, ee2, f0, f1, f2⟩ := (he.out.below hW.out).at hlt2.out; cases ee2; rw [hs1.out] at f0 f1 f2; go_simp; first | done | with_reducible rfl)); (try simp only [Act.put, List.setIfInBounds_toArray, List.set_cons_zero, List.set_cons_succ])
            refine calm_call (f := 145) (args := #[evV ⟨t1, t2, t3⟩]) (.bool true) (by decide) (by kernel_rfl) (by kernel_rfl) ?_ ?_ ?_; (focus (intro W; go_simp; first | done | with_reducible rfl)); (focus (intro W hW; exact (hlv.out W).mono (fun r W' hr => ⟨hr.1, new_trans hW.out hr.2⟩))); (try simp only [Act.put, List.setIfInBounds_toArray, List.set_cons_zero, List.set_cons_succ])
            iterate 11 (refine calm_take (v := ?_) (by decide) (by kernel_rfl) (by kernel_rfl) ?_ ?_; rotate_left; (focus (intro W hW; have b1 : W.rangeAt X 0 [.int .i64 t1, .int .i64 t2, .int .i64 t3] := rng_of (hX.out.below hW.out hX.out.lt) [] _ [] rfl; have c0 := (hX.out.below hW.out hX.out.lt).cell 0; have c1 := (hX.out.below hW.out hX.out.lt).cell 1; have c2 := (hX.out.below hW.out hX.out.lt).cell 2; obtain ⟨_, _, ee, d0, d1, d2⟩ := (he.out.below hW.out).at hlt.out; cases ee; rw [hE.out] at d0 d1 d2; obtain ⟨_, _, ee2, f0, f1, f2⟩ := (he.out.below hW.out).at hlt2.out; cases ee2; rw [hs1.out] at f0 f1 f2; go_simp; first | done | with_reducible rfl)); (try simp only [Act.put, List.setIfInBounds_toArray, List.set_cons_zero, List.set_cons_succ]))
            refine calm_call (f := 146) (args := #[evV ⟨t1, t2, t3⟩, evV ⟨s1, s2, s3⟩]) (.bool true) (by decide) (by kernel_rfl) (by kernel_rfl) ?_ ?_ ?_; (focus (intro W; go_simp; first | done | with_reducible rfl)); (focus (intro W hW; exact (hah.out W).mono (fun r W' hr => ⟨hr.1, new_trans hW.out hr.2⟩))); (try simp only [Act.put, List.setIfInBounds_toArray, List.set_cons_zero, List.set_cons_succ])
            iterate 2 (refine calm_take (v := ?_) (by decide) (by kernel_rfl) (by kernel_rfl) ?_ ?_; rotate_left; (focus (intro W hW; have b1 : W.rangeAt X 0 [.int .i64 t1, .int .i64 t2, .int .i64 t3] := rng_of (hX.out.below hW.out hX.out.lt) [] _ [] rfl; have c0 := (hX.out.below hW.out hX.out.lt).cell 0; have c1 := (hX.out.below hW.out hX.out.lt).cell 1; have c2 := (hX.out.below hW.out hX.out.lt).cell 2; obtain ⟨_, _, ee, d0, d1, d2⟩ := (he.out.below hW.out).at hlt.out; cases ee; rw [hE.out] at d0 d1 d2; obtain ⟨_, _, ee2, f0, f1, f2⟩ := (he.out.below hW.out).at hlt2.out; cases ee2; rw [hs1.out] at f0 f1 f2; go_simp; first | done | with_reducible rfl)); (try simp only [Act.put, List.setIfInBounds_toArray, List.set_cons_zero, List.set_cons_succ]))
            refine calm_end (fun W hW => ?_)
            have hBW : Hid (Below V1.heap.size V1 W) := hW
            have hBF := hid (new_trans hV1.out hBW.out)
            clear hW
            go_wp2
            go_ret
            exact ⟨ret_bool hfin.out.symm, hBF.out⟩
          · have hfin := hid (hjn.out (by rw [evAt_3 (by rw [hE.out]; exact ke), hs1.out, hE.out]; exact decide_eq_true (by show s1 ≤ t1; omega)))
            have hfd : decide (t1 < s1) = false := decide_eq_false hfl
            have hah : Hid (∀ W, Calls Tryd.prog 146 #[evV ⟨t1, t2, t3⟩, evV ⟨s1, s2, s3⟩] W fun r w' => r = .returned (.bool false) ∧ Below W.heap.size W w') := fun W => by have := hah.out W; rw [← hfd]; exact this
            clear hsn hjn
            refine calm_region 16 (fun W => Hid (Below V1.heap.size V1 W)) (fun _ => True) (by kernel_rfl) (by kernel_rfl) (by kernel_rfl) (by kernel_rfl) (by kernel_rfl) (by kernel_rfl) (hid ((Below.refl _ _).drew)) ?_
            refine calm_take (v := ?_) (by decide) (by kernel_rfl) (by kernel_rfl) ?_ ?_; rotate_left; (focus (intro W hW; have b1 : W.rangeAt X 0 [.int .i64 t1, .int .i64 t2, .int .i64 t3] := rng_of (hX.out.below hW.out hX.out.lt) [] _ [] rfl; have c0 := (hX.out.below hW.out hX.out.lt).cell 0; have c1 := (hX.out.below hW.out hX.out.lt).cell 1; have c2 := (hX.out.below hW.out hX.out.lt).cell 2; obtain ⟨_, _, ee, d0, d1, d2⟩ := (he.out.below hW.out).at hlt.out; cases ee; rw [hE.out] at d0 d1 d2; obtain ⟨_, _, ee2, f0, f1, f2⟩ := (he.out.below hW.out).at hlt2.out; cases ee2; rw [hs1.out] at f0 f1 f2; go_simp; first | done | with_reducible rfl)); (try simp only [Act.put, List.setIfInBounds_toArray, List.set_cons_zero, List.set_cons_succ])
            refine calm_call (f := 145) (args := #[evV ⟨t1, t2, t3⟩]) (.bool true) (by decide) (by kernel_rfl) (by kernel_rfl) ?_ ?_ ?_; (focus (intro W; go_simp; first | done | with_reducible rfl)); (focus (intro W hW; exact (hlv.out W).mono (fun r W' hr => ⟨hr.1, new_trans hW.out hr.2⟩))); (try simp only [Act.put, List.setIfInBounds_toArray, List.set_cons_zero, List.set_cons_succ])
            iterate 11 (refine calm_take (v := ?_) (by decide) (by kernel_rfl) (by kernel_rfl) ?_ ?_; rotate_left; (focus (intro W hW; have b1 : W.rangeAt X 0 [.int .i64 t1, .int .i64 t2, .int .i64 t3] := rng_of (hX.out.below hW.out hX.out.lt) [] _ [] rfl; have c0 := (hX.out.below hW.out hX.out.lt).cell 0; have c1 := (hX.out.below hW.out hX.out.lt).cell 1; have c2 := (hX.out.below hW.out hX.out.lt).cell 2; obtain ⟨_, _, ee, d0, d1, d2⟩ := (he.out.below hW.out).at hlt.out; cases ee; rw [hE.out] at d0 d1 d2; obtain ⟨_, _, ee2, f0, f1, f2⟩ := (he.out.below hW.out).at hlt2.out; cases ee2; rw [hs1.out] at f0 f1 f2; go_simp; first | done | with_reducible rfl)); (try simp only [Act.put, List.setIfInBounds_toArray, List.set_cons_zero, List.set_cons_succ]))
            refine calm_call (f := 146) (args := #[evV ⟨t1, t2, t3⟩, evV ⟨s1, s2, s3⟩]) (.bool false) (by decide) (by kernel_rfl) (by kernel_rfl) ?_ ?_ ?_; (focus (intro W; go_simp; first | done | with_reducible rfl)); (focus (intro W hW; exact (hah.out W).mono (fun r W' hr => ⟨hr.1, new_trans hW.out hr.2⟩))); (try simp only [Act.put, List.setIfInBounds_toArray, List.set_cons_zero, List.set_cons_succ])
            iterate 2 (refine calm_take (v := ?_) (by decide) (by kernel_rfl) (by kernel_rfl) ?_ ?_; rotate_left; (focus (intro W hW; have b1 : W.rangeAt X 0 [.int .i64 t1, .int .i64 t2, .int .i64 t3] := rng_of (hX.out.below hW.out hX.out.lt) [] _ [] rfl; have c0 := (hX.out.below hW.out hX.out.lt).cell 0; have c1 := (hX.out.below hW.out hX.out.lt).cell 1; have c2 := (hX.out.below hW.out hX.out.lt).cell 2; obtain ⟨_, _, ee, d0, d1, d2⟩ := (he.out.below hW.out).at hlt.out; cases ee; rw [hE.out] at d0 d1 d2; obtain ⟨_, _, ee2, f0, f1, f2⟩ := (he.out.below hW.out).at hlt2.out; cases ee2; rw [hs1.out] at f0 f1 f2; go_simp; first | done | with_reducible rfl)); (try simp only [Act.put, List.setIfInBounds_toArray, List.set_cons_zero, List.set_cons_succ]))
            refine calm_end (fun W hW => ?_)
            have hBW : Hid (Below V1.heap.size V1 W) := hW
            have hBF := hid (new_trans hV1.out hBW.out)
            clear hW
            clear hwj
            go_wp2
            go_roundw
            case rel => exact ⟨j + 1 + 1, by have := hlt.out; omega, by go_num, hfin.out, hBF.out⟩
            case measure => simp [intOf]; omega
    · obtain rfl : k = l.length := by omega
      have hfin := hid (hy.out hj)
      replace hBr := hid hBr
      clear hy hno hj
      go_wp2
      go_ret
      exact ⟨ret_bool hfin.out.symm, hBr.out⟩
end Go.Proofs.YtifcdojaocndhaaDoor
