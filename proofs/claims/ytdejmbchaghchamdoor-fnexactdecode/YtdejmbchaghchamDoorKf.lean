/- What the program decodes of a list. -/
import Derived.Test.YtdejmbchaghchamDoorKe
namespace Go.Proofs.YtdejmbchaghchamDoor
open Go.ChangeShapes Go.WideShapes Go.ChangeAt Go.RowKit
set_option linter.unusedVariables false
set_option linter.unusedSimpArgs false

theorem isbyt_impl (a : Int) (w : World) : Calls Tryd.prog 50 #[.int .i64 a] w fun e w' => e = .returned (.bool (inB a 0 255)) ∧ w' = w := by
  go_enter Tryd.func50, Tryd.ntmps50
  go_wp2
  all_goals go_ret
  all_goals exact ⟨ret_bool (by rw [Bool.eq_iff_iff]; simp [inB]; try omega), rfl⟩
theorem bytes2_impl (a b : Int) (w : World) : Calls Tryd.prog 29 #[.int .i64 a, .int .i64 b] w fun e w' => e = .returned (.bool (inB a 0 255 && inB b 0 255)) ∧ w' = w := by
  cases h1 : inB a 0 255
  all_goals
    go_enter Tryd.func29, Tryd.ntmps29
    go_wp2_with (go_at_call 50; refine (isbyt_impl _ _).mono ?_; rintro e w' ⟨rfl, rfl⟩)
    go_ret
    exact ⟨ret_bool (by simp), rfl⟩
theorem bytes2_eq {zs : List Int} (h2 : zs.length = 2) : bytesB zs 2 = (inB (zs.getD 0 0) 0 255 && inB (zs.getD 1 0) 0 255) := by
  match zs, h2 with
  | [x, y], _ => simp [bytesB, inB]
set_option maxRecDepth 100000 in
set_option maxHeartbeats 2000000 in
theorem dec_impl (v : Value) (zs : List Int) (w : World) (hK : Kinds w) (h : RowR w v zs) (hl : zs.length ≤ 1000000000) :
    Calls Tryd.prog 11 #[v] w fun e w' => e = .returned (dec2 zs) ∧ Below w.heap.size w w' := by
  obtain ⟨a, cap, rfl, _⟩ := id h
  have hB : Hid (∀ o, Below w.heap.size w (w.alloc o)) := fun o => (Below.refl _ _).alloc (Nat.le_refl _) _
  have hBn : Hid (∀ o n, Below w.heap.size w ((w.alloc o).drewN n)) := fun o n => (hB.out o).trans (belD _ _ _)
  have hR : Hid (∀ o, RowR (w.alloc o) (.slice a zs.length cap) zs) := fun o => h.below (hB.out o)
  by_cases h1 : 4096 < zs.length
  · have e1 : decC zs = 2 := by unfold decC; rw [if_pos h1]
    have e : dec2 zs = .tuple #[insV 0 0 0 0 0, .int .i64 2] := by unfold dec2; rw [e1]; rfl
    rw [e]
    clear e e1 h
    go_enter Tryd.func11, Tryd.ntmps11
    go_wp2
    refine bodyPost_ret (v := .tuple #[insV 0 0 0 0 0, .int .i64 2]) (by simp [results, Tryd.results11, go_sem]) rfl ⟨rfl, hB.out _⟩
  by_cases h2 : zs.length = 2
  rotate_left
  · have e1 : decC zs = 8 := by unfold decC; rw [if_neg h1, if_neg h2]
    have e : dec2 zs = .tuple #[insV 0 0 0 0 0, .int .i64 8] := by unfold dec2; rw [e1]; rfl
    have h2' : ((zs.length : Int) != 2) = true := by simp; omega
    rw [e]
    clear e e1 h h2
    go_enter Tryd.func11, Tryd.ntmps11
    go_wp2
    refine bodyPost_ret (v := .tuple #[insV 0 0 0 0 0, .int .i64 8]) (by simp [results, Tryd.results11, go_sem]) rfl ⟨rfl, hB.out _⟩
  have h2' : ((zs.length : Int) != 2) = false := by simp; omega
  have h1' : decide ((4096 : Int) < (zs.length : Int)) = false := by simp; omega
  obtain ⟨b, off, ea, c0⟩ := row_some (hR.out (.cells #[.int .i64 0, .int .i64 0, .int .i64 0, .int .i64 0, .int .i64 0] 24)).disj (k := 0) (by omega)
  obtain ⟨b', off', ea', c1⟩ := row_some (hR.out (.cells #[.int .i64 0, .int .i64 0, .int .i64 0, .int .i64 0, .int .i64 0] 24)).disj (k := 1) (by omega)
  subst ea
  injection ea' with ea'
  injection ea' with e1' e2'
  subst e1' e2'
  rw [Nat.add_zero] at c0
  have h2n := hid h2
  have hb2 := bytes2_eq h2
  have hx : (1 : Int) < (zs.length : Int) := by rw [h2n.out]; decide
  have hx0 : (0 : Int) < (zs.length : Int) := by rw [h2n.out]; decide
  have hC : decC zs = if bytesB zs 2 = true then 0 else 4 := by unfold decC; rw [if_neg h1, if_pos h2]
  have hD : dec2 zs = if decC zs = 0 then .tuple #[decV (zs.getD 0 0) (zs.getD 1 0), .int .i64 0] else .tuple #[insV 0 0 0 0 0, .int .i64 (decC zs)] := rfl
  rw [hb2] at hC
  generalize zs.getD 0 0 = x at *
  generalize zs.getD 1 0 = y at *
  clear h h2 hb2
  have S0 : Hid (∀ n, Blk ((w.alloc (.cells #[.int .i64 0, .int .i64 0, .int .i64 0, .int .i64 0, .int .i64 0] 24)).drewN n).drew w.heap.size #[.int .i64 0, .int .i64 0, .int .i64 0, .int .i64 0, .int .i64 0]) := fun n => Blk.new w _ _
  have hK0 : Hid (∀ n, Kinds ((w.alloc (.cells #[.int .i64 0, .int .i64 0, .int .i64 0, .int .i64 0, .int .i64 0] 24)).drewN n).drew) := fun n => hK.below (hBn.out _ n).drew
  have hBd : Hid (∀ n, Below w.heap.size w ((w.alloc (.cells #[.int .i64 0, .int .i64 0, .int .i64 0, .int .i64 0, .int .i64 0] 24)).drewN n).drew) := fun n => (hBn.out _ n).drew
  clear hK hR
  cases hb : (inB x 0 255 && inB y 0 255)
  · have e : dec2 zs = .tuple #[insV 0 0 0 0 0, .int .i64 4] := by rw [hD, hC, hb]; rfl
    rw [e]
    clear e hC hD
    go_enter Tryd.func11, Tryd.ntmps11
    go_upto_region 5 with fail
    go_quiet ((go_at_call 29; exact Calls.quiet_of_same ((bytes2_impl _ _ _).mono (fun e w' h => by rw [hb] at h; exact h))))
    go_wp2
    refine bodyPost_ret (v := .tuple #[insV 0 0 0 0 0, .int .i64 4]) (by simp [results, Tryd.results11, go_sem]) rfl ⟨rfl, ?_⟩
    iterate 5 refine Below.setCell ?_ (by first | omega | (simp; done) | (simp; omega)) _
    exact hBn.out _ _
  · have e : dec2 zs = .tuple #[decV x y, .int .i64 0] := by rw [hD, hC, hb]; rfl
    have bb : (0 ≤ x ∧ x ≤ 255) ∧ (0 ≤ y ∧ y ≤ 255) := by simpa [inB] using hb
    obtain ⟨X, rfl⟩ : ∃ X : Nat, x = (X : Int) := ⟨x.toNat, by omega⟩
    obtain ⟨Y, rfl⟩ : ∃ Y : Nat, y = (Y : Int) := ⟨y.toNat, by omega⟩
    rw [e]
    clear e hC hD
    go_enter Tryd.func11, Tryd.ntmps11
    go_upto_region 5 with fail
    go_quiet ((go_at_call 29; exact Calls.quiet_of_same ((bytes2_impl _ _ _).mono (fun e w' h => by rw [hb] at h; exact h))))
    go_upto_region 7 with fail
    go_region_with ((go_at_call 30; refine (dec0_impl X Y _ (hK0.out _) (by omega) (by omega)).mono ?_; rintro e w2 ⟨rfl, hb2⟩; have q2 := (S0.out _).below hb2 (S0.out _).lt; have x2 := q2.cell; have f2 := q2.frozen; have hbw := hid (new_trans (hBd.out _) hb2); clear hb2 q2))
    all_goals
      go_wp2
      refine bodyPost_ret (v := .tuple #[decV X Y, .int .i64 0]) (by simp [results, Tryd.results11, go_sem, x2]) rfl ⟨rfl, ?_⟩
      iterate 5 refine Below.setCell ?_ (by first | omega | (simp; done) | (simp; omega)) _
      exact hbw.out
end Go.Proofs.YtdejmbchaghchamDoor
