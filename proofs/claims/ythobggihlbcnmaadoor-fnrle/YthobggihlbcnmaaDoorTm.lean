/- What the cursor's own method take answers, and TakeBytes, TakeByte, TakeWord over it. -/
import Derived.Test.YthobggihlbcnmaaDoorTk
namespace Go.Proofs.YthobggihlbcnmaaDoor
open Go.ChangeShapes Go.WideShapes Go.ChangeAt Go.RowKit
set_option linter.unusedVariables false
set_option linter.unusedSimpArgs false

set_option maxRecDepth 100000 in
theorem take_impl (s : ByteArray) (a n : Int) (e0 e1 e2 : Addr) (w : World) (hs : s.size ≤ maxLen) (hE : Errs w e0 e1 e2) :
    Calls Tryd.prog 37 #[cur s a, .int .i64 n] w fun e w' => e = .returned (takeE e0 e1 e2 (takeV s a n)) ∧ Below w.heap.size w w' := by
  have g0 := hE.c0
  have g1 := hE.c1
  have g2 := hE.c2
  have z2 := World.block_lt_of_cell? w _ g2
  have z1 := World.block_lt_of_cell? w _ g1
  have z0 := World.block_lt_of_cell? w _ g0
  simp only at z0 z1 z2
  have hEh : Hid (Errs w e0 e1 e2) := hE
  clear hE
  cases hst : stB s a
  · have e : takeV s a n = ((ByteArray.empty, 0), ByteArray.empty, 1) := by unfold takeV; rw [if_pos hst]
    rw [e]
    go_enter Tryd.func37, Tryd.ntmps37
    go_wp2_with fail
    refine (stands_any _ _ _ hs).mono ?_
    rintro e w1 ⟨rfl, hb1⟩
    obtain ⟨hc1, hf1⟩ := bcell hb1
    have hz1 := hb1.size
    simp only [World.size_alloc] at hz1
    have HB : Hid (Below _ _ w1) := hb1
    clear hb1
    have hE1 := hEh.out.below ((((Below.refl _ _).alloc (Nat.le_refl _) _).alloc (by simp) _).trans (HB.out.mono (by simp; omega)) : Below w.heap.size w w1)
    have u0 := hE1.c0
    have u1 := hE1.c1
    have u2 := hE1.c2
    clear hE1
    go_wp2
    go_region
    go_wp2
    have B1 : Below w.heap.size w w1 := (((Below.refl _ _).alloc (Nat.le_refl _) _).alloc (by simp) _).trans (HB.out.mono (by simp; omega))
    exact bodyPost_ret (v := takeE e0 e1 e2 ((ByteArray.empty, 0), ByteArray.empty, 1)) (by simp [results, Tryd.results37, go_sem, takeE, errV, hz1, hc1]; rfl) rfl ⟨rfl, by repeat (first | exact B1 | refine Below.setCell ?_ (by simp) _ | refine Below.drew ?_)⟩
  · obtain ⟨hs1, ha0, ha1⟩ := stB_yes hst
    by_cases hn : n < 0 ∨ 65536 < n
    · have e : takeV s a n = ((ByteArray.empty, 0), ByteArray.empty, 4) := by unfold takeV; rw [if_neg (by rw [hst]; simp), if_pos hn]
      rw [e]
      rcases hn with hn | hn
      all_goals
        go_enter Tryd.func37, Tryd.ntmps37
        go_wp2_with fail
        refine (stands_any _ _ _ hs).mono ?_
        rintro e w1 ⟨rfl, hb1⟩
        obtain ⟨hc1, hf1⟩ := bcell hb1
        have hz1 := hb1.size
        simp only [World.size_alloc] at hz1
        have HB : Hid (Below _ _ w1) := hb1
        clear hb1
        have hE1 := hEh.out.below ((((Below.refl _ _).alloc (Nat.le_refl _) _).alloc (by simp) _).trans (HB.out.mono (by simp; omega)) : Below w.heap.size w w1)
        have u0 := hE1.c0
        have u1 := hE1.c1
        have u2 := hE1.c2
        clear hE1
        go_wp2
        go_region
        go_wp2
        have B1 : Below w.heap.size w w1 := (((Below.refl _ _).alloc (Nat.le_refl _) _).alloc (by simp) _).trans (HB.out.mono (by simp; omega))
        exact bodyPost_ret (v := takeE e0 e1 e2 ((ByteArray.empty, 0), ByteArray.empty, 4)) (by simp [results, Tryd.results37, go_sem, takeE, errV, hz1, hc1]; rfl) rfl ⟨rfl, by repeat (first | exact B1 | refine Below.setCell ?_ (by simp) _ | refine Below.drew ?_)⟩
    · by_cases hlt : (s.size : Int) < a + n
      · have e : takeV s a n = ((s, a), ByteArray.empty, 9) := by unfold takeV; rw [if_neg (by rw [hst]; simp), if_neg hn, if_pos hlt]
        rw [e]
        have hn0 : 0 ≤ n := by omega
        have hn1 : n ≤ 65536 := by omega
        go_enter Tryd.func37, Tryd.ntmps37
        go_wp2_with fail
        refine (stands_any _ _ _ hs).mono ?_
        rintro e w1 ⟨rfl, hb1⟩
        obtain ⟨hc1, hf1⟩ := bcell hb1
        have hz1 := hb1.size
        simp only [World.size_alloc] at hz1
        have HB : Hid (Below _ _ w1) := hb1
        clear hb1
        have hE1 := hEh.out.below ((((Below.refl _ _).alloc (Nat.le_refl _) _).alloc (by simp) _).trans (HB.out.mono (by simp; omega)) : Below w.heap.size w w1)
        have u0 := hE1.c0
        have u1 := hE1.c1
        have u2 := hE1.c2
        clear hE1
        go_wp2
        go_region
        go_wp2
        have B1 : Below w.heap.size w w1 := (((Below.refl _ _).alloc (Nat.le_refl _) _).alloc (by simp) _).trans (HB.out.mono (by simp; omega))
        exact bodyPost_ret (v := takeE e0 e1 e2 ((s, a), ByteArray.empty, 9)) (by simp [results, Tryd.results37, go_sem, takeE, errV, hz1, hc1]; rfl) rfl ⟨rfl, by repeat (first | exact B1 | refine Below.setCell ?_ (by simp) _ | refine Below.drew ?_)⟩
      · have e : takeV s a n = ((s, a + n), s.extract a.toNat (a + n).toNat, 0) := by unfold takeV; rw [if_neg (by rw [hst]; simp), if_neg hn, if_neg hlt]
        rw [e]
        have hn0 : 0 ≤ n := by omega
        have hn1 : n ≤ 65536 := by omega
        have hlt3 : a + n ≤ (s.size : Int) := by omega
        go_enter Tryd.func37, Tryd.ntmps37
        go_wp2_with fail
        refine (stands_any _ _ _ hs).mono ?_
        rintro e w1 ⟨rfl, hb1⟩
        obtain ⟨hc1, hf1⟩ := bcell hb1
        have hz1 := hb1.size
        simp only [World.size_alloc] at hz1
        have HB : Hid (Below _ _ w1) := hb1
        clear hb1
        have hE1 := hEh.out.below ((((Below.refl _ _).alloc (Nat.le_refl _) _).alloc (by simp) _).trans (HB.out.mono (by simp; omega)) : Below w.heap.size w w1)
        have u0 := hE1.c0
        have u1 := hE1.c1
        have u2 := hE1.c2
        clear hE1
        go_wp2
        go_region
        go_wp2
        have B1 : Below w.heap.size w w1 := (((Below.refl _ _).alloc (Nat.le_refl _) _).alloc (by simp) _).trans (HB.out.mono (by simp; omega))
        exact bodyPost_ret (v := takeE e0 e1 e2 ((s, a + n), s.extract a.toNat (a + n).toNat, 0)) (by simp [results, Tryd.results37, go_sem, takeE, errV, hz1, hc1]) rfl ⟨rfl, by repeat (first | exact B1 | refine Below.setCell ?_ (by simp) _ | refine Below.drew ?_)⟩
end Go.Proofs.YthobggihlbcnmaaDoor
