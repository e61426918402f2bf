/- What the cursor's own method take answers, and TakeBytes, TakeByte, TakeWord over it. -/
import Derived.Test.YtghcagibdcblnaaDoorR21
namespace Go.Proofs.YtghcagibdcblnaaDoor
open Go.ChangeShapes Go.WideShapes Go.ChangeAt Go.RowKit
set_option linter.unusedVariables false
set_option linter.unusedSimpArgs false

set_option maxRecDepth 100000 in
theorem take_impl (s : ByteArray) (a n : Int) (e0 e1 e2 : Addr) (w : World) (hs : s.size ≤ maxLen) (hE : Errs w e0 e1 e2) :
    Calls Tryd.prog 53 #[cur s a, .int .i64 n] w fun e w' => e = .returned (takeE e0 e1 e2 (takeV s a n)) ∧ Below w.heap.size w w' := by
  have g0 := hE.c0
  have g1 := hE.c1
  have g2 := hE.c2
  have z2 := World.block_lt_of_cell? w _ g2
  have z1 := World.block_lt_of_cell? w _ g1
  have z0 := World.block_lt_of_cell? w _ g0
  simp only at z0 z1 z2
  have hEh : Hid (Errs w e0 e1 e2) := hE
  clear hE
  cases hst : stB s a
  · have e : takeV s a n = ((ByteArray.empty, 0), ByteArray.empty, 1) := by unfold takeV; rw [if_pos hst]
    rw [e]
    go_enter Tryd.func53, Tryd.ntmps53
    go_wp2_with fail
    refine (stands_any _ _ _ hs).mono ?_
    rintro e w1 ⟨rfl, hb1⟩
    obtain ⟨hc1, hf1⟩ := bcell hb1
    have hz1 := hb1.size
    simp only [World.size_alloc] at hz1
    have HB : Hid (Below _ _ w1) := hb1
    clear hb1
    have hE1 := hEh.out.below ((((Below.refl _ _).alloc (Nat.le_refl _) _).alloc (by simp) _).trans (HB.out.mono (by simp; omega)) : Below w.heap.size w w1)
    have u0 := hE1.c0
    have u1 := hE1.c1
    have u2 := hE1.c2
    clear hE1
    go_wp2
    go_region
    go_wp2
    have B1 : Below w.heap.size w w1 := (((Below.refl _ _).alloc (Nat.le_refl _) _).alloc (by simp) _).trans (HB.out.mono (by simp; omega))
    exact bodyPost_ret (v := takeE e0 e1 e2 ((ByteArray.empty, 0), ByteArray.empty, 1)) (by simp [results, Tryd.results53, go_sem, takeE, errV, hz1, hc1]; rfl) rfl ⟨rfl, by repeat (first | exact B1 | refine Below.setCell ?_ (by simp) _ | refine Below.drew ?_)⟩
  · obtain ⟨hs1, ha0, ha1⟩ := stB_yes hst
    by_cases hn : n < 0 ∨ 65536 < n
    · have e : takeV s a n = ((ByteArray.empty, 0), ByteArray.empty, 4) := by unfold takeV; rw [if_neg (by rw [hst]; simp), if_pos hn]
      rw [e]
      rcases hn with hn | hn
      all_goals
        go_enter Tryd.func53, Tryd.ntmps53
        go_wp2_with fail
        refine (stands_any _ _ _ hs).mono ?_
        rintro e w1 ⟨rfl, hb1⟩
        obtain ⟨hc1, hf1⟩ := bcell hb1
        have hz1 := hb1.size
        simp only [World.size_alloc] at hz1
        have HB : Hid (Below _ _ w1) := hb1
        clear hb1
        have hE1 := hEh.out.below ((((Below.refl _ _).alloc (Nat.le_refl _) _).alloc (by simp) _).trans (HB.out.mono (by simp; omega)) : Below w.heap.size w w1)
        have u0 := hE1.c0
        have u1 := hE1.c1
        have u2 := hE1.c2
        clear hE1
        go_wp2
        go_region
        go_wp2
        have B1 : Below w.heap.size w w1 := (((Below.refl _ _).alloc (Nat.le_refl _) _).alloc (by simp) _).trans (HB.out.mono (by simp; omega))
        exact bodyPost_ret (v := takeE e0 e1 e2 ((ByteArray.empty, 0), ByteArray.empty, 4)) (by simp [results, Tryd.results53, go_sem, takeE, errV, hz1, hc1]; rfl) rfl ⟨rfl, by repeat (first | exact B1 | refine Below.setCell ?_ (by simp) _ | refine Below.drew ?_)⟩
    · by_cases hlt : (s.size : Int) < a + n
      · have e : takeV s a n = ((s, a), ByteArray.empty, 9) := by unfold takeV; rw [if_neg (by rw [hst]; simp), if_neg hn, if_pos hlt]
        rw [e]
        have hn0 : 0 ≤ n := by omega
        have hn1 : n ≤ 65536 := by omega
        go_enter Tryd.func53, Tryd.ntmps53
        go_wp2_with fail
        refine (stands_any _ _ _ hs).mono ?_
        rintro e w1 ⟨rfl, hb1⟩
        obtain ⟨hc1, hf1⟩ := bcell hb1
        have hz1 := hb1.size
        simp only [World.size_alloc] at hz1
        have HB : Hid (Below _ _ w1) := hb1
        clear hb1
        have hE1 := hEh.out.below ((((Below.refl _ _).alloc (Nat.le_refl _) _).alloc (by simp) _).trans (HB.out.mono (by simp; omega)) : Below w.heap.size w w1)
        have u0 := hE1.c0
        have u1 := hE1.c1
        have u2 := hE1.c2
        clear hE1
        go_wp2
        go_region
        go_wp2
        have B1 : Below w.heap.size w w1 := (((Below.refl _ _).alloc (Nat.le_refl _) _).alloc (by simp) _).trans (HB.out.mono (by simp; omega))
        exact bodyPost_ret (v := takeE e0 e1 e2 ((s, a), ByteArray.empty, 9)) (by simp [results, Tryd.results53, go_sem, takeE, errV, hz1, hc1]; rfl) rfl ⟨rfl, by repeat (first | exact B1 | refine Below.setCell ?_ (by simp) _ | refine Below.drew ?_)⟩
      · have e : takeV s a n = ((s, a + n), s.extract a.toNat (a + n).toNat, 0) := by unfold takeV; rw [if_neg (by rw [hst]; simp), if_neg hn, if_neg hlt]
        rw [e]
        have hn0 : 0 ≤ n := by omega
        have hn1 : n ≤ 65536 := by omega
        have hlt3 : a + n ≤ (s.size : Int) := by omega
        go_enter Tryd.func53, Tryd.ntmps53
        go_wp2_with fail
        refine (stands_any _ _ _ hs).mono ?_
        rintro e w1 ⟨rfl, hb1⟩
        obtain ⟨hc1, hf1⟩ := bcell hb1
        have hz1 := hb1.size
        simp only [World.size_alloc] at hz1
        have HB : Hid (Below _ _ w1) := hb1
        clear hb1
        have hE1 := hEh.out.below ((((Below.refl _ _).alloc (Nat.le_refl _) _).alloc (by simp) _).trans (HB.out.mono (by simp; omega)) : Below w.heap.size w w1)
        have u0 := hE1.c0
        have u1 := hE1.c1
        have u2 := hE1.c2
        clear hE1
        go_wp2
        go_region
        go_wp2
        have B1 : Below w.heap.size w w1 := (((Below.refl _ _).alloc (Nat.le_refl _) _).alloc (by simp) _).trans (HB.out.mono (by simp; omega))
        exact bodyPost_ret (v := takeE e0 e1 e2 ((s, a + n), s.extract a.toNat (a + n).toNat, 0)) (by simp [results, Tryd.results53, go_sem, takeE, errV, hz1, hc1]) rfl ⟨rfl, by repeat (first | exact B1 | refine Below.setCell ?_ (by simp) _ | refine Below.drew ?_)⟩
end Go.Proofs.YtghcagibdcblnaaDoor

/- What TakeBytes, TakeByte and TakeWord answer, the program's own and the specification's: the same, made out of takeV; new blocks at most. -/
namespace Go.Proofs.YtghcagibdcblnaaDoor
open Go.ChangeShapes Go.WideShapes Go.ChangeAt Go.RowKit
set_option linter.unusedVariables false
set_option linter.unusedSimpArgs false

theorem takeV_code (s : ByteArray) (a n : Int) : (takeV s a n).2.2 = 0 ∨ (takeV s a n).2.2 = 1 ∨ (takeV s a n).2.2 = 4 ∨ (takeV s a n).2.2 = 9 := by
  unfold takeV
  repeat' split
  all_goals simp
theorem takeV_size (s : ByteArray) (a : Int) (n : Nat) (h : (takeV s a n).2.2 = 0) : (takeV s a n).2.1.size = n ∧ (takeV s a n).1.1 = s ∧ 0 ≤ a ∧ a + n ≤ s.size ∧ (takeV s a n).1.2 = a + n ∧ (takeV s a n).2.1 = s.extract a.toNat (a + n).toNat := by
  unfold takeV at h ⊢
  split at h
  · simp at h
  · rename_i h1
    obtain ⟨_, h2, h3⟩ := stB_yes (by simpa using h1)
    split at h
    · simp at h
    · split at h
      · simp at h
      · rename_i h4 h5
        rw [if_neg h1, if_neg h4, if_neg h5]
        refine ⟨?_, rfl, h2, by omega, rfl, rfl⟩
        simp [ByteArray.size_extract]
        omega
theorem errV_some (e0 e1 e2 : Addr) (c : Int) (h : c ≠ 0) : ∃ x, errV e0 e1 e2 c = .iface 140 (.pointer (some x)) := by
  unfold errV
  rw [if_neg h]
  repeat' split
  all_goals exact ⟨_, rfl⟩


def tbV (X : (ByteArray × Int) × ByteArray × Int) : Value := .tuple #[cur X.1.1 X.1.2, .int .i64 (if X.2.2 = 0 then byt X.2.1 0 else 0), .int .i64 X.2.2]
def twV (X : (ByteArray × Int) × ByteArray × Int) : Value := .tuple #[cur X.1.1 X.1.2, .int .i64 (if X.2.2 = 0 then byt X.2.1 0 + 256 * byt X.2.1 1 else 0), .int .i64 X.2.2]

theorem wordOf_impl (t : ByteArray) (w : World) (h : t.size = 2) : Calls Tryd.prog 49 #[.string t] w fun e w' => e = .returned (.int .i64 (byt t 0 + 256 * byt t 1)) ∧ w' = w.drew := by
  have hx0 := run_idx t 0 0 rfl (by omega)
  have hx1 := run_idx t 1 1 rfl (by omega)
  have hb0 := byt_bd t 0
  have hb1 := byt_bd t 1
  go_enter Tryd.func49, Tryd.ntmps49
  go_wp2
  go_region
  go_wp2
  go_ret
  exact ⟨rfl, rfl⟩
end Go.Proofs.YtghcagibdcblnaaDoor

/- What the specification's TakeBytes, TakeByte and TakeWord answer, and the laws' own helpers over cursors. -/
namespace Go.Proofs.YtghcagibdcblnaaDoor
open Go.ChangeShapes Go.WideShapes Go.ChangeAt Go.RowKit
set_option linter.unusedVariables false
set_option linter.unusedSimpArgs false
theorem takeWord_spec (s : ByteArray) (a : Int) (w : World) (hs : s.size ≤ maxLen) :
    Calls Tryd.prog 20 #[cur s a] w fun e w' => e = .returned (twV (takeV s a 2)) ∧ Below w.heap.size w w' := by
  have hT := fun W => take_spec s a 2 W hs
  have hZ : (takeV s a 2).2.2 = 0 → (takeV s a 2).2.1.size = 2 := fun h => (takeV_size s a 2 h).1
  generalize takeV s a 2 = X at hT hZ
  obtain ⟨⟨S, A⟩, T, C⟩ := X
  simp only at hZ
  by_cases h0 : C = 0
  · subst h0
    have hsz := hZ rfl
    have hx0 := run_idx T 0 0 rfl (by omega)
    have hx1 := run_idx T 1 1 rfl (by omega)
    have hb0 := byt_bd T 0
    have hb1' := byt_bd T 1
    go_enter Tryd.func20, Tryd.ntmps20
    go_wp2_with fail
    refine (hT _).mono ?_
    rintro e w1 ⟨rfl, hb1⟩
    obtain ⟨hc1, hf1⟩ := bcell hb1
    have hz1 := hb1.size
    simp only [World.size_alloc] at hz1
    have hz2 : w.heap.size + 1 < w1.heap.size := by omega
    have hz3 : w.heap.size < w1.heap.size := by omega
    have B1 : Below w.heap.size w w1 := (((Below.refl _ _).alloc (Nat.le_refl _) _).alloc (by simp) _).trans (hb1.mono (by simp; omega))
    clear hb1 hT
    unfold takeT
    simp only
    go_wp2
    go_region
    go_wp2
    exact bodyPost_ret (v := twV ((S, A), T, 0)) (by simp [results, Tryd.results20, go_sem, twV, hz2, hc1]) rfl ⟨rfl, by repeat (first | exact B1 | refine Below.drew ?_ | refine Below.alloc ?_ (by first | omega | (simp; omega)) _ | refine Below.setCell ?_ (by first | omega | (simp; omega) | simp) _)⟩
  · have h0' : (C != 0) = true := by simpa using h0
    go_enter Tryd.func20, Tryd.ntmps20
    go_wp2_with fail
    refine (hT _).mono ?_
    rintro e w1 ⟨rfl, hb1⟩
    obtain ⟨hc1, hf1⟩ := bcell hb1
    have hz1 := hb1.size
    simp only [World.size_alloc] at hz1
    have hz2 : w.heap.size + 1 < w1.heap.size := by omega
    have hz3 : w.heap.size < w1.heap.size := by omega
    have B1 : Below w.heap.size w w1 := (((Below.refl _ _).alloc (Nat.le_refl _) _).alloc (by simp) _).trans (hb1.mono (by simp; omega))
    clear hb1 hT
    unfold takeT
    simp only
    go_wp2
    exact bodyPost_ret (v := twV ((S, A), T, C)) (by simp [results, Tryd.results20, go_sem, twV, hz2, hc1, h0]) rfl ⟨rfl, by repeat (first | exact B1 | refine Below.drew ?_ | refine Below.alloc ?_ (by first | omega | (simp; omega)) _ | refine Below.setCell ?_ (by first | omega | (simp; omega) | simp) _)⟩

end Go.Proofs.YtghcagibdcblnaaDoor
