/- What TakeBytes, TakeByte and TakeWord answer, the program's own and the specification's: the same, made out of takeV; new blocks at most. -/
import Derived.Test.YthffhfafnohndaaDoorTm
namespace Go.Proofs.YthffhfafnohndaaDoor
open Go.ChangeShapes Go.WideShapes Go.ChangeAt Go.RowKit
set_option linter.unusedVariables false
set_option linter.unusedSimpArgs false

theorem takeV_code (s : ByteArray) (a n : Int) : (takeV s a n).2.2 = 0 ∨ (takeV s a n).2.2 = 1 ∨ (takeV s a n).2.2 = 4 ∨ (takeV s a n).2.2 = 9 := by
  unfold takeV
  repeat' split
  all_goals simp
theorem takeV_size (s : ByteArray) (a : Int) (n : Nat) (h : (takeV s a n).2.2 = 0) : (takeV s a n).2.1.size = n ∧ (takeV s a n).1.1 = s ∧ 0 ≤ a ∧ a + n ≤ s.size ∧ (takeV s a n).1.2 = a + n ∧ (takeV s a n).2.1 = s.extract a.toNat (a + n).toNat := by
  unfold takeV at h ⊢
  split at h
  · simp at h
  · rename_i h1
    obtain ⟨_, h2, h3⟩ := stB_yes (by simpa using h1)
    split at h
    · simp at h
    · split at h
      · simp at h
      · rename_i h4 h5
        rw [if_neg h1, if_neg h4, if_neg h5]
        refine ⟨?_, rfl, h2, by omega, rfl, rfl⟩
        simp [ByteArray.size_extract]
        omega
theorem errV_some (e0 e1 e2 : Addr) (c : Int) (h : c ≠ 0) : ∃ x, errV e0 e1 e2 c = .iface 113 (.pointer (some x)) := by
  unfold errV
  rw [if_neg h]
  repeat' split
  all_goals exact ⟨_, rfl⟩

theorem takeBytes_impl (s : ByteArray) (a n : Int) (e0 e1 e2 : Addr) (w : World) (hs : s.size ≤ maxLen) (hE : Errs w e0 e1 e2) :
    Calls Tryd.prog 9 #[cur s a, .int .i64 n] w fun e w' => e = .returned (takeT (takeV s a n)) ∧ Below w.heap.size w w' := by
  have hC := takeV_code s a n
  have hT := fun W (h : Errs W e0 e1 e2) => take_impl s a n e0 e1 e2 W hs h
  generalize takeV s a n = X at hC hT
  obtain ⟨⟨S, A⟩, T, C⟩ := X
  simp only at hC
  have hE2 : Errs ((w.alloc (.cells #[.string s, .int .i64 a] 28)).alloc (.cells #[.string ByteArray.empty, .int .i64 0] 28)) e0 e1 e2 := hE.below (((Below.refl _ _).alloc (Nat.le_refl _) _).alloc (by simp) _)
  go_enter Tryd.func9, Tryd.ntmps9
  go_wp2_with fail
  refine (hT _ hE2).mono ?_
  rintro e w1 ⟨rfl, hb1⟩
  have hE3 := hE2.below hb1
  obtain ⟨hc1, hf1⟩ := bcell hb1
  have hz1 := hb1.size
  simp only [World.size_alloc] at hz1
  have hz2 : w.heap.size + 1 < w1.heap.size := by omega
  have hz3 : w.heap.size < w1.heap.size := by omega
  have B1 : Below w.heap.size w w1 := (((Below.refl _ _).alloc (Nat.le_refl _) _).alloc (by simp) _).trans (hb1.mono (by simp; omega))
  clear hb1 hE2 hT
  unfold takeE
  simp only
  go_wp2
  go_region_with (go_at_call 28; refine (takeCode_any e0 e1 e2 C _ ?_ hC).mono ?_; exact hE.below (by repeat (first | exact B1 | refine Below.drew ?_ | refine Below.alloc ?_ (by first | omega | (simp; omega)) _ | refine Below.setCell ?_ (by first | omega | (simp; omega) | simp) _)); rintro e w' ⟨rfl, rfl⟩)
  all_goals
    go_wp2
    exact bodyPost_ret (v := takeT ((S, A), T, C)) (by simp [results, Tryd.results9, go_sem, takeT, hz2, hc1]) rfl ⟨rfl, by repeat (first | exact B1 | refine Below.drew ?_ | refine Below.alloc ?_ (by first | omega | (simp; omega)) _ | refine Below.setCell ?_ (by first | omega | (simp; omega) | simp) _)⟩

def tbV (X : (ByteArray × Int) × ByteArray × Int) : Value := .tuple #[cur X.1.1 X.1.2, .int .i64 (if X.2.2 = 0 then byt X.2.1 0 else 0), .int .i64 X.2.2]
def twV (X : (ByteArray × Int) × ByteArray × Int) : Value := .tuple #[cur X.1.1 X.1.2, .int .i64 (if X.2.2 = 0 then byt X.2.1 0 + 256 * byt X.2.1 1 else 0), .int .i64 X.2.2]

theorem takeByte_impl (s : ByteArray) (a : Int) (e0 e1 e2 : Addr) (w : World) (hs : s.size ≤ maxLen) (hE : Errs w e0 e1 e2) :
    Calls Tryd.prog 11 #[cur s a] w fun e w' => e = .returned (tbV (takeV s a 1)) ∧ Below w.heap.size w w' := by
  have hC := takeV_code s a 1
  have hT := fun W (h : Errs W e0 e1 e2) => take_impl s a 1 e0 e1 e2 W hs h
  have hZ : (takeV s a 1).2.2 = 0 → (takeV s a 1).2.1.size = 1 := fun h => (takeV_size s a 1 h).1
  generalize takeV s a 1 = X at hC hT hZ
  obtain ⟨⟨S, A⟩, T, C⟩ := X
  simp only at hC hZ
  have hE2 : Errs ((w.alloc (.cells #[.string s, .int .i64 a] 28)).alloc (.cells #[.string ByteArray.empty, .int .i64 0] 28)) e0 e1 e2 := hE.below (((Below.refl _ _).alloc (Nat.le_refl _) _).alloc (by simp) _)
  by_cases h0 : C = 0
  · subst h0
    have hsz := hZ rfl
    have hx0 := run_idx T 0 0 rfl (by omega)
    have hb0 := byt_bd T 0
    have hb1' := byt_bd T 1
    go_enter Tryd.func11, Tryd.ntmps11
    go_wp2_with fail
    refine (hT _ hE2).mono ?_
    rintro e w1 ⟨rfl, hb1⟩
    obtain ⟨hc1, hf1⟩ := bcell hb1
    have hz1 := hb1.size
    simp only [World.size_alloc] at hz1
    have hz2 : w.heap.size + 1 < w1.heap.size := by omega
    have hz3 : w.heap.size < w1.heap.size := by omega
    have B1 : Below w.heap.size w w1 := (((Below.refl _ _).alloc (Nat.le_refl _) _).alloc (by simp) _).trans (hb1.mono (by simp; omega))
    clear hb1 hE2 hT
    show _
    unfold takeE errV
    simp only [if_true]
    go_wp2
    go_region
    go_wp2
    exact bodyPost_ret (v := tbV ((S, A), T, 0)) (by simp [results, Tryd.results11, go_sem, tbV, hz2, hc1]) rfl ⟨rfl, by repeat (first | exact B1 | refine Below.drew ?_ | refine Below.alloc ?_ (by first | omega | (simp; omega)) _ | refine Below.setCell ?_ (by first | omega | (simp; omega) | simp) _)⟩
  · obtain ⟨x, hx⟩ := errV_some e0 e1 e2 C h0
    have hTC := fun W (h : Errs W e0 e1 e2) => takeCode_any e0 e1 e2 C W h hC
    go_enter Tryd.func11, Tryd.ntmps11
    go_wp2_with fail
    refine (hT _ hE2).mono ?_
    rintro e w1 ⟨rfl, hb1⟩
    obtain ⟨hc1, hf1⟩ := bcell hb1
    have hz1 := hb1.size
    simp only [World.size_alloc] at hz1
    have hz2 : w.heap.size + 1 < w1.heap.size := by omega
    have hz3 : w.heap.size < w1.heap.size := by omega
    have B1 : Below w.heap.size w w1 := (((Below.refl _ _).alloc (Nat.le_refl _) _).alloc (by simp) _).trans (hb1.mono (by simp; omega))
    clear hb1 hE2 hT
    unfold takeE
    simp only
    rw [hx]
    rw [hx] at hTC
    clear hx
    go_wp2
    go_region_with (go_at_call 28; refine (hTC _ ?_).mono ?_; exact hE.below (by repeat (first | exact B1 | refine Below.drew ?_ | refine Below.alloc ?_ (by first | omega | (simp; omega)) _ | refine Below.setCell ?_ (by first | omega | (simp; omega) | simp) _)); rintro e w' ⟨rfl, rfl⟩)
    all_goals
      go_wp2
      exact bodyPost_ret (v := tbV ((S, A), T, C)) (by simp [results, Tryd.results11, go_sem, tbV, hz2, hc1, h0]) rfl ⟨rfl, by repeat (first | exact B1 | refine Below.drew ?_ | refine Below.alloc ?_ (by first | omega | (simp; omega)) _ | refine Below.setCell ?_ (by first | omega | (simp; omega) | simp) _)⟩
theorem wordOf_impl (t : ByteArray) (w : World) (h : t.size = 2) : Calls Tryd.prog 29 #[.string t] w fun e w' => e = .returned (.int .i64 (byt t 0 + 256 * byt t 1)) ∧ w' = w.drew := by
  have hx0 := run_idx t 0 0 rfl (by omega)
  have hx1 := run_idx t 1 1 rfl (by omega)
  have hb0 := byt_bd t 0
  have hb1 := byt_bd t 1
  go_enter Tryd.func29, Tryd.ntmps29
  go_wp2
  go_region
  go_wp2
  go_ret
  exact ⟨rfl, rfl⟩
theorem takeWord_impl (s : ByteArray) (a : Int) (e0 e1 e2 : Addr) (w : World) (hs : s.size ≤ maxLen) (hE : Errs w e0 e1 e2) :
    Calls Tryd.prog 10 #[cur s a] w fun e w' => e = .returned (twV (takeV s a 2)) ∧ Below w.heap.size w w' := by
  have hC := takeV_code s a 2
  have hT := fun W (h : Errs W e0 e1 e2) => take_impl s a 2 e0 e1 e2 W hs h
  have hZ : (takeV s a 2).2.2 = 0 → (takeV s a 2).2.1.size = 2 := fun h => (takeV_size s a 2 h).1
  generalize takeV s a 2 = X at hC hT hZ
  obtain ⟨⟨S, A⟩, T, C⟩ := X
  simp only at hC hZ
  have hE2 : Errs ((w.alloc (.cells #[.string s, .int .i64 a] 28)).alloc (.cells #[.string ByteArray.empty, .int .i64 0] 28)) e0 e1 e2 := hE.below (((Below.refl _ _).alloc (Nat.le_refl _) _).alloc (by simp) _)
  by_cases h0 : C = 0
  · subst h0
    have hsz := hZ rfl
    have hx0 := run_idx T 0 0 rfl (by omega)
    have hx1 := run_idx T 1 1 rfl (by omega)
    have hb0 := byt_bd T 0
    have hb1' := byt_bd T 1
    have hWO : Hid (∀ W, Calls Tryd.prog 29 #[.string T] W fun e w' => e = .returned (.int .i64 (byt T 0 + 256 * byt T 1)) ∧ w' = W.drew) := fun W => wordOf_impl T W hsz
    obtain ⟨Y, hY⟩ : ∃ Y, byt T 0 + 256 * byt T 1 = Y := ⟨_, rfl⟩
    have hYt : twV ((S, A), T, 0) = .tuple #[cur S A, .int .i64 Y, .int .i64 0] := by rw [← hY]; rfl
    rw [hYt]
    rw [hY] at hWO
    clear hY hYt hx0 hx1 hb0 hb1' hsz
    go_enter Tryd.func10, Tryd.ntmps10
    go_wp2_with fail
    refine (hT _ hE2).mono ?_
    rintro e w1 ⟨rfl, hb1⟩
    obtain ⟨hc1, hf1⟩ := bcell hb1
    have hz1 := hb1.size
    simp only [World.size_alloc] at hz1
    have hz2 : w.heap.size + 1 < w1.heap.size := by omega
    have hz3 : w.heap.size < w1.heap.size := by omega
    have B1 : Below w.heap.size w w1 := (((Below.refl _ _).alloc (Nat.le_refl _) _).alloc (by simp) _).trans (hb1.mono (by simp; omega))
    clear hb1 hE2 hT
    show _
    unfold takeE errV
    simp only [if_true]
    go_wp2
    go_region_with (go_at_call 29; refine (hWO.out _).mono ?_; rintro e w' ⟨rfl, rfl⟩)
    all_goals
     go_wp2
     exact bodyPost_ret (v := .tuple #[cur S A, .int .i64 Y, .int .i64 0]) (by simp [results, Tryd.results10, go_sem, hz2, hc1]) rfl ⟨rfl, by repeat (first | exact B1 | refine Below.drew ?_ | refine Below.alloc ?_ (by first | omega | (simp; omega)) _ | refine Below.setCell ?_ (by first | omega | (simp; omega) | simp) _)⟩
  · obtain ⟨x, hx⟩ := errV_some e0 e1 e2 C h0
    have hTC := fun W (h : Errs W e0 e1 e2) => takeCode_any e0 e1 e2 C W h hC
    go_enter Tryd.func10, Tryd.ntmps10
    go_wp2_with fail
    refine (hT _ hE2).mono ?_
    rintro e w1 ⟨rfl, hb1⟩
    obtain ⟨hc1, hf1⟩ := bcell hb1
    have hz1 := hb1.size
    simp only [World.size_alloc] at hz1
    have hz2 : w.heap.size + 1 < w1.heap.size := by omega
    have hz3 : w.heap.size < w1.heap.size := by omega
    have B1 : Below w.heap.size w w1 := (((Below.refl _ _).alloc (Nat.le_refl _) _).alloc (by simp) _).trans (hb1.mono (by simp; omega))
    clear hb1 hE2 hT
    unfold takeE
    simp only
    rw [hx]
    rw [hx] at hTC
    clear hx
    go_wp2
    go_region_with (go_at_call 28; refine (hTC _ ?_).mono ?_; exact hE.below (by repeat (first | exact B1 | refine Below.drew ?_ | refine Below.alloc ?_ (by first | omega | (simp; omega)) _ | refine Below.setCell ?_ (by first | omega | (simp; omega) | simp) _)); rintro e w' ⟨rfl, rfl⟩)
    all_goals
      go_wp2
      exact bodyPost_ret (v := twV ((S, A), T, C)) (by simp [results, Tryd.results10, go_sem, twV, hz2, hc1, h0]) rfl ⟨rfl, by repeat (first | exact B1 | refine Below.drew ?_ | refine Below.alloc ?_ (by first | omega | (simp; omega)) _ | refine Below.setCell ?_ (by first | omega | (simp; omega) | simp) _)⟩
end Go.Proofs.YthffhfafnohndaaDoor
