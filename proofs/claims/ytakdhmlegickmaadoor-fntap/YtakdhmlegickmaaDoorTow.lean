/- What the specification's TakeBytes, TakeByte and TakeWord answer, and the laws' own helpers over cursors. -/
import Derived.Test.YtakdhmlegickmaaDoorW06
namespace Go.Proofs.YtakdhmlegickmaaDoor
open Go.ChangeShapes Go.WideShapes Go.ChangeAt Go.RowKit
set_option linter.unusedVariables false
set_option linter.unusedSimpArgs false
theorem takeWord_spec (s : ByteArray) (a : Int) (w : World) (hs : s.size ≤ maxLen) :
    Calls Tryd.prog 76 #[cur s a] w fun e w' => e = .returned (twV (takeV s a 2)) ∧ Below w.heap.size w w' := by
  have hT := fun W => take_spec s a 2 W hs
  have hZ : (takeV s a 2).2.2 = 0 → (takeV s a 2).2.1.size = 2 := fun h => (takeV_size s a 2 h).1
  generalize takeV s a 2 = X at hT hZ
  obtain ⟨⟨S, A⟩, T, C⟩ := X
  simp only at hZ
  by_cases h0 : C = 0
  · subst h0
    have hsz := hZ rfl
    have hx0 := run_idx T 0 0 rfl (by omega)
    have hx1 := run_idx T 1 1 rfl (by omega)
    have hb0 := byt_bd T 0
    have hb1' := byt_bd T 1
    go_enter Tryd.func76, Tryd.ntmps76
    go_wp2_with fail
    refine (hT _).mono ?_
    rintro e w1 ⟨rfl, hb1⟩
    obtain ⟨hc1, hf1⟩ := bcell hb1
    have hz1 := hb1.size
    simp only [World.size_alloc] at hz1
    have hz2 : w.heap.size + 1 < w1.heap.size := by omega
    have hz3 : w.heap.size < w1.heap.size := by omega
    have B1 : Below w.heap.size w w1 := (((Below.refl _ _).alloc (Nat.le_refl _) _).alloc (by simp) _).trans (hb1.mono (by simp; omega))
    clear hb1 hT
    unfold takeT
    simp only
    go_wp2
    go_region
    go_wp2
    exact bodyPost_ret (v := twV ((S, A), T, 0)) (by simp [results, Tryd.results76, go_sem, twV, hz2, hc1]) rfl ⟨rfl, by repeat (first | exact B1 | refine Below.drew ?_ | refine Below.alloc ?_ (by first | omega | (simp; omega)) _ | refine Below.setCell ?_ (by first | omega | (simp; omega) | simp) _)⟩
  · have h0' : (C != 0) = true := by simpa using h0
    go_enter Tryd.func76, Tryd.ntmps76
    go_wp2_with fail
    refine (hT _).mono ?_
    rintro e w1 ⟨rfl, hb1⟩
    obtain ⟨hc1, hf1⟩ := bcell hb1
    have hz1 := hb1.size
    simp only [World.size_alloc] at hz1
    have hz2 : w.heap.size + 1 < w1.heap.size := by omega
    have hz3 : w.heap.size < w1.heap.size := by omega
    have B1 : Below w.heap.size w w1 := (((Below.refl _ _).alloc (Nat.le_refl _) _).alloc (by simp) _).trans (hb1.mono (by simp; omega))
    clear hb1 hT
    unfold takeT
    simp only
    go_wp2
    exact bodyPost_ret (v := twV ((S, A), T, C)) (by simp [results, Tryd.results76, go_sem, twV, hz2, hc1, h0]) rfl ⟨rfl, by repeat (first | exact B1 | refine Below.drew ?_ | refine Below.alloc ?_ (by first | omega | (simp; omega)) _ | refine Below.setCell ?_ (by first | omega | (simp; omega) | simp) _)⟩

end Go.Proofs.YtakdhmlegickmaaDoor
