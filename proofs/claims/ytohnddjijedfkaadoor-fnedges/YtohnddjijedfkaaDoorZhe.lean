/- What the exact laws' helpers over blocks answer. -/
import Derived.Test.YtohnddjijedfkaaDoorUae
namespace Go.Proofs.YtohnddjijedfkaaDoor
open Go.ChangeShapes Go.WideShapes Go.ChangeAt Go.RowKit
set_option linter.unusedVariables false
set_option linter.unusedSimpArgs false

def szB (s : ByteArray) (l : Int) : Int := if l - (s.size : Int) < 0 then -1 else l - (s.size : Int)
theorem szbk (f : Int) (s : ByteArray) (l : Int) (w : World) (hs : s.size ≤ maxLen) (h0 : 0 ≤ l) (h1 : l ≤ 1048576) :
    Calls Tryd.prog 33 #[bkV f s, .int .i64 l] w fun e w' => e = .returned (.int .i64 (szB s l)) ∧ Below w.heap.size w w' := by
  unfold maxLen at hs
  unfold szB
  obtain ⟨q, hq⟩ : ∃ q : Int, l - (s.size : Int) = q := ⟨_, rfl⟩
  rw [hq]
  have hq1 : -9223372036854775808 ≤ q := by omega
  have hq2 : q ≤ 1048576 := by omega
  by_cases h : q < 0
  · rw [if_pos h]
    go_enter Tryd.func33, Tryd.ntmps33
    go_wp2
    go_ret
    exact ⟨rfl, (Below.refl _ _).alloc (Nat.le_refl _) _⟩
  · rw [if_neg h]
    go_enter Tryd.func33, Tryd.ntmps33
    go_wp2
    go_ret
    exact ⟨rfl, (Below.refl _ _).alloc (Nat.le_refl _) _⟩
theorem tobk (f : Int) (s : ByteArray) (w : World) :
    Calls Tryd.prog 36 #[bkV f s] w fun e w' => e = .returned (bkV f s) ∧ Below w.heap.size w w' := by
  go_enter Tryd.func36, Tryd.ntmps36
  go_wp2
  exact bodyPost_ret (v := bkV f s) (by simp [results, Tryd.results36, go_sem]) rfl ⟨rfl, by repeat (first | exact Below.refl _ _ | refine Below.drew ?_ | refine Below.alloc ?_ (by first | omega | (simp; omega) | simp) _ | refine Below.setCell ?_ (by first | omega | (simp; omega) | simp) _)⟩
theorem eqbk (f : Int) (s : ByteArray) (w : World) :
    Calls Tryd.prog 38 #[bkV f s, bkV f s] w fun e w' => e = .returned (.bool true) ∧ Below w.heap.size w w' := by
  go_enter Tryd.func38, Tryd.ntmps38
  go_wp2
  go_ret
  exact ⟨rfl, ((Below.refl _ _).alloc (Nat.le_refl _) _).alloc (by simp) _⟩
end Go.Proofs.YtohnddjijedfkaaDoor
