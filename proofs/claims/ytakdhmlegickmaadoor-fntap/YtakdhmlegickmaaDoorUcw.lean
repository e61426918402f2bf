/- A block out of its bytes: the specification. -/
import Derived.Test.YtakdhmlegickmaaDoorUbw
import Derived.BigRegion
namespace Go.Proofs.YtakdhmlegickmaaDoor
open Go.ChangeShapes Go.WideShapes Go.ChangeAt Go.RowKit
set_option linter.unusedVariables false
set_option linter.unusedSimpArgs false

/-- flag, data, code -/
def ofB (t : ByteArray) : (Int × ByteArray) × Int :=
  if t.size < 2 ∨ 42 < t.size then ((0, ByteArray.empty), 8)
  else if xorN t t.size ≠ 0 then ((0, ByteArray.empty), 10)
  else ((byt t 0, t.extract 1 (t.size - 1)), 0)
abbrev ofT (x : (Int × ByteArray) × Int) : Value := .tuple #[bkV x.1.1 x.1.2, .int .i64 x.2]
set_option maxRecDepth 100000 in
theorem bkof_spec (t : ByteArray) (w : World) (ht : t.size ≤ maxLen) : Calls Tryd.prog 78 #[.string t] w fun e w' => e = .returned (ofT (ofB t)) ∧ Below w.heap.size w w' := by
  unfold maxLen at ht
  have hB : Hid (∀ o, Below w.heap.size w (w.alloc o)) := fun o => (Below.refl _ _).alloc (Nat.le_refl _) o
  have hq := Blk.new w (bkA 0 ByteArray.empty) 33
  have x0 := hq.cell
  have f0 := hq.frozen
  have l0 := hq.lt
  by_cases h1 : t.size < 2
  · have e : ofB t = ((0, ByteArray.empty), 8) := if_pos (.inl h1)
    rw [e]
    go_enter Tryd.func78, Tryd.ntmps78
    go_wp2
    exact bodyPost_ret (v := ofT ((0, ByteArray.empty), 8)) (by simp [results, Tryd.results78, go_sem]; try rfl) rfl ⟨rfl, by repeat (first | exact hB.out _ | refine Below.setCell ?_ (by first | omega | (simp; omega) | simp) _)⟩
  · by_cases h2 : 42 < t.size
    · have e : ofB t = ((0, ByteArray.empty), 8) := if_pos (.inr h2)
      rw [e]
      go_enter Tryd.func78, Tryd.ntmps78
      go_wp2
      exact bodyPost_ret (v := ofT ((0, ByteArray.empty), 8)) (by simp [results, Tryd.results78, go_sem]; try rfl) rfl ⟨rfl, by repeat (first | exact hB.out _ | refine Below.setCell ?_ (by first | omega | (simp; omega) | simp) _)⟩
    · have hX := hid (fun w1 => xor_spec t w1 (by unfold maxLen; omega))
      by_cases h3 : xorN t t.size ≠ 0
      · have e : ofB t = ((0, ByteArray.empty), 10) := by unfold ofB; rw [if_neg (by omega), if_pos h3]
        rw [e]
        have h3b : (xorN t t.size == 0) = false := by simpa using h3
        generalize xorN t t.size = X at *
        clear e
        go_enter Tryd.func78, Tryd.ntmps78
        go_wp2_with (go_at_call 92; refine (hX.out _).mono ?_; rintro e w' ⟨rfl, hww⟩; obtain rfl := hww.symm)
        exact bodyPost_ret (v := ofT ((0, ByteArray.empty), 10)) (by simp [results, Tryd.results78, go_sem]; try rfl) rfl ⟨rfl, by repeat (first | exact hB.out _ | refine Below.setCell ?_ (by first | omega | (simp; omega) | simp) _)⟩
      · have e : ofB t = ((byt t 0, t.extract 1 (t.size - 1)), 0) := by unfold ofB; rw [if_neg (by omega), if_neg h3]
        rw [e]
        have h3b : xorN t t.size = 0 := Decidable.not_not.1 h3
        rw [h3b] at hX
        clear e h3 h3b
        have hx0 := run_idx t 0 0 rfl (by omega)
        have hb0 := byt_bd t 0
        obtain ⟨n, hn⟩ : ∃ n : Nat, t.size = n + 1 := ⟨t.size - 1, by omega⟩
        have hn2 : t.size - 1 = n := by omega
        rw [hn2]
        have hn3 : (t.size : Int) - 1 = (n : Int) := by omega
        have hn4 : 1 ≤ n := by omega
        have hn5 : n ≤ t.size := by omega
        have hn6 : (1 : Int) ≤ (n : Int) := by omega
        have hn7 : (n : Int) ≤ (t.size : Int) := by omega
        have hn8 : (0 : Int) ≤ (n : Int) := by omega
        clear hn hn2
        go_enter Tryd.func78, Tryd.ntmps78
        go_wp2_with (go_at_call 92; refine (hX.out _).mono ?_; rintro e w' ⟨rfl, hww⟩; obtain rfl := hww.symm)

        go_region
        go_wp2
        exact bodyPost_ret (v := ofT ((byt t 0, t.extract 1 n), 0)) (by simp [results, Tryd.results78, go_sem]; try rfl) rfl ⟨rfl, by repeat (first | exact hB.out _ | refine Below.drew ?_ | refine Below.setCell ?_ (by first | omega | (simp; omega) | simp) _)⟩
end Go.Proofs.YtakdhmlegickmaaDoor
