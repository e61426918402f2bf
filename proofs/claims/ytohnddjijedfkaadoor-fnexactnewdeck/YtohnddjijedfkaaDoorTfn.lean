/- What is at fault with a tape: the program. -/
import Derived.Test.YtohnddjijedfkaaDoorZan
import Derived.Test.YtohnddjijedfkaaDoorUfn
import Derived.Deep.DeepCutAuto
namespace Go.Proofs.YtohnddjijedfkaaDoor
open Go.ChangeShapes Go.WideShapes Go.ChangeAt Go.RowKit
set_option linter.unusedVariables false
set_option linter.unusedSimpArgs false

set_option maxRecDepth 100000 in
set_option maxHeartbeats 2000000 in
theorem tapeFault_impl (a : Option Addr) (cap : Nat) (l : List (Int × ByteArray)) (w : World) (h : BkR w a l) (hl : l.length ≤ 1048576) (hs : ∀ x ∈ l, x.2.size ≤ maxLen) :
    Calls Tryd.prog 44 #[.slice a l.length cap] w fun e w' => e = .returned (.int .i64 (tap2 l).2) ∧ Below w.heap.size w w' := by
  by_cases h1 : 4096 < l.length
  · have e : tap2 l = (ByteArray.empty, 2) := if_pos h1
    rw [e]
    go_enter Tryd.func44, Tryd.ntmps44
    go_wp2
    go_ret
    exact ⟨rfl, Below.refl _ _⟩
  by_cases h6 : 6 < l.length
  · have e : tap2 l = (ByteArray.empty, 1) := by
      unfold tap2
      rw [if_neg h1, if_neg]
      intro hc
      have := allL_len hc
      omega
    rw [e]
    go_enter Tryd.func44, Tryd.ntmps44
    go_wp2
    go_ret
    exact ⟨rfl, Below.refl _ _⟩
  have hno : Hid (∀ k, k < l.length → okB (l.getD k bkz).1 (l.getD k bkz).2 = false → (tap2 l).2 = 1) := fun k hk hb => by
    unfold tap2
    rw [if_neg h1, allL_no hk hb]
    rfl
  have hyes : Hid ((∀ k, k < l.length → okB (l.getD k bkz).1 (l.getD k bkz).2 = true) → (tap2 l).2 = 0) := fun hh => by
    unfold tap2
    rw [if_neg h1, allL_yes hh, if_pos (by simpa using by omega)]
  have hsz : Hid (∀ k, k < l.length → (l.getD k bkz).2.size ≤ maxLen) := fun k hk => hs _ (getD_mem hk)
  clear hs
  replace h := hid h
  obtain ⟨Q, hQ⟩ : ∃ Q, (tap2 l).2 = Q := ⟨_, rfl⟩
  rw [hQ] at hno hyes ⊢
  clear hQ
  go_enter Tryd.func44, Tryd.ntmps44
  go_wp2
  go_loopw [13] (fun i wr => ∃ k : Nat, k ≤ l.length ∧ i = .int .i64 k ∧ (∀ j, j < k → okB (l.getD j bkz).1 (l.getD j bkz).2 = true) ∧ Below w.heap.size w wr) (fun i _ => l.length - (intOf i).toNat)
  case atStart => exact ⟨0, by omega, rfl, fun j hj => by omega, Below.refl _ _⟩
  case round =>
    obtain ⟨k, hk, rfl, hj, hW⟩ := hrel
    by_cases hlt : k < l.length
    · obtain ⟨g, o, rfl, x1, x2⟩ := (h.out.below hW).at hlt
      have hz := hsz.out k hlt
      have hO := hid (fun W => bkokP_impl (l.getD k bkz).1 (l.getD k bkz).2 W hz)
      cases hb : okB (l.getD k bkz).1 (l.getD k bkz).2
      · have hE := hid (hno.out k hlt hb)
        clear hj hno hyes
        rw [hb] at hO
        generalize (l.getD k bkz).1 = F at *
        generalize (l.getD k bkz).2 = D at *
        have hW1 := hid (hW.alloc hW.size (.cells (bkA F D) 63))
        clear hz hW
        go_wp2_with fail
        refine (hO.out _).mono ?_
        rintro e w2 ⟨rfl, hb2⟩
        have hW2 := hid (new_trans hW1.out hb2)
        clear hb2 hW1 x1 x2
        go_wp2_with fail
        go_ret
        exact ⟨ret_int hE.out.symm, hW2.out⟩
      · have hj2 : Hid (∀ j, j < k + 1 → okB (l.getD j bkz).1 (l.getD j bkz).2 = true) := fun j hj1 => by
          by_cases e : j = k
          · rw [e]; exact hb
          · exact hj j (by omega)
        clear hj hno hyes
        rw [hb] at hO
        generalize (l.getD k bkz).1 = F at *
        generalize (l.getD k bkz).2 = D at *
        have hW1 := hid (hW.alloc hW.size (.cells (bkA F D) 63))
        clear hz hW
        go_wp2_with fail
        refine (hO.out _).mono ?_
        rintro e w2 ⟨rfl, hb2⟩
        have hW2 := hid (new_trans hW1.out hb2)
        clear hb2 hW1 x1 x2
        go_wp2_with fail
        go_roundw
        case rel => exact ⟨k + 1, by omega, by go_num, hj2.out, hW2.out⟩
        case measure => simp [intOf]; omega
    · obtain rfl : k = l.length := by omega
      have hE := hid (hyes.out hj)
      replace hW := hid hW
      clear hj hno hyes
      go_wp2_with fail
      go_ret
      exact ⟨ret_int hE.out.symm, hW.out⟩
end Go.Proofs.YtohnddjijedfkaaDoor
