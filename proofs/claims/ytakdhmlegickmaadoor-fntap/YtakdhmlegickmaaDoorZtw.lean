/- A tape's text: the program. -/
import Derived.Test.YtakdhmlegickmaaDoorZaw
import Derived.Test.YtakdhmlegickmaaDoorZww
import Derived.Test.YtakdhmlegickmaaDoorUfw
namespace Go.Proofs.YtakdhmlegickmaaDoor
open Go.ChangeShapes Go.WideShapes Go.ChangeAt Go.RowKit
set_option linter.unusedVariables false
set_option linter.unusedSimpArgs false

set_option maxRecDepth 100000 in
set_option maxHeartbeats 2000000 in
theorem tapeFault_impl (a : Option Addr) (cap : Nat) (l : List (Int × ByteArray)) (w : World) (h : BkR w a l) (hl : l.length ≤ 1048576) (hs : ∀ x ∈ l, x.2.size ≤ maxLen) :
    Calls Tryd.prog 30 #[.slice a l.length cap] w fun e w' => e = .returned (.int .i64 (tap2 l).2) ∧ Below w.heap.size w w' := by
  by_cases h1 : 4096 < l.length
  · have e : tap2 l = (ByteArray.empty, 2) := if_pos h1
    rw [e]
    go_enter Tryd.func30, Tryd.ntmps30
    go_wp2
    go_ret
    exact ⟨rfl, Below.refl _ _⟩
  by_cases h6 : 6 < l.length
  · have e : tap2 l = (ByteArray.empty, 1) := by
      unfold tap2
      rw [if_neg h1, if_neg]
      intro hc
      have := allL_len hc
      omega
    rw [e]
    go_enter Tryd.func30, Tryd.ntmps30
    go_wp2
    go_ret
    exact ⟨rfl, Below.refl _ _⟩
  have hno : Hid (∀ k, k < l.length → okB (l.getD k bkz).1 (l.getD k bkz).2 = false → (tap2 l).2 = 1) := fun k hk hb => by
    unfold tap2
    rw [if_neg h1, allL_no hk hb]
    rfl
  have hyes : Hid ((∀ k, k < l.length → okB (l.getD k bkz).1 (l.getD k bkz).2 = true) → (tap2 l).2 = 0) := fun hh => by
    unfold tap2
    rw [if_neg h1, allL_yes hh, if_pos (by simpa using by omega)]
  have hsz : Hid (∀ k, k < l.length → (l.getD k bkz).2.size ≤ maxLen) := fun k hk => hs _ (getD_mem hk)
  clear hs
  replace h := hid h
  obtain ⟨Q, hQ⟩ : ∃ Q, (tap2 l).2 = Q := ⟨_, rfl⟩
  rw [hQ] at hno hyes ⊢
  clear hQ
  go_enter Tryd.func30, Tryd.ntmps30
  go_wp2
  go_loopw [13] (fun i wr => ∃ k : Nat, k ≤ l.length ∧ i = .int .i64 k ∧ (∀ j, j < k → okB (l.getD j bkz).1 (l.getD j bkz).2 = true) ∧ Below w.heap.size w wr) (fun i _ => l.length - (intOf i).toNat)
  case atStart => exact ⟨0, by omega, rfl, fun j hj => by omega, Below.refl _ _⟩
  case round =>
    obtain ⟨k, hk, rfl, hj, hW⟩ := hrel
    by_cases hlt : k < l.length
    · obtain ⟨g, o, rfl, x1, x2⟩ := (h.out.below hW).at hlt
      have hz := hsz.out k hlt
      have hO := hid (fun W => bkokP_impl (l.getD k bkz).1 (l.getD k bkz).2 W hz)
      cases hb : okB (l.getD k bkz).1 (l.getD k bkz).2
      · have hE := hid (hno.out k hlt hb)
        clear hj hno hyes
        rw [hb] at hO
        generalize (l.getD k bkz).1 = F at *
        generalize (l.getD k bkz).2 = D at *
        have hW1 := hid (hW.alloc hW.size (.cells (bkA F D) 33))
        clear hz hW
        go_wp2_with fail
        refine (hO.out _).mono ?_
        rintro e w2 ⟨rfl, hb2⟩
        have hW2 := hid (new_trans hW1.out hb2)
        clear hb2 hW1 x1 x2
        go_wp2_with fail
        go_ret
        exact ⟨ret_int hE.out.symm, hW2.out⟩
      · have hj2 : Hid (∀ j, j < k + 1 → okB (l.getD j bkz).1 (l.getD j bkz).2 = true) := fun j hj1 => by
          by_cases e : j = k
          · rw [e]; exact hb
          · exact hj j (by omega)
        clear hj hno hyes
        rw [hb] at hO
        generalize (l.getD k bkz).1 = F at *
        generalize (l.getD k bkz).2 = D at *
        have hW1 := hid (hW.alloc hW.size (.cells (bkA F D) 33))
        clear hz hW
        go_wp2_with fail
        refine (hO.out _).mono ?_
        rintro e w2 ⟨rfl, hb2⟩
        have hW2 := hid (new_trans hW1.out hb2)
        clear hb2 hW1 x1 x2
        go_wp2_with fail
        go_roundw
        case rel => exact ⟨k + 1, by omega, by go_num, hj2.out, hW2.out⟩
        case measure => simp [intOf]; omega
    · obtain rfl : k = l.length := by omega
      have hE := hid (hyes.out hj)
      replace hW := hid hW
      clear hj hno hyes
      go_wp2_with fail
      go_ret
      exact ⟨ret_int hE.out.symm, hW.out⟩
theorem bytes_cat (s t : ByteArray) : Lib.byteCells (s ++ t).data.toList = Lib.byteCells s.data.toList ++ Lib.strCells t := by
  unfold Lib.byteCells Lib.strCells
  rw [ByteArray.data_append, Array.toList_append, List.map_append]
set_option maxRecDepth 100000 in
set_option maxHeartbeats 2000000 in
theorem taptext_impl (a : Option Addr) (cap : Nat) (l : List (Int × ByteArray)) (w : World) (h : BkR w a l) (hl : l.length ≤ 1048576) (hs : ∀ x ∈ l, x.2.size ≤ maxLen) :
    Calls Tryd.prog 7 #[.slice a l.length cap] w fun e w' => e = .returned (.tuple #[.string (tap2 l).1, .int .i64 (tap2 l).2]) ∧ Below w.heap.size w w' := by
  have hA := hid (fun W (hW : BkR W a l) => tapeFault_impl a cap l W hW hl hs)
  by_cases hc : (tap2 l).2 = 0
  · have hal : allL l = true := by
      unfold tap2 at hc
      split at hc
      · cases hc
      · split at hc
        · assumption
        · cases hc
    have e : tap2 l = (tapN l l.length, 0) := by
      unfold tap2
      rw [if_neg (by have := allL_len hal; omega), if_pos hal]
    rw [e]
    rw [hc] at hA
    clear e hc
    have h6 := allL_len hal
    have hT : Hid (∀ k, k < l.length → ∀ W, Calls Tryd.prog 32 #[bkV (l.getD k bkz).1 (l.getD k bkz).2] W fun e w' => e = .returned (.string (txtB (l.getD k bkz).1 (l.getD k bkz).2)) ∧ Below W.heap.size W w') := fun k hk W => textP_impl _ _ W (allL_at hal hk)
    have hZ : Hid (∀ k, k < l.length → (tapN l k).size ≤ 264 ∧ (txtB (l.getD k bkz).1 (l.getD k bkz).2).size ≤ 44) := fun k hk => ⟨by have := tapN_size hal k (by omega); omega, by rw [txtB_size]; have := ((okB_iff _ _).1 (allL_at hal hk)).2; omega⟩
    replace h := hid h
    clear hal hs
    go_enter Tryd.func7, Tryd.ntmps7
    go_wp2_with fail
    refine (hA.out _ h.out).mono ?_
    rintro e w1 ⟨rfl, hb⟩
    have hb1 := hid (hb.alloc hb.size (.cells #[.pointer none, .slice none 0 0] 58))
    have hI1 := hid (isb_new w1 w.heap.size hb.size)
    clear hb hA
    go_upto_region 5 with fail
    obtain ⟨B, hB⟩ : ∃ B, w1.heap.size = B := ⟨_, rfl⟩
    obtain ⟨W1, hW1⟩ : ∃ W1, w1.alloc (.cells #[.pointer none, .slice none 0 0] 58) = W1 := ⟨_, rfl⟩
    rw [hW1, hB] at hI1
    rw [hW1] at hb1 ⊢
    rw [hB]
    clear hB hW1
    go_wp2_with fail
    go_loopw [15] (fun i wr => ∃ k : Nat, k ≤ l.length ∧ i = .int .i64 k ∧ Lib.IsBuilder 58 5 w.heap.size B (Lib.byteCells (tapN l k).data.toList) wr ∧ Below w.heap.size w wr) (fun i _ => l.length - (intOf i).toNat)
    case atStart => exact ⟨0, by omega, rfl, hI1.out, hb1.out⟩
    case round =>
      obtain ⟨k, hk, rfl, hI, hW⟩ := hrel
      clear hI1 hb1
      by_cases hlt : k < l.length
      · obtain ⟨g, o, rfl, x1, x2⟩ := (h.out.below hW).at hlt
        obtain ⟨z1, z2⟩ := hZ.out k hlt
        have hT2 := hid (hT.out k hlt)
        have hE : Hid (Lib.byteCells (tapN l (k + 1)).data.toList = Lib.byteCells (tapN l k).data.toList ++ Lib.strCells (txtB (l.getD k bkz).1 (l.getD k bkz).2)) := bytes_cat _ _
        have zz : (Lib.byteCells (tapN l k).data.toList).length ≤ 264 := by rw [Lib.byteCells_length, Array.length_toList]; exact z1
        generalize txtB (l.getD k bkz).1 (l.getD k bkz).2 = X at *
        generalize (l.getD k bkz).1 = F at *
        generalize (l.getD k bkz).2 = D at *
        generalize Lib.byteCells (tapN l k).data.toList = Y at *
        have hW1 := hid (hW.alloc hW.size (.cells (bkA F D) 33))
        have hI1 := hid (isb_below hI ((Below.refl wr.heap.size wr).alloc (Nat.le_refl _) (.cells (bkA F D) 33)))
        clear hW hI
        go_wp2_with fail
        refine (hT2.out _).mono ?_
        rintro e w2 ⟨rfl, hb2⟩
        have hW2 := hid (new_trans hW1.out hb2)
        have hI2 := hid (isb_below hI1.out hb2)
        clear hb2 hW1 hI1 x1 x2 hT2
        go_wp2_with fail
        refine (wr_text w.heap.size B Y X _ hI2.out (by omega) hW2.out.size).mono ?_
        rintro e w3 ⟨rfl, hI3, hb3⟩
        have hW3 := hid (hW2.out.trans hb3)
        replace hI3 := hid hI3
        clear hb3 hW2 hI2
        go_wp2_with fail
        go_roundw
        case rel => exact ⟨k + 1, by omega, by go_num, by rw [hE.out]; exact hI3.out, hW3.out⟩
        case measure => simp [intOf]; omega
      · obtain rfl : k = l.length := by omega
        replace hW := hid hW
        have hF := hid (Tryd.Builder_String_any w.heap.size B (tapN l l.length).data.toList wr hI hW.out.size)
        clear hI
        go_wp2_with fail
        refine hF.out.mono ?_
        rintro e w4 ⟨rfl, hb4⟩
        have hW4 := hid (hW.out.trans hb4)
        clear hb4 hW hF
        go_wp2_with fail
        go_ret2
        exact ⟨rfl, hW4.out⟩
  · have e : (tap2 l).1 = ByteArray.empty := by
      unfold tap2 at hc ⊢
      split
      · rfl
      · rename_i h1
        rw [if_neg h1] at hc
        split
        · rename_i h2
          rw [if_pos h2] at hc
          exact absurd rfl hc
        · rfl
    rw [e]
    clear e
    have hcb : ((tap2 l).2 == 0) = false := by simpa using hc
    generalize (tap2 l).2 = c at *
    replace h := hid h
    go_enter Tryd.func7, Tryd.ntmps7
    go_wp2_with fail
    refine (hA.out _ h.out).mono ?_
    rintro e w1 ⟨rfl, hb⟩
    replace hb := hid hb
    go_wp2_with fail
    go_ret2
    exact ⟨rfl, hb.out⟩
end Go.Proofs.YtakdhmlegickmaaDoor
