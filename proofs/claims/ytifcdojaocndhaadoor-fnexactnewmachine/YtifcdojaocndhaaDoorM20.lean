/- A byte out of its bits, and the length of a tape: the specification and the program. -/
import Derived.Test.YtifcdojaocndhaaDoorM13
import Derived.Test.YtifcdojaocndhaaDoorM02
import Derived.Test.YtifcdojaocndhaaDoorM15
import Derived.OwnWalk
import Derived.Deep.AppendLies
import Derived.Deep.DeepCutAuto
namespace Go.Proofs.YtifcdojaocndhaaDoor
open Go.ChangeShapes Go.WideShapes Go.ChangeAt Go.RowKit
set_option linter.unusedVariables false
set_option linter.unusedSimpArgs false

theorem RowR.at {w : World} {a : Option Addr} {cap : Nat} {P : List Int} (h : RowR w (.slice a P.length cap) P) {k : Nat} (hk : k < P.length) : ∃ b off, a = some ⟨b, off, none⟩ ∧ w.cell? ⟨b, off + k, none⟩ = some (.int .i64 (P.getD k 0)) := by
  obtain ⟨a', cap', e, h⟩ := h
  cases e
  rcases h with rfl | ⟨b, off, rfl, h⟩
  · exact absurd hk (by simp)
  · exact ⟨b, off, rfl, h k hk⟩
theorem withinV_impl (n a b : Int) (w : World) : Calls Tryd.prog 114 #[.int .i64 n, .int .i64 a, .int .i64 b] w fun e w' => e = .returned (.bool (inB n a b)) ∧ w' = w := by
  go_enter Tryd.func114, Tryd.ntmps114
  go_wp2
  all_goals go_ret
  all_goals exact ⟨ret_bool (by rw [Bool.eq_iff_iff]; simp [inB]; try omega), rfl⟩
end Go.Proofs.YtifcdojaocndhaaDoor

/- The bits of a text and the pulses of a block: the specification. -/
namespace Go.Proofs.YtifcdojaocndhaaDoor
open Go.ChangeShapes Go.WideShapes Go.ChangeAt Go.RowKit
set_option linter.unusedVariables false
set_option linter.unusedSimpArgs false

theorem infoIV : (Tryd.prog.info? 3).map (fun i => (i.zero, i.size, i.bytes)) = some (some (.int .i64 0), 1, 8) := by kernel_rfl
/-- a row of numbers that grows -/
structure Grow (w W : World) (v : Value) (l : List Int) : Prop where
  own : W.ownsRow w.heap.size 3 1 v l.length (l.map (Value.int .i64))
  bel : Below w.heap.size w W
theorem Grow.below {w W W' : World} {v : Value} {l : List Int} (h : Grow w W v l) (hb : Below W.heap.size W W') : Grow w W' v l := ⟨own_belowU h.own hb, h.bel.trans (hb.mono h.bel.size)⟩
theorem Grow.form {w W : World} {v : Value} {l : List Int} (h : Grow w W v l) : ∃ oa cap, v = .slice oa l.length cap := by
  obtain ⟨_, ⟨h1, h0⟩ | ⟨g, cap, _, h1, _⟩⟩ := h.own
  · exact ⟨none, 0, by rw [h1, h0]⟩
  · exact ⟨_, _, h1⟩
theorem Grow.app {w W W' : World} {v v' : Value} {l : List Int} {o : Obj} (h : Grow w W v l) (xs : List Int) (ho : W'.ownsRow w.heap.size 3 1 v' (l.length + xs.length) (l.map (Value.int .i64) ++ xs.map (Value.int .i64))) (hg : (W.alloc o).grownBy W' v.ownBlock) : Grow w W' v' (l ++ xs) := by
  have hsz := h.bel.size
  refine ⟨by rw [List.length_append, List.map_append]; exact ho, ?_⟩
  exact (h.bel.alloc (by omega) _).grown hg (by simp; omega) (fun g hg => (h.own.lt g hg).1)
theorem Grow.nil (w : World) : Grow w (w.alloc (.cells #[] 3)) (.slice (some ⟨w.heap.size, 0, none⟩) 0 0) [] := ⟨World.ownsRow_lit w #[] 0 (Nat.le_refl _) (by decide) rfl, (Below.refl _ _).alloc (Nat.le_refl _) _⟩
set_option maxRecDepth 100000 in
set_option maxHeartbeats 2000000 in
theorem bits_spec (t : ByteArray) (w : World) (ht : t.size ≤ 400) : Calls Tryd.prog 179 #[.string t] w fun e w' => ∃ v, e = .returned v ∧ Grow w w' v (bitL t (8 * t.size)) := by
  obtain ⟨i0, hi0, hz0, hz1, hz2⟩ := info_parts infoIV
  have hG0 := hid (Grow.nil w)
  have hlen := hid (bitL_len t)
  have hsn := hid (bitL_snoc t)
  have h0 : Hid (bitL t 0 = []) := rfl
  generalize hB : bitL t = B at *
  clear hB
  go_enter Tryd.func179, Tryd.ntmps179
  go_upto_region 2 with fail
  obtain ⟨W1, hW1⟩ : ∃ W1, w.alloc (.cells #[] 3) = W1 := ⟨_, rfl⟩
  rw [hW1] at hG0 ⊢
  clear hW1
  go_wp2
  go_loopw [3, 4] (fun v i wr => ∃ k : Nat, k ≤ t.size ∧ i = .int .i64 k ∧ Grow w wr v (B (8 * k))) (fun _ i _ => t.size - (intOf i).toNat)
  case atStart => exact ⟨0, by omega, rfl, by rw [Nat.mul_zero, h0.out]; exact hG0.out⟩
  case round =>
    obtain ⟨k, hk, rfl, hG⟩ := hrel
    clear hG0
    by_cases hlt : k < t.size
    · replace hG := hid hG
      go_wp2
      go_loopw [3, 5] (fun v j wr => ∃ m : Nat, m ≤ 8 ∧ j = .int .i64 (7 - (m : Int)) ∧ Grow w wr v (B (8 * k + m))) (fun _ j _ => ((intOf j) + 1).toNat)
      case atStart => exact ⟨0, by omega, rfl, hG.out⟩
      case round =>
        obtain ⟨m, hm, rfl, hG1⟩ := hrel
        clear hG
        by_cases hlt2 : m < 8
        · obtain ⟨q, hq, hq8⟩ : ∃ q : Nat, (7 : Int) - m = (q : Int) ∧ m = 7 - q ∧ q < 8 := ⟨7 - m, by omega, by omega, by omega⟩
          have hbw := bit_walk t k q hq8.2
          have hx := run_idx t k k rfl hlt
          have hby := byt_bd t k
          have hsn2 := hid (hsn.out (8 * k + m))
          have hE : bitN t (8 * k + m) = bitN t (8 * k + (7 - q)) := by rw [hq8.1]
          rw [hE] at hsn2
          generalize bitN t (8 * k + (7 - q)) = X at *
          clear hE
          obtain ⟨n, hn⟩ : ∃ n, 8 * k + m = n := ⟨_, rfl⟩
          rw [hn] at hG1 hsn2
          have hn4 : n ≤ 3200 := by omega
          have hnn : 8 * k + (m + 1) = n + 1 := by omega
          have hL := hlen.out n
          obtain ⟨A, hA⟩ : ∃ A, B n = A := ⟨_, rfl⟩
          rw [hA] at hG1 hL hsn2
          obtain ⟨oa, cap, rfl⟩ := hG1.form
          have happ : Hid (∀ (v' : Value) (w1 : World), w1.ownsRow w.heap.size 3 1 v' (n + 1) (A.map (Value.int .i64) ++ [.int .i64 (X : Int)]) → (wr.alloc (.cells #[.int .i64 (X : Int)] 3)).grownBy w1 (Value.slice oa A.length cap).ownBlock → Grow w w1 v' (B (8 * k + (m + 1)))) := fun v' w1 ho hg => by
            rw [hnn, hsn2.out]
            exact hG1.app [(X : Int)] (by rw [hL]; exact ho) hg
          have own1 := hid hG1.own
          have hba := hG1.bel.size
          rw [hL] at own1 happ ⊢
          clear hG1 hA hsn2 hn hnn
          rw [hq]
          have hq7 : (7 : Int) - ((m + 1 : Nat) : Int) = (q : Int) - 1 := by omega
          go_wp2_with (at_builtin; refine wpList_append_lies _ rfl _ _ 27 rfl w.heap.size 3 i0 _ 1 8 Tryd.underlying27 hi0 hz0 hz1 hz2 rfl (by omega) _ n (A.map (Value.int .i64)) rfl (own1.out.alloc _) ⟨_, 0, none⟩ 1 1 [.int .i64 (X : Int)] rfl rfl (World.news_of_block (cs := #[.int .i64 (X : Int)]) (t := 3) (fr := (0, 0)) (heap_alloc_new _ _)) (by simp [Value.oneCell']) (by omega) (by unfold maxLen; omega) (by omega) (by simp; omega) _ rfl ?_; intro gg cap2 w1 ho hg hat hlt3; have hG2 := hid (happ.out _ _ ho hg); clear ho hg hat hlt3 happ own1)
          go_roundw
          case rel => exact ⟨m + 1, by omega, by rw [hq7], hG2.out⟩
          case measure => simp [intOf] <;> omega
        · obtain rfl : m = 8 := by omega
          have hG2 := hid hG1
          clear hG1
          go_wp2
          go_roundw
          case rel => exact ⟨k + 1, by omega, by go_num, by rw [Nat.mul_add]; exact hG2.out⟩
          case measure => simp [intOf]; omega
    · obtain rfl : k = t.size := by omega
      replace hG := hid hG
      go_wp2
      go_ret
      exact ⟨_, rfl, hG.out⟩
set_option maxRecDepth 100000 in
set_option maxHeartbeats 4000000 in
theorem pulses_spec (F : Int) (D : ByteArray) (w : World) (hok : okB F D = true) : Calls Tryd.prog 175 #[bkV F D] w fun e w' => ∃ v, e = .returned v ∧ Grow w w' v (plsB F D) := by
  obtain ⟨i0, hi0, hz0, hz1, hz2⟩ := info_parts infoIV
  obtain ⟨⟨hF0, hF1⟩, hD⟩ := (okB_iff F D).1 hok
  have hpn : Hid ((8 : Int) * (1 + (btN (decide (F < 128)) : Nat)) = (pilN F : Nat) ∧ pilN F ≤ 16) := by
    refine ⟨?_, pilN_le F⟩
    unfold pilN
    by_cases h : F < 128
    · rw [if_pos h, decide_eq_true h]; rfl
    · rw [if_neg h, decide_eq_false h]; rfl
  have hC := hid (fun W => bkbytes_spec F D W hok)
  have hCs := bytB_size F D
  have hBits := hid (fun W => bits_spec (bytB F D) W (by omega))
  have hbL := hid (bitL_len (bytB F D) (8 * (bytB F D).size))
  have hb01 : Hid (∀ j, j < 8 * (bytB F D).size → ∃ b : Nat, (bitL (bytB F D) (8 * (bytB F D).size)).getD j 0 = (b : Int) ∧ b < 2) := fun j hj => ⟨_, bitL_at _ _ j hj, bitN_lt _ _⟩
  have hpls : Hid (plsB F D = List.replicate (pilN F) 48 ++ [12, 14] ++ dbl ((bitL (bytB F D) (8 * (bytB F D).size)).take (8 * (bytB F D).size))) := by
    unfold plsB headL
    rw [List.take_of_length_le (by rw [bitL_len]; exact Nat.le_refl _)]
    exact rfl
  rw [hpls.out]
  clear hpls
  generalize hBL : bitL (bytB F D) (8 * (bytB F D).size) = BL at *
  clear hBL
  obtain ⟨NN, hNN⟩ : ∃ N, 8 * (bytB F D).size = N := ⟨_, rfl⟩
  have hN4 : NN ≤ 336 := by omega
  have hN0 : 0 < NN := by omega
  rw [hNN] at hbL hb01 ⊢
  clear hNN
  generalize bytB F D = X at *
  generalize pilN F = PN at *
  obtain ⟨A0, hA0⟩ : ∃ A0, List.replicate PN (48 : Int) ++ [12, 14] = A0 := ⟨_, rfl⟩
  rw [hA0]
  replace hA0 := hid hA0
  have hq0 := Blk.new w (bkA F D) 75
  have hB0 := (Below.refl w.heap.size w).alloc (Nat.le_refl _) (.cells (bkA F D) 75)
  have hG0 : Grow w ((w.alloc (.cells (bkA F D) 75)).alloc (.cells #[] 3)) (.slice (some ⟨w.heap.size + 1, 0, none⟩) 0 0) [] := by
    refine ⟨?_, hB0.alloc hB0.size _⟩
    have := World.ownsRow_lit (e := 3) (size := 1) (base := w.heap.size) (w.alloc (.cells (bkA F D) 75)) #[] 0 hB0.size (by decide) rfl
    rw [World.size_alloc] at this
    exact this
  have hq1 : Blk ((w.alloc (.cells (bkA F D) 75)).alloc (.cells #[] 3)) w.heap.size (bkA F D) := hq0.alloc _
  replace hG0 := hid hG0
  replace hq1 := hid hq1
  clear hq0 hB0
  go_enter Tryd.func175, Tryd.ntmps175
  go_upto_region 2 with fail
  obtain ⟨W1, hW1⟩ : ∃ W1, (w.alloc (.cells (bkA F D) 75)).alloc (.cells #[] 3) = W1 := ⟨_, rfl⟩
  rw [hW1] at hG0 hq1 ⊢
  clear hW1
  have x0 := hq1.out.cell
  have l0 := hq1.out.lt
  go_wp2_with fail
  refine (bit_spec _ _).mono ?_
  rintro e w' ⟨rfl, hww⟩
  obtain rfl := hww.symm
  have hp2 := hpn.out.2
  obtain ⟨bb, hbb⟩ : ∃ bb : Nat, btN (decide (F < 128)) = bb := ⟨_, rfl⟩
  rw [hbb] at hpn ⊢
  have hb2 : bb ≤ 1 := by have := hpn.out.1; omega
  clear hbb
  go_upto_region 3 with fail
  rw [hpn.out.1]
  clear hpn x0 l0
  go_loopw [3, 4] (fun v i wr => ∃ k : Nat, k ≤ PN ∧ i = .int .i64 ((PN : Int) - k) ∧ Grow w wr v (List.replicate k 48) ∧ Blk wr w.heap.size (bkA F D) ∧ v.ownBlock ≠ some w.heap.size) (fun _ i _ => (intOf i).toNat)
  case atStart => exact ⟨0, by omega, by simp, hG0.out, hq1.out, by simp [Value.ownBlock]⟩
  case round =>
    obtain ⟨k, hk, rfl, hG1, hq2, hne⟩ := hrel
    clear hG0 hq1
    by_cases hlt : k < PN
    · have hL : (List.replicate k (48 : Int)).length = k := List.length_replicate
      have hE := hid (List.replicate_succ' (n := k) (a := (48 : Int)))
      generalize List.replicate k (48 : Int) = A at *
      obtain ⟨oa, cap, rfl⟩ := hG1.form
      have happ : Hid (∀ (v' : Value) (w1 : World), w1.ownsRow w.heap.size 3 1 v' (k + 1) (A.map (Value.int .i64) ++ [.int .i64 48]) → (wr.alloc (.cells #[.int .i64 48] 3)).grownBy w1 (Value.slice oa A.length cap).ownBlock → Grow w w1 v' (A ++ [48])) := fun v' w1 ho hg => hG1.app [48] (by rw [hL]; exact ho) hg
      have own1 := hid hG1.own
      have hba := hG1.bel.size
      rw [hL] at own1 happ ⊢
      have hq3 : Hid (∀ (w1 : World), (wr.alloc (.cells #[.int .i64 48] 3)).grownBy w1 (Value.slice oa k cap).ownBlock → Blk w1 w.heap.size (bkA F D)) := fun w1 hg => (hq2.alloc _).grown hg (fun e => hne (by rw [hL]; exact e.symm))
      have hlw := hq2.lt
      have hnx : Hid (∀ g, ((Value.slice oa k cap).ownBlock = some g ∨ g = (wr.alloc (.cells #[.int .i64 48] 3)).heap.size) → g ≠ w.heap.size) := fun g hg e => by
        rcases hg with h | h
        · exact hne (by rw [hL, h, e])
        · rw [World.size_alloc] at h
          omega
      clear hG1 hq2 hne
      have hc : decide ((0 : Int) < (PN : Int) - k) = true := decide_eq_true (by omega)
      go_wp2_with (at_builtin; refine wpList_append_lies _ rfl _ _ 27 rfl w.heap.size 3 i0 _ 1 8 Tryd.underlying27 hi0 hz0 hz1 hz2 rfl (by omega) _ k (A.map (Value.int .i64)) rfl (own1.out.alloc _) ⟨_, 0, none⟩ 1 1 [.int .i64 48] rfl rfl (World.news_of_block (cs := #[.int .i64 48]) (t := 3) (fr := (0, 0)) (heap_alloc_new _ _)) (by simp [Value.oneCell']) (by omega) (by unfold maxLen; omega) (by omega) (by simp; omega) _ rfl ?_; intro gg cap2 w1 ho hg hat hlt3; have hG2 := hid (happ.out _ _ ho hg); have hq4 := hid (hq3.out _ hg); have hn4 := hid (hnx.out _ hat); clear ho hg hat hlt3 happ own1 hq3 hnx)
      have hE2 : (PN : Int) - k - 1 = (PN : Int) - ((k + 1 : Nat) : Int) := by omega
      go_roundw
      case rel => exact ⟨k + 1, by omega, by rw [hE2], by rw [hE.out]; exact hG2.out, hq4.out, fun e => hn4.out (by simpa [Value.ownBlock] using e)⟩
      case measure => simp [intOf] <;> omega
    · obtain rfl : k = PN := by omega
      have hL : (List.replicate k (48 : Int)).length = k := List.length_replicate
      have hAH := hA0.out
      clear hA0
      generalize List.replicate k (48 : Int) = A at *
      replace hAH := hid hAH
      obtain ⟨oa, cap, rfl⟩ := hG1.form
      have happ : Hid (∀ (v' : Value) (w1 : World), w1.ownsRow w.heap.size 3 1 v' (k + 2) (A.map (Value.int .i64) ++ [.int .i64 12, .int .i64 14]) → (wr.alloc (.cells #[.int .i64 12, .int .i64 14] 3)).grownBy w1 (Value.slice oa A.length cap).ownBlock → Grow w w1 v' (A ++ [12, 14])) := fun v' w1 ho hg => hG1.app [12, 14] (by rw [hL]; exact ho) hg
      have own1 := hid hG1.own
      have hba := hG1.bel.size
      rw [hL] at own1 happ ⊢
      have hq3 : Hid (∀ (w1 : World), (wr.alloc (.cells #[.int .i64 12, .int .i64 14] 3)).grownBy w1 (Value.slice oa k cap).ownBlock → Blk w1 w.heap.size (bkA F D)) := fun w1 hg => (hq2.alloc _).grown hg (fun e => hne (by rw [hL]; exact e.symm))
      have hlw := hq2.lt
      clear hG1 hq2 hne
      have hc : decide ((0 : Int) < (k : Int) - k) = false := decide_eq_false (by omega)
      have hLA : (A ++ [12, 14]).length = k + 2 := by rw [List.length_append, hL]; rfl
      go_upto_region 7 with (at_builtin; refine wpList_append_lies _ rfl _ _ 27 rfl w.heap.size 3 i0 _ 1 8 Tryd.underlying27 hi0 hz0 hz1 hz2 rfl (by omega) _ k (A.map (Value.int .i64)) rfl (own1.out.alloc _) ⟨_, 0, none⟩ 2 2 [.int .i64 12, .int .i64 14] rfl rfl (World.news_of_block (cs := #[.int .i64 12, .int .i64 14]) (t := 3) (fr := (0, 0)) (heap_alloc_new _ _)) (by simp [Value.oneCell']) (by omega) (by unfold maxLen; omega) (by omega) (by simp; omega) _ rfl ?_; intro gg cap2 w1 ho hg hat hlt3; have hG2 := hid (happ.out _ _ ho hg); have hq4 := hid (hq3.out _ hg); clear ho hg hat hlt3 happ own1 hq3)
      have x4 := hq4.out.cell
      rw [hAH.out] at hG2 hLA
      go_wp2_with fail
      refine (hC.out _).mono ?_
      rintro e w2 ⟨rfl, hb2⟩
      have hG3 := hid (hG2.out.below hb2)
      clear hG2 hb2 x4 hq4 hC
      go_wp2_with fail
      refine (hBits.out _).mono ?_
      rintro e w3 ⟨v5, rfl, hG5⟩
      have hG4 := hid (hG3.out.below hG5.bel)
      obtain ⟨g5, hg5, hR5⟩ := RowO.of_owns (hG5.own) (by rw [hbL.out]; omega)
      have hn5 : Hid ((Value.slice (some ⟨gg, 0, none⟩) (k + 2) cap2).ownBlock ≠ some g5) := fun e => by have := (hG3.out.own.lt g5 e).2; omega
      replace hR5 := hid hR5
      obtain ⟨c5, rfl⟩ : ∃ c5, v5 = .slice (some ⟨g5, 0, none⟩) NN c5 := by
        obtain ⟨cap, c, t, h1, _⟩ := hR5.out
        exact ⟨cap, by rw [h1, hbL.out]⟩
      have hw3 : w.heap.size ≤ w3.heap.size := hG4.out.bel.size
      clear hG3 hG5 hg5 hBits
      go_upto_region 9 with fail
      go_loopw [3, 6] (fun v i wr => ∃ m : Nat, m ≤ NN ∧ i = .int .i64 m ∧ Grow w wr v (A0 ++ dbl (BL.take m)) ∧ RowO wr g5 (.slice (some ⟨g5, 0, none⟩) NN c5) BL ∧ v.ownBlock ≠ some g5) (fun _ i _ => NN - (intOf i).toNat)
      case atStart => exact ⟨0, by omega, rfl, by rw [List.take_zero]; show Grow w w3 _ (A0 ++ []); rw [List.append_nil]; exact hG4.out, hR5.out, hn5.out⟩
      case round =>
        obtain ⟨m, hm, rfl, hG1, hR1, hne⟩ := hrel
        clear hG4 hR5 hn5
        by_cases hlt2 : m < NN
        · obtain ⟨b, hb, hb1⟩ := hb01.out m hlt2
          have hcl := hR1.cell m (by rw [hbL.out]; exact hlt2)
          rw [hb] at hcl
          have hE : A0 ++ dbl (BL.take (m + 1)) = (A0 ++ dbl (BL.take m)) ++ [pulB b, pulB b] := by
            rw [List.take_succ_eq_append_getElem (by rw [hbL.out]; exact hlt2), dbl_snoc, List.append_assoc]
            have : BL[m]'(by rw [hbL.out]; exact hlt2) = (b : Int) := by
              rw [← hb, List.getD_eq_getElem?_getD, List.getElem?_eq_getElem (by rw [hbL.out]; exact hlt2)]
              rfl
            rw [this]
          have hL2 : (A0 ++ dbl (BL.take m)).length = k + 2 + 2 * m := by
            rw [List.length_append, hLA, dbl_len, List.length_take, hbL.out]
            omega
          have hpb : pulB b = 20 + 20 * (b : Int) := rfl
          obtain ⟨n, hn⟩ : ∃ n, k + 2 + 2 * m = n := ⟨_, rfl⟩
          rw [hn] at hL2
          have hn9 : n ≤ 1000 := by omega
          replace hE := hid hE
          generalize A0 ++ dbl (BL.take m) = A1 at *
          generalize pulB b = pb at *
          obtain ⟨oa3, cap3, rfl⟩ := hG1.form
          have happ : Hid (∀ (v' : Value) (w1 : World), w1.ownsRow w.heap.size 3 1 v' (n + 2) (A1.map (Value.int .i64) ++ [.int .i64 pb, .int .i64 pb]) → (wr.alloc (.cells #[.int .i64 pb, .int .i64 pb] 3)).grownBy w1 (Value.slice oa3 A1.length cap3).ownBlock → Grow w w1 v' (A1 ++ [pb, pb])) := fun v' w1 ho hg => hG1.app [pb, pb] (by rw [hL2]; exact ho) hg
          have own1 := hid hG1.own
          have hba := hG1.bel.size
          rw [hL2] at own1 happ ⊢
          have hq3 : Hid (∀ (w1 : World), (wr.alloc (.cells #[.int .i64 pb, .int .i64 pb] 3)).grownBy w1 (Value.slice oa3 n cap3).ownBlock → RowO w1 g5 (.slice (some ⟨g5, 0, none⟩) NN c5) BL) := fun w1 hg => hR1.kept ((hg.block g5 (by rw [World.size_alloc]; have := hR1.lt; omega) (fun e => hne (by rw [hL2]; exact e.symm))).trans (Below.heap_alloc _ _ _ hR1.lt))
          have hlw := hR1.lt
          have hnx : Hid (∀ g, ((Value.slice oa3 n cap3).ownBlock = some g ∨ g = (wr.alloc (.cells #[.int .i64 pb, .int .i64 pb] 3)).heap.size) → g ≠ g5) := fun g hg e => by
            rcases hg with h | h
            · exact hne (by rw [hL2, h, e])
            · rw [World.size_alloc] at h
              omega
          clear hG1 hR1 hne hb
          subst hpb
          go_wp2_with (at_builtin; refine wpList_append_lies _ rfl _ _ 27 rfl w.heap.size 3 i0 _ 1 8 Tryd.underlying27 hi0 hz0 hz1 hz2 rfl (by omega) _ n (A1.map (Value.int .i64)) rfl (own1.out.alloc _) ⟨_, 0, none⟩ 2 2 [.int .i64 (20 + 20 * (b : Int)), .int .i64 (20 + 20 * (b : Int))] rfl rfl (World.news_of_block (cs := #[.int .i64 (20 + 20 * (b : Int)), .int .i64 (20 + 20 * (b : Int))]) (t := 3) (fr := (0, 0)) (heap_alloc_new _ _)) (by simp [Value.oneCell']) (by omega) (by unfold maxLen; omega) (by omega) (by simp; omega) _ rfl ?_; intro g6 cap6 w1 ho hg hat hlt3; have hG2 := hid (happ.out _ _ ho hg); have hq4 := hid (hq3.out _ hg); have hn4 := hid (hnx.out _ hat); clear ho hg hat hlt3 happ own1 hq3 hnx)
          go_roundw
          case rel => exact ⟨m + 1, by omega, by go_num, by rw [hE.out]; exact hG2.out, hq4.out, fun e => hn4.out (by simpa [Value.ownBlock] using e)⟩
          case measure => simp [intOf] <;> omega
        · obtain rfl : m = NN := by omega
          replace hG1 := hid hG1
          clear hR1
          go_wp2
          go_ret
          exact ⟨_, rfl, hG1.out⟩
end Go.Proofs.YtifcdojaocndhaaDoor
