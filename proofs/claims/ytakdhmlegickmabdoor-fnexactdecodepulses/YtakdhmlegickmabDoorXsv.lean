/- Blocks that are heard: the specification. -/
import Derived.Test.YtakdhmlegickmabDoorVuv
import Derived.Test.YtakdhmlegickmabDoorV23
import Derived.OwnWalk
import Derived.Deep.AppendLies
import Derived.Deep.DeepCutAuto
import Derived.BigQuiet
namespace Go.Proofs.YtakdhmlegickmabDoor
open Go.ChangeShapes Go.WideShapes Go.ChangeAt Go.RowKit
set_option linter.unusedVariables false
set_option linter.unusedSimpArgs false

theorem hbB_at (P : List Int) (a N : Nat) (hN : pilC (P.drop a) = N) (ha : a ≤ P.length) : hbB (P.drop a) = if N < 8 then ((bkz, []), 15) else if (P.length < a + N + 2 ∨ 18 ≤ P.getD (a + N) 0 ∨ 18 ≤ P.getD (a + N + 1) 0) then ((bkz, []), 16) else if (hear (P.drop (a + N + 2)) 0 0 []).2.1 ≠ 0 then ((bkz, []), 17) else (((ofB (strOfNums (hear (P.drop (a + N + 2)) 0 0 []).1)).1, (hear (P.drop (a + N + 2)) 0 0 []).2.2), (ofB (strOfNums (hear (P.drop (a + N + 2)) 0 0 []).1)).2) := by
  unfold hbB
  rw [hN, List.length_drop, drop_getDW, drop_getDW, List.drop_drop]
  have e1 : a + (N + 2) = a + N + 2 := by omega
  have e2 : a + (N + 1) = a + N + 1 := by omega
  rw [e1, e2]
  have key : (P.length - a < N + 2 ∨ 18 ≤ P.getD (a + N) 0 ∨ 18 ≤ P.getD (a + N + 1) 0) ↔ (P.length < a + N + 2 ∨ 18 ≤ P.getD (a + N) 0 ∨ 18 ≤ P.getD (a + N + 1) 0) := by omega
  simp only [key]
theorem btN_hbit (x y : Int) : btN (decide (60 < x + y)) = hbit x y := by
  unfold hbit
  by_cases h : 60 < x + y
  · rw [decide_eq_true h, if_pos h]; rfl
  · rw [decide_eq_false h, if_neg h]; rfl
/-- while blocks are heard -/
structure Hs (w W : World) (v : Value) (acc : List (Int × ByteArray)) : Prop where
  own : W.ownsRow w.heap.size 28 2 v acc.length (bkL acc)
  bel : Below w.heap.size w W
theorem Hs.below {w W W' : World} {v : Value} {acc : List (Int × ByteArray)} (h : Hs w W v acc) (hb : Below W.heap.size W W') : Hs w W' v acc := ⟨own_belowU h.own hb, h.bel.trans (hb.mono h.bel.size)⟩
theorem Hs.form {w W : World} {v : Value} {acc : List (Int × ByteArray)} (h : Hs w W v acc) : ∃ oa cap, v = .slice oa acc.length cap := by
  obtain ⟨_, ⟨h1, h0⟩ | ⟨g, cap, _, h1, _⟩⟩ := h.own
  · exact ⟨none, 0, by rw [h1, h0]⟩
  · exact ⟨_, _, h1⟩
theorem Hs.nil {w W : World} (h : Below w.heap.size w W) : Hs w (W.alloc (.cells #[] 28)) (.slice (some ⟨W.heap.size, 0, none⟩) 0 0) [] :=
  ⟨World.ownsRow_made (e := 28) (size := 2) (base := w.heap.size) W #[] 0 h.size (by unfold maxLen; omega) rfl, h.alloc h.size _⟩
set_option maxRecDepth 100000 in
set_option maxHeartbeats 8000000 in
theorem hear_spec (a : Option Addr) (cap : Nat) (P : List Int) (w : World) (h : RowR w (.slice a P.length cap) P) (hl : P.length ≤ 4096) (hok : allP P = true) :
    Calls Tryd.prog 33 #[.slice a P.length cap] w fun e w' => ∃ v, e = .returned (.tuple #[v, .int .i64 (decL (P.length + 1) P []).2]) ∧ Hs w w' v (decL (P.length + 1) P []).1 := by
  obtain ⟨i0, hi0, hz0, hz1, hz2⟩ := info_parts infoBk
  obtain ⟨j0, hj0, hy0, hy1, hy2⟩ := info_parts infoU8
  obtain ⟨Z, hZ⟩ : ∃ Z, decL (P.length + 1) P [] = Z := ⟨_, rfl⟩
  rw [hZ]
  replace hZ := hid hZ
  replace h := hid h
  have hrg : Hid (∀ k, k < P.length → 1 ≤ P.getD k 0 ∧ P.getD k 0 ≤ 1000) := fun k hk => all_at hok hk
  clear hok
  have hS0 := hid (Hs.nil (w := w) (W := w) (Below.refl _ _))
  have hcell : Hid (∀ W, Below w.heap.size w W → ∀ k, k < P.length → ∃ b off, a = some ⟨b, off, none⟩ ∧ W.cell? ⟨b, off + k, none⟩ = some (.int .i64 (P.getD k 0))) := fun W hb k hk => (h.out.below hb).at hk
  clear h
  go_enter Tryd.func33, Tryd.ntmps33
  go_upto_region 2 with fail
  obtain ⟨V, hV⟩ : ∃ V, w.alloc (.cells #[] 28) = V := ⟨_, rfl⟩
  rw [hV] at hS0 ⊢
  clear hV
  go_wp2
  go_loopw [4, 5] (fun o i wr => ∃ (f k : Nat) (acc : List (Int × ByteArray)), i = .int .i64 k ∧ k ≤ P.length + 1 ∧ Hs w wr o acc ∧ decL f (P.drop k) acc = Z ∧ P.length - k < f ∧ acc.length ≤ 6) (fun _ i _ => P.length + 1 - (intOf i).toNat)
  case atStart => exact ⟨P.length + 1, 0, [], rfl, by omega, hS0.out, by rw [List.drop_zero]; exact hZ.out, by omega, by simp⟩
  case round =>
    obtain ⟨f, k, acc, rfl, hk, hS, hZ2, hf, hacc⟩ := hrel
    clear hS0 hZ
    obtain ⟨oa, ocap, rfl⟩ := hS.form
    by_cases hlt : k < P.length
    · obtain ⟨f, rfl⟩ : ∃ f', f = f' + 1 := ⟨f - 1, by omega⟩
      have hdl : 0 < (P.drop k).length := by rw [List.length_drop]; omega
      have hE9 : decL (f + 1) (P.drop k) acc = if 0 < (P.drop k).length then (if (hbB (P.drop k)).2 ≠ 0 then ([], (hbB (P.drop k)).2) else if acc.length = 6 then ([], 6) else decL f ((hbB (P.drop k)).1.2.drop 1) (acc ++ [(hbB (P.drop k)).1.1])) else (acc, 0) := rfl
      rw [if_pos hdl, hZ2] at hE9
      clear hZ2 hdl
      obtain ⟨N, hN⟩ : ∃ N, pilC (P.drop k) = N := ⟨_, rfl⟩
      have hXc := hbB_at P k N hN (by omega)
      obtain ⟨X9, hX9⟩ : ∃ X, hbB (P.drop k) = X := ⟨_, rfl⟩
      rw [hX9] at hE9 hXc
      clear hX9
      replace hXc := hid hXc
      have hin : Hid (∀ j, j < N → k + j < P.length ∧ 42 < P.getD (k + j) 0 ∧ P.getD (k + j) 0 < 200) := fun j hj => by
        have := pilC_inW (P.drop k) j (by rw [hN]; exact hj)
        rw [List.length_drop, drop_getDW] at this
        exact ⟨by omega, this.2⟩
      have hat : Hid (k + N < P.length → ¬ (42 < P.getD (k + N) 0 ∧ P.getD (k + N) 0 < 200)) := fun hl => by
        have := pilC_atW (P.drop k) (by rw [hN, List.length_drop]; omega)
        rw [hN, drop_getDW] at this
        exact this
      have hNle : k + N ≤ P.length := by
        have := pilC_le (P.drop k)
        rw [hN, List.length_drop] at this
        omega
      replace hE9 := hid hE9
      clear hN
      have hSW := hid hS
      have hbW := hid hS.bel
      clear hS
      go_wp2
      go_loop [5, 6] (fun i n => ∃ j : Nat, j ≤ N ∧ i = .int .i64 ((k + j : Nat) : Int) ∧ n = .int .i64 j) (fun i _ => k + N - (intOf i).toNat)
      case atStart => exact ⟨0, by omega, rfl, rfl⟩
      case round =>
        obtain ⟨j, hj, rfl, rfl⟩ := hrel
        by_cases hjN : j < N
        · obtain ⟨h1, h2, h3⟩ := hin.out j hjN
          obtain ⟨b, off, rfl, x1⟩ := hcell.out _ hbW.out _ h1
          obtain ⟨q, hq⟩ : ∃ q, k + j = q := ⟨_, rfl⟩
          have hq1 : k + (j + 1) = q + 1 := by omega
          rw [hq] at h1 h2 h3 x1 ⊢
          generalize P.getD q 0 = X at *
          clear hin hat
          go_wp2
          go_round
          case rel => exact ⟨j + 1, by omega, by rw [hq1]; go_num, by go_num⟩
          case measure => simp [intOf] <;> omega
        · obtain rfl : j = N := by omega
          have hend : Hid (k + j < P.length → ∃ b off, a = some ⟨b, off, none⟩ ∧ wr.cell? ⟨b, off + (k + j), none⟩ = some (.int .i64 (P.getD (k + j) 0))) := fun hh => hcell.out _ hbW.out _ hh
          obtain ⟨q, hq⟩ : ∃ q, k + j = q := ⟨_, rfl⟩
          rw [hq] at hend hat hXc hNle ⊢
          have hqk : k ≤ q := by omega
          have hjq : j = q - k := by omega
          clear hin
          by_cases h8 : j < 8
          · have h8b : decide ((j : Int) < 8) = true := decide_eq_true (by omega)
            have eX := hXc.out
            rw [if_pos h8] at eX
            subst eX
            have eZ2 : Z = ([], 15) := hE9.out.trans (if_pos (by decide))
            subst eZ2
            have hO := hid (Hs.nil (w := w) hbW.out)
            clear hE9 hSW hXc
            by_cases hql : q < P.length
            · obtain ⟨b, off, rfl, x1⟩ := hend.out hql
              have hx := hat.out hql
              generalize P.getD q 0 = X at *
              clear hend hat
              by_cases hx1 : 42 < X
              · have hx2 : ¬ X < 200 := fun h => hx ⟨hx1, h⟩
                go_wp2
                go_ret2
                exact ⟨_, rfl, hO.out⟩
              · go_wp2
                go_ret2
                exact ⟨_, rfl, hO.out⟩
            · clear hend hat
              go_wp2
              go_ret2
              exact ⟨_, rfl, hO.out⟩
          · have h8b : decide ((j : Int) < 8) = false := decide_eq_false (by omega)
            have hE8 := hXc.out
            rw [if_neg h8] at hE8
            replace hE8 := hid hE8
            clear hXc
            by_cases hql : q < P.length
            · obtain ⟨b, off, rfl, x1⟩ := hend.out hql
              have hx := hat.out hql
              have hqr := hrg.out q hql
              clear hend hat
              have hbr : Hid (∀ (R : Prop), (42 < P.getD q 0 → ¬ P.getD q 0 < 200 → R) → (¬ 42 < P.getD q 0 → R) → R) := fun R h1 h2 => by
                by_cases hx1 : 42 < P.getD q 0
                · exact h1 hx1 (fun h => hx ⟨hx1, h⟩)
                · exact h2 hx1
              by_cases hq1 : q + 1 < P.length
              · obtain ⟨_, _, ea, x2⟩ := hcell.out _ hbW.out (q + 1) hq1
                cases ea
                have hqr2 := hrg.out (q + 1) hq1
                by_cases hsy : 18 ≤ P.getD q 0 ∨ 18 ≤ P.getD (q + 1) 0
                · have eZ := hE8.out
                  rw [if_pos (by omega)] at eZ
                  subst eZ
                  have eZ2 : Z = ([], 16) := hE9.out.trans (if_pos (by decide))
                  subst eZ2
                  have hO := hid (Hs.nil (w := w) hbW.out)
                  clear hE8 hSW hbr hE9
                  generalize P.getD q 0 = X at *
                  generalize P.getD (q + 1) 0 = Y at *
                  by_cases hx1 : 42 < X
                  · have hx2 : ¬ X < 200 := fun h => hx ⟨hx1, h⟩
                    go_wp2
                    go_ret2
                    exact ⟨_, rfl, hO.out⟩
                  · by_cases hx3 : 18 ≤ X
                    · go_wp2
                      go_ret2
                      exact ⟨_, rfl, hO.out⟩
                    · have hy3 : 18 ≤ Y := by omega
                      go_wp2
                      go_ret2
                      exact ⟨_, rfl, hO.out⟩
                · have hE7 := hE8.out
                  rw [if_neg (by omega)] at hE7
                  replace hE7 := hid hE7
                  have hx1 : ¬ 42 < P.getD q 0 := by omega
                  have hx3 : ¬ 18 ≤ P.getD q 0 := by omega
                  have hy3 : ¬ 18 ≤ P.getD (q + 1) 0 := by omega
                  clear hE8 hbr hx hsy
                  generalize P.getD q 0 = X at *
                  generalize P.getD (q + 1) 0 = Y at *
                  have hbn := hid ((Below.refl wr.heap.size wr).alloc (Nat.le_refl _) (.cells #[] 5))
                  have hon := hid (World.ownsRow_made (e := 5) (size := 1) (base := wr.heap.size) wr #[] 0 (Nat.le_refl _) (by unfold maxLen; omega) rfl)
                  obtain ⟨H, hH⟩ : ∃ H, hear (P.drop (q + 2)) 0 0 [] = H := ⟨_, rfl⟩
                  rw [hH] at hE7
                  replace hH := hid hH
                  go_upto_region 14 with fail
                  obtain ⟨W0, rfl⟩ : ∃ W0, W0 = wr := ⟨_, rfl⟩
                  obtain ⟨W1, hW1⟩ : ∃ W1, W0.alloc (.cells #[] 5) = W1 := ⟨_, rfl⟩
                  rw [hW1] at hbn hon ⊢
                  clear hW1 x1 x2
                  go_wp2
                  go_loopw [5, 7, 8, 9] (fun i bv bi vv wx => ∃ (j n v : Nat) (ba : List Int), i = .int .i64 j ∧ bi = .int .i64 n ∧ vv = .int .i64 v ∧ hear (P.drop j) n v ba = H ∧ q + 2 ≤ j ∧ j ≤ P.length ∧ n < 8 ∧ v < 2 ^ n ∧ ba.length ≤ j ∧ wx.ownsRow W0.heap.size 5 1 bv ba.length (ba.map (Value.int .u8)) ∧ Below W0.heap.size W0 wx) (fun i _ _ _ _ => P.length - (intOf i).toNat)
                  case atStart => exact ⟨q + 2, 0, 0, [], by go_num, rfl, rfl, hH.out, by omega, by omega, by omega, by decide, by simp, hon.out, hbn.out⟩
                  case round =>
                    obtain ⟨j2, n, v, ba, rfl, rfl, rfl, hHr, hqj, hjl, hn8, hv, hbal, hown, hbel⟩ := hrel
                    clear hH hon hbn
                    have hbw := hbW.out.trans (hbel.mono hbW.out.size)
                    have hvp : 2 ^ n ≤ 128 := Nat.le_trans (Nat.pow_le_pow_right (by omega) (show n ≤ 7 by omega)) (by decide)
                    by_cases hp1 : j2 + 1 < P.length
                    · obtain ⟨_, _, ea, x1⟩ := hcell.out _ hbw j2 (by omega)
                      cases ea
                      obtain ⟨_, _, ea, x2⟩ := hcell.out _ hbw (j2 + 1) hp1
                      cases ea
                      by_cases hp2 : P.getD j2 0 < 200
                      · have k0 := hrg.out j2 (by omega)
                        have k1 := hrg.out (j2 + 1) hp1
                        have e3 : P.drop j2 = P.getD j2 0 :: P.getD (j2 + 1) 0 :: P.drop (j2 + 2) := by rw [drop_cons (by omega), drop_cons (a := j2 + 1) hp1]
                        rw [e3, hear_pair, if_pos hp2] at hHr
                        have hBt := hid (fun W => bit_spec (decide (60 < P.getD j2 0 + P.getD (j2 + 1) 0)) W)
                        rw [btN_hbit] at hBt
                        have hb1 : hbit (P.getD j2 0) (P.getD (j2 + 1) 0) ≤ 1 := by unfold hbit; split <;> omega
                        generalize hbit (P.getD j2 0) (P.getD (j2 + 1) 0) = B at *
                        generalize P.getD j2 0 = X2 at *
                        generalize P.getD (j2 + 1) 0 = Y2 at *
                        have hvn : 2 * v + B < 2 ^ (n + 1) := by rw [Nat.pow_succ]; omega
                        have hv3 : 2 * v + B < 256 := by omega
                        have hjlt : j2 < P.length := by omega
                        replace hHr := hid hHr
                        replace hbel := hid hbel
                        have hownh := hid hown
                        clear e3 hbw hown
                        by_cases h7 : n = 7
                        · have hH2 := hHr.out
                          rw [if_pos h7] at hH2
                          subst h7
                          replace hH2 := hid hH2
                          obtain ⟨ob, bcap, rfl⟩ : ∃ oa cap, u7 = .slice oa ba.length cap := by
                            obtain ⟨_, ⟨h1, h0⟩ | ⟨g, cap, _, h1, _⟩⟩ := hownh.out
                            · exact ⟨none, 0, by rw [h1, h0]⟩
                            · exact ⟨_, _, h1⟩
                          obtain ⟨V2, hV2⟩ : ∃ V2 : Nat, 2 * v + B = V2 := ⟨_, rfl⟩
                          rw [hV2] at hH2 hvn hv3
                          have hV3 : (2 : Int) * (v : Int) + (B : Int) = (V2 : Int) := by omega
                          have hbs := hbel.out.size
                          have hfin : Hid (∀ (W : World), wr.heap.size = W.heap.size → (∀ b, W.heap[b]? = wr.heap[b]?) → W.os = wr.os → W.tape = wr.tape → W.output = wr.output → ∀ (v' : Value) (w1 : World), w1.ownsRow W0.heap.size 5 1 v' (ba.length + 1) (ba.map (Value.int .u8) ++ [.int .u8 (V2 : Int)]) → (W.alloc (.cells #[.int .u8 (V2 : Int)] 5)).grownBy w1 (Value.slice ob ba.length bcap).ownBlock → w1.ownsRow W0.heap.size 5 1 v' (ba ++ [(V2 : Int)]).length ((ba ++ [(V2 : Int)]).map (Value.int .u8)) ∧ Below W0.heap.size W0 w1) := fun W hz hh o1 o2 o3 v' w1 ho hg => by
                            refine ⟨by rw [List.length_append, List.map_append]; exact ho, ?_⟩
                            have hbW2 : Below W0.heap.size W0 W := hbel.out.trans ⟨o1, o2, o3, by omega, fun b _ => hh b⟩
                            exact (hbW2.alloc (by omega) _).grown hg (by simp; omega) (fun g hg => (hownh.out.lt g hg).1)
                          clear hHr
                          go_wp2_with fail
                          go_quiet ((go_at_call 39; exact Calls.quiet_of_same (hBt.out _)))
                          go_wp2_with (at_builtin; refine wpList_append_lies _ rfl _ _ 72 rfl W0.heap.size 5 j0 _ 1 1 Tryd.underlying72 hj0 hy0 hy1 hy2 rfl (by omega) _ ba.length (ba.map (Value.int .u8)) rfl (World.ownsRow.alloc (hownh.out : (wr.drewN nq).ownsRow W0.heap.size 5 1 (.slice ob ba.length bcap) ba.length (ba.map (Value.int .u8))) _) ⟨_, 0, none⟩ 1 1 [.int .u8 (V2 : Int)] rfl rfl (World.news_of_block (cs := #[.int .u8 (V2 : Int)]) (t := 5) (fr := (0, 0)) (heap_alloc_new _ _)) (by simp [Value.oneCell']) (by omega) (by unfold maxLen; omega) (by omega) (by simp; omega) _ rfl ?_; intro gg cap9 w1 ho hg hat2 hlt3; have hF := hid (hfin.out (wr.drewN nq) rfl (fun _ => rfl) rfl rfl rfl _ _ ho hg); clear ho hg hat2 hlt3 hfin hownh)
                          go_roundw
                          case rel => exact ⟨j2 + 2, 0, 0, ba ++ [(V2 : Int)], by go_num, rfl, rfl, hH2.out, by omega, by omega, by omega, by decide, by rw [List.length_append]; simp; omega, hF.out.1, hF.out.2⟩
                          case measure => simp [intOf] <;> omega
                        · have hH2 := hHr.out
                          rw [if_neg h7] at hH2
                          replace hH2 := hid hH2
                          have h78 : (((n : Int) + 1) == 8) = false := by rw [beq_eq_false_iff_ne]; omega
                          clear hHr
                          go_wp2_with fail
                          go_quiet ((go_at_call 39; exact Calls.quiet_of_same (hBt.out _)))
                          go_wp2
                          go_roundw
                          case rel => exact ⟨j2 + 2, n + 1, 2 * v + B, ba, by go_num, by go_num, by go_num, hH2.out, by omega, by omega, by omega, hvn, by omega, hownh.out, hbel.out.trans ⟨rfl, rfl, rfl, Nat.le_refl _, fun _ _ => rfl⟩⟩
                          case measure => simp [intOf] <;> omega
                      · have hHe := hear_end (P.drop j2) n v ba (.inr (by rw [drop_getDW, Nat.add_zero]; omega))
                        rw [hHr] at hHe
                        subst hHe
                        have hSx := hid (hSW.out.below hbel)
                        have hbwx := hid hbw
                        generalize P.getD j2 0 = X2 at *
                        by_cases hn0 : n = 0
                        · subst hn0
                          have eX := hE7.out
                          rw [if_neg (by simp)] at eX
                          have hcv := own_string hown
                          have hbs : (strOfNums ba).size ≤ 4096 := by rw [strOfNums_size]; omega
                          obtain ⟨tx, htx⟩ : ∃ tx, strOfNums ba = tx := ⟨_, rfl⟩
                          dsimp only at eX
                          rw [htx] at eX hcv hbs
                          have hOf := hid (fun W => bkof_spec tx W (by unfold maxLen; omega))
                          obtain ⟨⟨⟨F, D⟩, c⟩, hY⟩ : ∃ Y, ofB tx = Y := ⟨_, rfl⟩
                          rw [hY] at hOf eX
                          subst eX
                          have hE6 := hE9
                          clear hE9 hE7 hbel hbw hown htx hY hHr hSW
                          dsimp only at hE6
                          go_wp2_with fail
                          refine (hOf.out _).mono ?_
                          rintro e w5 ⟨rfl, hb5⟩
                          have hS5 := hid ((hSx.out.below hb5).below ((Below.refl w5.heap.size w5).alloc (Nat.le_refl _) (.cells (bkA F D) 28)))
                          have q5 := hid (Blk.new w5 (bkA F D) 28)
                          clear hb5 hOf hSx hbwx
                          go_upto_region 27 with fail
                          obtain ⟨W5, hW5⟩ : ∃ W, w5.alloc (.cells (bkA F D) 28) = W := ⟨_, rfl⟩
                          obtain ⟨b5, hb5⟩ : ∃ b, w5.heap.size = b := ⟨_, rfl⟩
                          rw [hW5] at hS5 q5 ⊢
                          rw [hb5] at q5 ⊢
                          clear hW5 hb5
                          by_cases hc : c = 0
                          · subst hc
                            have hE5 := hE6.out
                            rw [if_neg (by decide)] at hE5
                            by_cases h6 : acc.length = 6
                            · rw [if_pos h6] at hE5
                              subst hE5
                              have hO := hid (Hs.nil (w := w) hS5.out.bel)
                              clear hE6 hS5 q5
                              go_wp2_with fail
                              go_ret2
                              exact ⟨_, rfl, hO.out⟩
                            · rw [if_neg h6] at hE5
                              have h6b : ((acc.length : Int) == 6) = false := by rw [beq_eq_false_iff_ne]; omega
                              have x7 := q5.out.cell
                              have own2 := hid hS5.out.own
                              have hba := hS5.out.bel.size
                              have e1 : (P.drop j2).drop 1 = P.drop (j2 + 1) := by rw [List.drop_drop]
                              rw [e1] at hE5
                              replace hE5 := hid hE5
                              have happ : Hid (∀ (g cap : Nat) (w3 : World), w3.ownsRow w.heap.size 28 2 (.slice (some ⟨g, 0, none⟩) (acc.length + 1) cap) (acc.length + 1) (bkL acc ++ [.int .i64 F, .string D]) → (W5.alloc (.cells (bkA F D) 28)).grownBy w3 (Value.slice oa acc.length ocap).ownBlock → Hs w w3 (.slice (some ⟨g, 0, none⟩) (acc.length + 1) cap) (acc ++ [(F, D)])) := fun g cap w3 ho hg => by
                                refine ⟨by rw [bkL_snoc, List.length_append]; exact ho, ?_⟩
                                exact (hS5.out.bel.alloc hba _).grown hg (by rw [World.size_alloc]; omega) (fun g hg => (hS5.out.own.lt g hg).1)
                              clear hE6 hS5 q5 e1
                              go_wp2_with (at_builtin; refine wpList_append_lies _ rfl _ _ 36 rfl w.heap.size 28 i0 _ 2 24 Tryd.underlying36 hi0 hz0 hz1 hz2 rfl (by omega) _ acc.length (bkL acc) rfl (own2.out.alloc _) ⟨_, 0, none⟩ 1 1 [.int .i64 F, .string D] rfl rfl (World.news_of_block (cs := #[.int .i64 F, .string D]) (t := 28) (fr := (0, 0)) (heap_alloc_new _ _)) (by simp [Value.oneCell']) (by omega) (by unfold maxLen; omega) (by omega) (by simp; omega) _ rfl ?_; intro g2 c2 w3 ho hg hat2 hlt2; have hS9 := hid (happ.out _ _ _ ho hg); clear ho hg hat2 hlt2 own2 happ)
                              go_roundw
                              case rel => exact ⟨f, j2 + 1, acc ++ [(F, D)], by go_num, by omega, hS9.out, hE5.out.symm, by omega, by rw [List.length_append]; simp; omega⟩
                              case measure => simp [intOf] <;> omega
                          · have hE5 := hE6.out
                            rw [if_pos hc] at hE5
                            subst hE5
                            have hcb : (c == 0) = false := by simpa using hc
                            have hO := hid (Hs.nil (w := w) hS5.out.bel)
                            clear hE6 hS5 q5
                            go_wp2_with fail
                            go_ret2
                            exact ⟨_, rfl, hO.out⟩
                        · have hnb : ((n : Int) == 0) = false := by rw [beq_eq_false_iff_ne]; omega
                          have eX := hE7.out
                          rw [if_pos (by simpa using hn0)] at eX
                          subst eX
                          have eZ2 : Z = ([], 17) := hE9.out.trans (if_pos (by decide))
                          subst eZ2
                          have hO := hid (Hs.nil (w := w) hbwx.out)
                          clear hE9 hE7 hbel hbw hown hSx hHr hSW
                          go_wp2
                          go_ret2
                          exact ⟨_, rfl, hO.out⟩
                    · have hHe := hear_end (P.drop j2) n v ba (.inl (by rw [List.length_drop]; omega))
                      rw [hHr] at hHe
                      subst hHe
                      have hSx := hid (hSW.out.below hbel)
                      have hbwx := hid hbw
                      by_cases hn0 : n = 0
                      · subst hn0
                        have eX := hE7.out
                        rw [if_neg (by simp)] at eX
                        have hcv := own_string hown
                        have hbs : (strOfNums ba).size ≤ 4096 := by rw [strOfNums_size]; omega
                        obtain ⟨tx, htx⟩ : ∃ tx, strOfNums ba = tx := ⟨_, rfl⟩
                        dsimp only at eX
                        rw [htx] at eX hcv hbs
                        have hOf := hid (fun W => bkof_spec tx W (by unfold maxLen; omega))
                        obtain ⟨⟨⟨F, D⟩, c⟩, hY⟩ : ∃ Y, ofB tx = Y := ⟨_, rfl⟩
                        rw [hY] at hOf eX
                        subst eX
                        have hE6 := hE9
                        clear hE9 hE7 hbel hbw hown htx hY hHr hSW
                        dsimp only at hE6
                        go_wp2_with fail
                        refine (hOf.out _).mono ?_
                        rintro e w5 ⟨rfl, hb5⟩
                        have hS5 := hid ((hSx.out.below hb5).below ((Below.refl w5.heap.size w5).alloc (Nat.le_refl _) (.cells (bkA F D) 28)))
                        have q5 := hid (Blk.new w5 (bkA F D) 28)
                        clear hb5 hOf hSx hbwx
                        go_upto_region 27 with fail
                        obtain ⟨W5, hW5⟩ : ∃ W, w5.alloc (.cells (bkA F D) 28) = W := ⟨_, rfl⟩
                        obtain ⟨b5, hb5⟩ : ∃ b, w5.heap.size = b := ⟨_, rfl⟩
                        rw [hW5] at hS5 q5 ⊢
                        rw [hb5] at q5 ⊢
                        clear hW5 hb5
                        by_cases hc : c = 0
                        · subst hc
                          have hE5 := hE6.out
                          rw [if_neg (by decide)] at hE5
                          by_cases h6 : acc.length = 6
                          · rw [if_pos h6] at hE5
                            subst hE5
                            have hO := hid (Hs.nil (w := w) hS5.out.bel)
                            clear hE6 hS5 q5
                            go_wp2_with fail
                            go_ret2
                            exact ⟨_, rfl, hO.out⟩
                          · rw [if_neg h6] at hE5
                            have h6b : ((acc.length : Int) == 6) = false := by rw [beq_eq_false_iff_ne]; omega
                            have x7 := q5.out.cell
                            have own2 := hid hS5.out.own
                            have hba := hS5.out.bel.size
                            have e1 : (P.drop j2).drop 1 = P.drop (j2 + 1) := by rw [List.drop_drop]
                            rw [e1] at hE5
                            replace hE5 := hid hE5
                            have happ : Hid (∀ (g cap : Nat) (w3 : World), w3.ownsRow w.heap.size 28 2 (.slice (some ⟨g, 0, none⟩) (acc.length + 1) cap) (acc.length + 1) (bkL acc ++ [.int .i64 F, .string D]) → (W5.alloc (.cells (bkA F D) 28)).grownBy w3 (Value.slice oa acc.length ocap).ownBlock → Hs w w3 (.slice (some ⟨g, 0, none⟩) (acc.length + 1) cap) (acc ++ [(F, D)])) := fun g cap w3 ho hg => by
                              refine ⟨by rw [bkL_snoc, List.length_append]; exact ho, ?_⟩
                              exact (hS5.out.bel.alloc hba _).grown hg (by rw [World.size_alloc]; omega) (fun g hg => (hS5.out.own.lt g hg).1)
                            clear hE6 hS5 q5 e1
                            go_wp2_with (at_builtin; refine wpList_append_lies _ rfl _ _ 36 rfl w.heap.size 28 i0 _ 2 24 Tryd.underlying36 hi0 hz0 hz1 hz2 rfl (by omega) _ acc.length (bkL acc) rfl (own2.out.alloc _) ⟨_, 0, none⟩ 1 1 [.int .i64 F, .string D] rfl rfl (World.news_of_block (cs := #[.int .i64 F, .string D]) (t := 28) (fr := (0, 0)) (heap_alloc_new _ _)) (by simp [Value.oneCell']) (by omega) (by unfold maxLen; omega) (by omega) (by simp; omega) _ rfl ?_; intro g2 c2 w3 ho hg hat2 hlt2; have hS9 := hid (happ.out _ _ _ ho hg); clear ho hg hat2 hlt2 own2 happ)
                            go_roundw
                            case rel => exact ⟨f, j2 + 1, acc ++ [(F, D)], by go_num, by omega, hS9.out, hE5.out.symm, by omega, by rw [List.length_append]; simp; omega⟩
                            case measure => simp [intOf] <;> omega
                        · have hE5 := hE6.out
                          rw [if_pos hc] at hE5
                          subst hE5
                          have hcb : (c == 0) = false := by simpa using hc
                          have hO := hid (Hs.nil (w := w) hS5.out.bel)
                          clear hE6 hS5 q5
                          go_wp2_with fail
                          go_ret2
                          exact ⟨_, rfl, hO.out⟩
                      · have hnb : ((n : Int) == 0) = false := by rw [beq_eq_false_iff_ne]; omega
                        have eX := hE7.out
                        rw [if_pos (by simpa using hn0)] at eX
                        subst eX
                        have eZ2 : Z = ([], 17) := hE9.out.trans (if_pos (by decide))
                        subst eZ2
                        have hO := hid (Hs.nil (w := w) hbwx.out)
                        clear hE9 hE7 hbel hbw hown hSx hHr hSW
                        go_wp2
                        go_ret2
                        exact ⟨_, rfl, hO.out⟩
              · have eZ := hE8.out
                rw [if_pos (by omega)] at eZ
                subst eZ
                have eZ2 : Z = ([], 16) := hE9.out.trans (if_pos (by decide))
                subst eZ2
                have hO := hid (Hs.nil (w := w) hbW.out)
                clear hE8 hSW hbr hE9
                generalize P.getD q 0 = X at *
                by_cases hx1 : 42 < X
                · have hx2 : ¬ X < 200 := fun h => hx ⟨hx1, h⟩
                  go_wp2
                  go_ret2
                  exact ⟨_, rfl, hO.out⟩
                · go_wp2
                  go_ret2
                  exact ⟨_, rfl, hO.out⟩
            · have eZ := hE8.out
              rw [if_pos (by omega)] at eZ
              subst eZ
              have eZ2 : Z = ([], 16) := hE9.out.trans (if_pos (by decide))
              subst eZ2
              have hO := hid (Hs.nil (w := w) hbW.out)
              clear hE8 hSW hend hat hE9
              go_wp2
              go_ret2
              exact ⟨_, rfl, hO.out⟩
    · have hE9 : decL f (P.drop k) acc = (acc, 0) := by
        have e0 : P.drop k = [] := List.drop_eq_nil_of_le (by omega)
        rw [e0]
        cases f with
        | zero => rfl
        | succ f => rfl
      rw [hZ2] at hE9
      subst hE9
      replace hS := hid hS
      clear hZ2
      go_wp2
      go_ret2
      exact ⟨_, rfl, hS.out⟩
end Go.Proofs.YtakdhmlegickmabDoor
