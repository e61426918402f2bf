/- The pulses of a block and of a tape: the specification. -/
import Derived.Test.YtohnddjijedfkaaVbk
import Derived.Deep.Onto
namespace Go.Proofs.Ytohnddjijedfkaa
open Go.ChangeShapes Go.WideShapes Go.ChangeAt Go.RowKit
set_option linter.unusedVariables false
set_option linter.unusedSimpArgs false

theorem Grow.nil' (w W : World) (h : Below w.heap.size w W) : Grow w (W.alloc (.cells #[] 3)) (.slice (some ⟨W.heap.size, 0, none⟩) 0 0) [] :=
  ⟨World.ownsRow_lit (e := 3) (size := 1) (base := w.heap.size) W #[] 0 h.size (by decide) rfl, h.alloc h.size _⟩
set_option maxRecDepth 100000 in
set_option maxHeartbeats 4000000 in
theorem tape_spec (a : Option Addr) (cap : Nat) (l : List (Int × ByteArray)) (w : World) (h : BkR w a l) (hc : allL l = true) : Calls Try.prog 55 #[.slice a l.length cap] w fun e w' => ∃ v, e = .returned v ∧ Grow w w' v (tpN l l.length) := by
  obtain ⟨i0, hi0, hz0, hz1, hz2⟩ := info_parts infoIV
  have h6 := allL_len hc
  have hP : Hid (∀ k, k < l.length → ∀ W, Calls Try.prog 58 #[bkV (l.getD k bkz).1 (l.getD k bkz).2] W fun e w' => ∃ v, e = .returned v ∧ Grow W w' v (plsB (l.getD k bkz).1 (l.getD k bkz).2)) := fun k hk W => pulses_spec _ _ W (allL_at hc hk)
  have hZ : Hid (∀ k, k < l.length → (tpN l k).length ≤ 4146 ∧ 0 < (plsB (l.getD k bkz).1 (l.getD k bkz).2).length ∧ (plsB (l.getD k bkz).1 (l.getD k bkz).2).length ≤ 690) := fun k hk => ⟨by have := tpN_len hc k (by omega); omega, by rw [plsB_len]; omega, by rw [plsB_len]; have := ((okB_iff _ _).1 (allL_at hc hk)).2; have := pilN_le (l.getD k bkz).1; omega⟩
  have hG0 := hid (Grow.nil w)
  replace h := hid h
  clear hc
  go_enter Try.func55, Try.ntmps55
  go_upto_region 2 with fail
  obtain ⟨W1, hW1⟩ : ∃ W1, w.alloc (.cells #[] 3) = W1 := ⟨_, rfl⟩
  rw [hW1] at hG0 ⊢
  clear hW1
  go_upto_region 3 with fail
  go_loopw [3, 4] (fun v i wr => ∃ k : Nat, k ≤ l.length ∧ i = .int .i64 k ∧ Grow w wr v (tpN l k)) (fun _ i _ => l.length - (intOf i).toNat)
  case atStart => exact ⟨0, by omega, rfl, hG0.out⟩
  case round =>
    obtain ⟨k, hk, rfl, hG1⟩ := hrel
    clear hG0
    by_cases hlt : k < l.length
    · obtain ⟨g, o, rfl, x1, x2⟩ := (h.out.below hG1.bel).at hlt
      obtain ⟨z1, z2, z3⟩ := hZ.out k hlt
      have hP2 := hid (hP.out k hlt)
      have hE : Hid (tpN l (k + 1) = tpN l k ++ plsB (l.getD k bkz).1 (l.getD k bkz).2 ++ [200]) := rfl
      generalize plsB (l.getD k bkz).1 (l.getD k bkz).2 = X at *
      generalize (l.getD k bkz).1 = F at *
      generalize (l.getD k bkz).2 = D at *
      generalize tpN l k = Y at *
      obtain ⟨oa, cap1, rfl⟩ := hG1.form
      replace hG1 := hid hG1
      go_wp2_with fail
      refine (hP2.out _).mono ?_
      rintro e w2 ⟨v2, rfl, hG2⟩
      have hGa := hG1.out.below hG2.bel
      obtain ⟨g2, hg2, hR2⟩ := RowO.of_owns hG2.own z2
      obtain ⟨c2, rfl⟩ : ∃ c2, v2 = .slice (some ⟨g2, 0, none⟩) X.length c2 := by
        obtain ⟨cap, c, t, h1, _⟩ := hR2
        exact ⟨cap, h1⟩
      have hnews : Hid (∀ j u, (X.map (Value.int .i64))[j]? = some u → w2.cell? ((⟨g2, 0, none⟩ : Addr).add j) = some u) := fun j u hu => by
        rw [List.getElem?_map] at hu
        by_cases hj : j < X.length
        · rw [List.getElem?_eq_getElem hj] at hu
          have := hR2.cell j hj
          simp only [Option.map_some, Option.some.injEq] at hu
          rw [List.getD_eq_getElem?_getD, List.getElem?_eq_getElem hj] at this
          have ea : ((⟨g2, 0, none⟩ : Addr).add j) = ⟨g2, j, none⟩ := by unfold Addr.add; split <;> simp_all
          rw [ea, this, ← hu]
          rfl
        · rw [List.getElem?_eq_none (by omega)] at hu
          cases hu
      have hone : Hid (∀ u, u ∈ X.map (Value.int .i64) → u.oneCell' = true) := fun u hu => by
        obtain ⟨x, _, rfl⟩ := List.mem_map.1 hu
        rfl
      have own1 := hid hGa.own
      have hba := hGa.bel.size
      have happ : Hid (∀ (v' : Value) (w3 : World), w3.ownsRow w.heap.size 3 1 v' (Y.length + X.length) (Y.map (Value.int .i64) ++ X.map (Value.int .i64)) → w2.grownBy w3 (Value.slice oa Y.length cap1).ownBlock → Grow w w3 v' (Y ++ X)) := fun v' w3 ho hg =>
        ⟨by rw [List.length_append, List.map_append]; exact ho, hGa.bel.grown hg hba (fun g hg => (hGa.own.lt g hg).1)⟩
      clear hG1 hG2 hGa hR2 hg2 x1 x2
      go_wp2_with (first | (at_builtin; refine wpList_append_lies _ rfl _ _ 23 rfl w.heap.size 3 i0 _ 1 8 Try.underlying23 hi0 hz0 hz1 hz2 rfl (by omega) _ Y.length (Y.map (Value.int .i64)) rfl own1.out ⟨g2, 0, none⟩ X.length c2 (X.map (Value.int .i64)) rfl (by rw [List.length_map, Nat.mul_one]) hnews.out hone.out z2 (by unfold maxLen; omega) (by omega) hba _ rfl ?_; intro g3 c3 w3 ho hg hat hlt3; have hG3 := hid (happ.out _ _ ho hg); have own3 := hid hG3.out.own; have hb3 := hG3.out.bel.size; clear ho hg hat hlt3 happ own1 hnews hone) | (rw [List.length_append] at own3; at_builtin; refine wpList_append_lies _ rfl _ _ 23 rfl w.heap.size 3 i0 _ 1 8 Try.underlying23 hi0 hz0 hz1 hz2 rfl (by omega) _ (Y.length + X.length) ((Y ++ X).map (Value.int .i64)) rfl (own3.out.alloc _) ⟨_, 0, none⟩ 1 1 [.int .i64 200] rfl rfl (World.news_of_block (cs := #[.int .i64 200]) (t := 3) (fr := (0, 0)) (heap_alloc_new _ _)) (by simp [Value.oneCell']) (by omega) (by unfold maxLen; omega) (by omega) (by simp; omega) _ rfl ?_; intro g4 c4 w4 ho hg hat hlt3; have hG4 := hid (hG3.out.app [200] (by rw [List.length_append]; exact ho) hg); clear ho hg hat hlt3 own3))
      go_roundw
      case rel => exact ⟨k + 1, by omega, by go_num, by rw [hE.out]; exact hG4.out⟩
      case measure => simp [intOf] <;> omega
    · obtain rfl : k = l.length := by omega
      replace hG1 := hid hG1
      go_wp2_with fail
      go_ret
      exact ⟨_, rfl, hG1.out⟩
set_option maxRecDepth 100000 in
set_option maxHeartbeats 2000000 in
theorem tapepulses_spec (a : Option Addr) (cap : Nat) (l : List (Int × ByteArray)) (w : World) (h : BkR w a l) (hl : l.length ≤ 1048576) (hs : ∀ x ∈ l, x.2.size ≤ maxLen) :
    Calls Try.prog 50 #[.slice a l.length cap] w fun e w' => ∃ v, e = .returned (.tuple #[v, .int .i64 (tp2 l).2]) ∧ Grow w w' v (tp2 l).1 := by
  by_cases h1 : 4096 < l.length
  · have e : tp2 l = ([], 2) := if_pos h1
    rw [e]
    have hN := hid (Grow.nil w)
    go_enter Try.func50, Try.ntmps50
    go_wp2
    go_ret2
    exact ⟨_, rfl, hN.out⟩
  · have hA := hid (fun W (hW : BkR W a l) => bkall_spec a cap l W hW hl hs)
    cases hc : allL l
    · have e : tp2 l = ([], 1) := by unfold tp2; rw [if_neg h1, hc]; rfl
      rw [e]
      rw [hc] at hA
      clear e
      replace h := hid h
      go_enter Try.func50, Try.ntmps50
      go_wp2_with fail
      refine (hA.out _ h.out).mono ?_
      rintro e w1 ⟨rfl, hb⟩
      have hN := hid (Grow.nil' w w1 hb)
      clear hb
      go_wp2_with fail
      go_ret2
      exact ⟨_, rfl, hN.out⟩
    · have e : tp2 l = (tpN l l.length, 0) := by unfold tp2; rw [if_neg h1, hc]; rfl
      rw [e]
      have hT := hid (fun W (hW : BkR W a l) => tape_spec a cap l W hW hc)
      rw [hc] at hA
      clear e hc
      replace h := hid h
      generalize tpN l l.length = PL at *
      go_enter Try.func50, Try.ntmps50
      go_wp2_with fail
      refine (hA.out _ h.out).mono ?_
      rintro e w1 ⟨rfl, hb⟩
      have hb1 := hid hb
      have h2 := hid (h.out.below hb)
      clear hb hA
      go_wp2_with fail
      refine (hT.out _ h2.out).mono ?_
      rintro e w2 ⟨v2, rfl, hG⟩
      have hG2 : Hid (Grow w w2 v2 PL) := ⟨hG.own.mono hb1.out.size, hb1.out.trans (hG.bel.mono hb1.out.size)⟩
      obtain ⟨oa, cap, rfl⟩ := hG.form
      clear hG
      go_wp2_with fail
      go_ret2
      exact ⟨_, rfl, hG2.out⟩
end Go.Proofs.Ytohnddjijedfkaa
