/- The pulses of a block and of a tape: the specification. -/
import Derived.Test.YtifcdojaocndhaaDoorM20
import Derived.Deep.Onto
import Derived.Test.YtifcdojaocndhaaDoorM21
namespace Go.Proofs.YtifcdojaocndhaaDoor
open Go.ChangeShapes Go.WideShapes Go.ChangeAt Go.RowKit
set_option linter.unusedVariables false
set_option linter.unusedSimpArgs false

theorem Grow.nil' (w W : World) (h : Below w.heap.size w W) : Grow w (W.alloc (.cells #[] 3)) (.slice (some ⟨W.heap.size, 0, none⟩) 0 0) [] :=
  ⟨World.ownsRow_lit (e := 3) (size := 1) (base := w.heap.size) W #[] 0 h.size (by decide) rfl, h.alloc h.size _⟩
set_option maxRecDepth 100000 in
set_option maxHeartbeats 4000000 in
theorem tape_spec (a : Option Addr) (cap : Nat) (l : List (Int × ByteArray)) (w : World) (h : BkR w a l) (hc : allL l = true) : Calls Tryd.prog 160 #[.slice a l.length cap] w fun e w' => ∃ v, e = .returned v ∧ Grow w w' v (tpN l l.length) := by
  obtain ⟨i0, hi0, hz0, hz1, hz2⟩ := info_parts infoIV
  have h6 := allL_len hc
  have hP : Hid (∀ k, k < l.length → ∀ W, Calls Tryd.prog 175 #[bkV (l.getD k bkz).1 (l.getD k bkz).2] W fun e w' => ∃ v, e = .returned v ∧ Grow W w' v (plsB (l.getD k bkz).1 (l.getD k bkz).2)) := fun k hk W => pulses_spec _ _ W (allL_at hc hk)
  have hZ : Hid (∀ k, k < l.length → (tpN l k).length ≤ 4146 ∧ 0 < (plsB (l.getD k bkz).1 (l.getD k bkz).2).length ∧ (plsB (l.getD k bkz).1 (l.getD k bkz).2).length ≤ 690) := fun k hk => ⟨by have := tpN_len hc k (by omega); omega, by rw [plsB_len]; omega, by rw [plsB_len]; have := ((okB_iff _ _).1 (allL_at hc hk)).2; have := pilN_le (l.getD k bkz).1; omega⟩
  have hG0 := hid (Grow.nil w)
  replace h := hid h
  clear hc
  go_enter Tryd.func160, Tryd.ntmps160
  go_upto_region 2 with fail
  obtain ⟨W1, hW1⟩ : ∃ W1, w.alloc (.cells #[] 3) = W1 := ⟨_, rfl⟩
  rw [hW1] at hG0 ⊢
  clear hW1
  go_upto_region 3 with fail
  go_loopw [3, 4] (fun v i wr => ∃ k : Nat, k ≤ l.length ∧ i = .int .i64 k ∧ Grow w wr v (tpN l k)) (fun _ i _ => l.length - (intOf i).toNat)
  case atStart => exact ⟨0, by omega, rfl, hG0.out⟩
  case round =>
    obtain ⟨k, hk, rfl, hG1⟩ := hrel
    clear hG0
    by_cases hlt : k < l.length
    · obtain ⟨g, o, rfl, x1, x2⟩ := (h.out.below hG1.bel).at hlt
      obtain ⟨z1, z2, z3⟩ := hZ.out k hlt
      have hP2 := hid (hP.out k hlt)
      have hE : Hid (tpN l (k + 1) = tpN l k ++ plsB (l.getD k bkz).1 (l.getD k bkz).2 ++ [200]) := rfl
      generalize plsB (l.getD k bkz).1 (l.getD k bkz).2 = X at *
      generalize (l.getD k bkz).1 = F at *
      generalize (l.getD k bkz).2 = D at *
      generalize tpN l k = Y at *
      obtain ⟨oa, cap1, rfl⟩ := hG1.form
      replace hG1 := hid hG1
      go_wp2_with fail
      refine (hP2.out _).mono ?_
      rintro e w2 ⟨v2, rfl, hG2⟩
      have hGa := hG1.out.below hG2.bel
      obtain ⟨g2, hg2, hR2⟩ := RowO.of_owns hG2.own z2
      obtain ⟨c2, rfl⟩ : ∃ c2, v2 = .slice (some ⟨g2, 0, none⟩) X.length c2 := by
        obtain ⟨cap, c, t, h1, _⟩ := hR2
        exact ⟨cap, h1⟩
      have hnews : Hid (∀ j u, (X.map (Value.int .i64))[j]? = some u → w2.cell? ((⟨g2, 0, none⟩ : Addr).add j) = some u) := fun j u hu => by
        rw [List.getElem?_map] at hu
        by_cases hj : j < X.length
        · rw [List.getElem?_eq_getElem hj] at hu
          have := hR2.cell j hj
          simp only [Option.map_some, Option.some.injEq] at hu
          rw [List.getD_eq_getElem?_getD, List.getElem?_eq_getElem hj] at this
          have ea : ((⟨g2, 0, none⟩ : Addr).add j) = ⟨g2, j, none⟩ := by unfold Addr.add; split <;> simp_all
          rw [ea, this, ← hu]
          rfl
        · rw [List.getElem?_eq_none (by omega)] at hu
          cases hu
      have hone : Hid (∀ u, u ∈ X.map (Value.int .i64) → u.oneCell' = true) := fun u hu => by
        obtain ⟨x, _, rfl⟩ := List.mem_map.1 hu
        rfl
      have own1 := hid hGa.own
      have hba := hGa.bel.size
      have happ : Hid (∀ (v' : Value) (w3 : World), w3.ownsRow w.heap.size 3 1 v' (Y.length + X.length) (Y.map (Value.int .i64) ++ X.map (Value.int .i64)) → w2.grownBy w3 (Value.slice oa Y.length cap1).ownBlock → Grow w w3 v' (Y ++ X)) := fun v' w3 ho hg =>
        ⟨by rw [List.length_append, List.map_append]; exact ho, hGa.bel.grown hg hba (fun g hg => (hGa.own.lt g hg).1)⟩
      clear hG1 hG2 hGa hR2 hg2 x1 x2
      go_wp2_with (first | (at_builtin; refine wpList_append_lies _ rfl _ _ 27 rfl w.heap.size 3 i0 _ 1 8 Tryd.underlying27 hi0 hz0 hz1 hz2 rfl (by omega) _ Y.length (Y.map (Value.int .i64)) rfl own1.out ⟨g2, 0, none⟩ X.length c2 (X.map (Value.int .i64)) rfl (by rw [List.length_map, Nat.mul_one]) hnews.out hone.out z2 (by unfold maxLen; omega) (by omega) hba _ rfl ?_; intro g3 c3 w3 ho hg hat hlt3; have hG3 := hid (happ.out _ _ ho hg); have own3 := hid hG3.out.own; have hb3 := hG3.out.bel.size; clear ho hg hat hlt3 happ own1 hnews hone) | (rw [List.length_append] at own3; at_builtin; refine wpList_append_lies _ rfl _ _ 27 rfl w.heap.size 3 i0 _ 1 8 Tryd.underlying27 hi0 hz0 hz1 hz2 rfl (by omega) _ (Y.length + X.length) ((Y ++ X).map (Value.int .i64)) rfl (own3.out.alloc _) ⟨_, 0, none⟩ 1 1 [.int .i64 200] rfl rfl (World.news_of_block (cs := #[.int .i64 200]) (t := 3) (fr := (0, 0)) (heap_alloc_new _ _)) (by simp [Value.oneCell']) (by omega) (by unfold maxLen; omega) (by omega) (by simp; omega) _ rfl ?_; intro g4 c4 w4 ho hg hat hlt3; have hG4 := hid (hG3.out.app [200] (by rw [List.length_append]; exact ho) hg); clear ho hg hat hlt3 own3))
      go_roundw
      case rel => exact ⟨k + 1, by omega, by go_num, by rw [hE.out]; exact hG4.out⟩
      case measure => simp [intOf] <;> omega
    · obtain rfl : k = l.length := by omega
      replace hG1 := hid hG1
      go_wp2_with fail
      go_ret
      exact ⟨_, rfl, hG1.out⟩
set_option maxRecDepth 100000 in
set_option maxHeartbeats 2000000 in
theorem tapepulses_spec (a : Option Addr) (cap : Nat) (l : List (Int × ByteArray)) (w : World) (h : BkR w a l) (hl : l.length ≤ 1048576) (hs : ∀ x ∈ l, x.2.size ≤ maxLen) :
    Calls Tryd.prog 130 #[.slice a l.length cap] w fun e w' => ∃ v, e = .returned (.tuple #[v, .int .i64 (tp2 l).2]) ∧ Grow w w' v (tp2 l).1 := by
  by_cases h1 : 4096 < l.length
  · have e : tp2 l = ([], 2) := if_pos h1
    rw [e]
    have hN := hid (Grow.nil w)
    go_enter Tryd.func130, Tryd.ntmps130
    go_wp2
    go_ret2
    exact ⟨_, rfl, hN.out⟩
  · have hA := hid (fun W (hW : BkR W a l) => bkall_spec a cap l W hW hl hs)
    cases hc : allL l
    · have e : tp2 l = ([], 1) := by unfold tp2; rw [if_neg h1, hc]; rfl
      rw [e]
      rw [hc] at hA
      clear e
      replace h := hid h
      go_enter Tryd.func130, Tryd.ntmps130
      go_wp2_with fail
      refine (hA.out _ h.out).mono ?_
      rintro e w1 ⟨rfl, hb⟩
      have hN := hid (Grow.nil' w w1 hb)
      clear hb
      go_wp2_with fail
      go_ret2
      exact ⟨_, rfl, hN.out⟩
    · have e : tp2 l = (tpN l l.length, 0) := by unfold tp2; rw [if_neg h1, hc]; rfl
      rw [e]
      have hT := hid (fun W (hW : BkR W a l) => tape_spec a cap l W hW hc)
      rw [hc] at hA
      clear e hc
      replace h := hid h
      generalize tpN l l.length = PL at *
      go_enter Tryd.func130, Tryd.ntmps130
      go_wp2_with fail
      refine (hA.out _ h.out).mono ?_
      rintro e w1 ⟨rfl, hb⟩
      have hb1 := hid hb
      have h2 := hid (h.out.below hb)
      clear hb hA
      go_wp2_with fail
      refine (hT.out _ h2.out).mono ?_
      rintro e w2 ⟨v2, rfl, hG⟩
      have hG2 : Hid (Grow w w2 v2 PL) := ⟨hG.own.mono hb1.out.size, hb1.out.trans (hG.bel.mono hb1.out.size)⟩
      obtain ⟨oa, cap, rfl⟩ := hG.form
      clear hG
      go_wp2_with fail
      go_ret2
      exact ⟨_, rfl, hG2.out⟩
end Go.Proofs.YtifcdojaocndhaaDoor

/- A new deck: the specification. -/
namespace Go.Proofs.YtifcdojaocndhaaDoor
open Go.ChangeShapes Go.WideShapes Go.ChangeAt Go.RowKit
set_option linter.unusedVariables false
set_option linter.unusedSimpArgs false

theorem tp2_long {l : List (Int × ByteArray)} (h : 4096 < l.length) : tp2 l = ([], 2) := by
  unfold tp2
  rw [if_pos h]
theorem tp2_len (l : List (Int × ByteArray)) : (tp2 l).1.length ≤ 5000 := by
  unfold tp2
  split
  · exact Nat.zero_le _
  · split
    · rename_i hal
      have h1 := tpN_len hal l.length (Nat.le_refl _)
      have h2 := allL_len hal
      show (tpN l l.length).length ≤ _
      omega
    · exact Nat.zero_le _
theorem new2_ok {l : List (Int × ByteArray)} (h : (tp2 l).2 = 0) : new2 l = (Dk.goto ⟨(tp2 l).1, 0, 0, false, false⟩ 0, 0) := by unfold new2; rw [if_pos h]
theorem new2_no {l : List (Int × ByteArray)} (h : (tp2 l).2 ≠ 0) : new2 l = (dk0, (tp2 l).2) := by unfold new2; rw [if_neg h]
set_option maxRecDepth 100000 in
set_option maxHeartbeats 1000000 in
theorem newd_spec (a : Option Addr) (cap : Nat) (l : List (Int × ByteArray)) (w : World) (h : BkR w a l) (hl : l.length ≤ 1048576) (hs : ∀ x ∈ l, x.2.size ≤ maxLen) :
    Calls Tryd.prog 74 #[.slice a l.length cap] w fun e w' => ∃ v, e = .returned (.tuple #[dkV v (new2 l).1, .int .i64 (new2 l).2]) ∧ Grow w w' v (new2 l).1.pulses := by
  have q0 := Blk.new w dkZ 38
  have hB := (Below.refl w.heap.size w).alloc (Nat.le_refl _) (.cells dkZ 38)
  have hb0 := h.below hB
  have hTp := hid (fun W hh => tapepulses_spec a cap l W hh hl hs)
  have hln := tp2_len l
  clear h hs
  by_cases h1 : 4096 < l.length
  · have e2 : (tp2 l).2 ≠ 0 := by rw [tp2_long h1]; decide
    rw [new2_no e2, tp2_long h1]
    clear e2 hTp hln hb0
    have h1I : (4096 : Int) < (l.length : Int) := by omega
    go_enter Tryd.func74, Tryd.ntmps74
    go_upto_region 1 with fail
    obtain ⟨V, hV⟩ : ∃ V, w.alloc (.cells #[.slice none 0 0, .int .i64 0, .int .i64 0, .bool false, .bool false] 38) = V := ⟨_, rfl⟩
    rw [hV] at q0 hB ⊢
    clear hV
    obtain ⟨O, hO⟩ : ∃ O, w.heap.size = O := ⟨_, rfl⟩
    have hOh : Hid (w.heap.size = O) := hO
    have hB' : Hid (Below w.heap.size w V) := hB
    rw [hO] at q0 ⊢
    clear hO hB
    have x8 := (lay5_blk q0 rfl (.slice none 0 0) 0 0 false false).cell
    dsimp only [lay5] at x8
    replace x8 := hid x8
    have G8 : Hid (Grow w (lay5 V O (.slice none 0 0) 0 0 false false) (.slice none 0 0) []) := (Grow.nilv hB'.out).lay5 (by have := hOh.out; omega) (by simp [Value.ownBlock]) _ _ _ _ _
    dsimp only [lay5] at G8
    have xR := q0.cell
    have fR := q0.frozen
    have lR := q0.lt
    go_wp2
    have x9 := x8.out
    exact bodyPost_ret (v := .tuple #[.agg #[.slice none 0 0, .int .i64 0, .int .i64 0, .bool false, .bool false], .int .i64 2]) (by simp [results, Tryd.results74, go_sem, x9]; try rfl) rfl ⟨_, rfl, G8.out⟩
  have h1I : ¬ (4096 : Int) < (l.length : Int) := by omega
  by_cases h2 : (tp2 l).2 = 0
  · rw [new2_ok h2]
    rw [h2] at hTp
    obtain ⟨T, hT⟩ : ∃ T, (tp2 l).1 = T := ⟨_, rfl⟩
    rw [hT] at hTp hln ⊢
    obtain ⟨LF, hLF⟩ : ∃ LF, Dk.goto ⟨T, 0, 0, false, false⟩ 0 = ⟨T, 0, LF, false, false⟩ := ⟨_, rfl⟩
    have hgo := hid (fun W a c hh => goto_spec a c ⟨T, 0, 0, false, false⟩ 0 W hh (Int.le_refl _) (show T.length ≤ 1048576 by omega))
    rw [hLF] at hgo ⊢
    clear hT h2 hLF h1
    go_enter Tryd.func74, Tryd.ntmps74
    go_upto_region 1 with fail
    obtain ⟨V, hV⟩ : ∃ V, w.alloc (.cells #[.slice none 0 0, .int .i64 0, .int .i64 0, .bool false, .bool false] 38) = V := ⟨_, rfl⟩
    rw [hV] at q0 hB hb0 ⊢
    clear hV
    obtain ⟨O, hO⟩ : ∃ O, w.heap.size = O := ⟨_, rfl⟩
    have hOh : Hid (w.heap.size = O) := hO
    have hB' : Hid (Below w.heap.size w V) := hB
    rw [hO] at q0 ⊢
    clear hO hB
    replace q0 := hid q0
    replace hb0 := hid hb0
    go_wp2_with fail
    refine (hTp.out _ hb0.out).mono ?_
    rintro e w1 ⟨v1, rfl, hG⟩
    have q1 := hid (q0.out.below hG.bel q0.out.lt)
    have G1 := hid (hG.since hB'.out)
    have nb : Hid (v1.ownBlock ≠ some O) := hG.off q0.out.lt
    obtain ⟨a1, c1, rfl⟩ := hG.form
    have rr : Hid (RowR w1 (.slice a1 T.length c1) T) := by
      by_cases h0 : 0 < T.length
      · obtain ⟨g, _, hR⟩ := RowO.of_owns hG.own h0
        exact hR.reads
      · exact ⟨a1, c1, rfl, .inl (List.length_eq_zero_iff.1 (by omega))⟩
    clear hG q0 hb0 hTp hB'
    go_wp2_with fail
    refine (hgo.out _ a1 c1 rr.out).mono ?_
    rintro e w2 ⟨rfl, hb⟩
    have q2 := q1.out.below hb q1.out.lt
    have G2 := G1.out.below hb
    have x8 := (lay5_blk q2 rfl (.slice a1 T.length c1) 0 LF false false).cell
    dsimp only [lay5] at x8
    replace x8 := hid x8
    have G8 : Hid (Grow w (lay5 w2 O (.slice a1 T.length c1) 0 LF false false) (.slice a1 T.length c1) T) := G2.lay5 (by have := hOh.out; omega) nb.out _ _ _ _ _
    dsimp only [lay5] at G8
    have xR := q2.cell
    have fR := q2.frozen
    have lR := q2.lt
    clear q2 G2 q1 G1 rr hgo hb
    go_wp2
    have x9 := x8.out
    exact bodyPost_ret (v := .tuple #[.agg #[.slice a1 T.length c1, .int .i64 0, .int .i64 LF, .bool false, .bool false], .int .i64 0]) (by simp [results, Tryd.results74, go_sem, x9]; try rfl) rfl ⟨_, rfl, G8.out⟩
  · rw [new2_no h2]
    obtain ⟨T, hT⟩ : ∃ T, (tp2 l).1 = T := ⟨_, rfl⟩
    obtain ⟨C, hC⟩ : ∃ C, (tp2 l).2 = C := ⟨_, rfl⟩
    rw [hT, hC] at hTp
    rw [hC] at h2 ⊢
    have hCb : (C != 0) = true := by simpa using h2
    clear hT hC h2 h1
    go_enter Tryd.func74, Tryd.ntmps74
    go_upto_region 1 with fail
    obtain ⟨V, hV⟩ : ∃ V, w.alloc (.cells #[.slice none 0 0, .int .i64 0, .int .i64 0, .bool false, .bool false] 38) = V := ⟨_, rfl⟩
    rw [hV] at q0 hB hb0 ⊢
    clear hV
    obtain ⟨O, hO⟩ : ∃ O, w.heap.size = O := ⟨_, rfl⟩
    have hOh : Hid (w.heap.size = O) := hO
    have hB' : Hid (Below w.heap.size w V) := hB
    rw [hO] at q0 ⊢
    clear hO hB
    replace q0 := hid q0
    replace hb0 := hid hb0
    go_wp2_with fail
    refine (hTp.out _ hb0.out).mono ?_
    rintro e w1 ⟨v1, rfl, hG⟩
    have q1 := q0.out.below hG.bel q0.out.lt
    have B1 := new_trans hB'.out hG.bel
    obtain ⟨a1, c1, rfl⟩ := hG.form
    have x8 := (lay5_blk q1 rfl (.slice none 0 0) 0 0 false false).cell
    dsimp only [lay5] at x8
    replace x8 := hid x8
    have G8 : Hid (Grow w (lay5 w1 O (.slice none 0 0) 0 0 false false) (.slice none 0 0) []) := (Grow.nilv B1).lay5 (by have := hOh.out; omega) (by simp [Value.ownBlock]) _ _ _ _ _
    dsimp only [lay5] at G8
    have xR := q1.cell
    have fR := q1.frozen
    have lR := q1.lt
    clear q1 B1 hG q0 hb0 hTp hB'
    go_wp2
    have x9 := x8.out
    exact bodyPost_ret (v := .tuple #[.agg #[.slice none 0 0, .int .i64 0, .int .i64 0, .bool false, .bool false], .int .i64 C]) (by simp [results, Tryd.results74, go_sem, x9]; try rfl) rfl ⟨_, rfl, G8.out⟩
end Go.Proofs.YtifcdojaocndhaaDoor

/- Pulses that are right, and the length of a tape: the specification and the program. -/
namespace Go.Proofs.YtifcdojaocndhaaDoor
open Go.ChangeShapes Go.WideShapes Go.ChangeAt Go.RowKit
set_option linter.unusedVariables false
set_option linter.unusedSimpArgs false

def fltP (P : List Int) : Int := if 4096 < P.length then 2 else if allP P = true then 0 else 4
theorem isPulse_impl (x : Int) (w : World) : Calls Tryd.prog 143 #[.int .i64 x] w fun e w' => e = .returned (.bool (inB x 1 1000)) ∧ w' = w := by
  go_enter Tryd.func143, Tryd.ntmps143
  go_wp2_with (go_at_call 114; refine (withinV_impl _ _ _ _).mono ?_; rintro e w' ⟨rfl, hww⟩; obtain rfl := hww.symm)
  go_ret
  exact ⟨rfl, rfl⟩
set_option maxRecDepth 100000 in
set_option maxHeartbeats 2000000 in
theorem pok_specV (a : Option Addr) (cap : Nat) (P : List Int) (w : World) (h : RowR w (.slice a P.length cap) P) (hl : P.length ≤ 4096) : Calls Tryd.prog 137 #[.slice a P.length cap] w fun e w' => e = .returned (.bool (allP P)) ∧ w' = w := by
  have hno : Hid (∀ k, k < P.length → inB (P.getD k 0) 1 1000 = false → allP P = false) := fun k hk hb => all_no hk hb
  have hyes : Hid ((∀ k, k < P.length → inB (P.getD k 0) 1 1000 = true) → allP P = true) := fun hh => all_yes hh
  replace h := hid h
  obtain ⟨Q, hQ⟩ : ∃ Q, allP P = Q := ⟨_, rfl⟩
  rw [hQ] at hno hyes ⊢
  clear hQ
  go_enter Tryd.func137, Tryd.ntmps137
  have h9 : decide ((4096 : Int) < (P.length : Int)) = false := decide_eq_false (by omega)
  have h5 : decide ((P.length : Int) ≤ 5000) = true := decide_eq_true (by omega)
  go_wp2
  go_loop [3] (fun i => ∃ k : Nat, k ≤ P.length ∧ i = .int .i64 k ∧ (∀ j, j < k → inB (P.getD j 0) 1 1000 = true)) (fun i => P.length - (intOf i).toNat)
  case atStart => exact ⟨0, by omega, rfl, fun j hj => by omega⟩
  case round =>
    obtain ⟨k, hk, rfl, hj⟩ := hrel
    by_cases hlt : k < P.length
    · obtain ⟨b, off, rfl, x1⟩ := h.out.at hlt
      cases hb : inB (P.getD k 0) 1 1000
      · have hE2 := hid (hno.out k hlt hb)
        clear hj hno hyes
        have hI := hid (fun W => in_spec (P.getD k 0) 1 1000 W)
        rw [hb] at hI
        generalize P.getD k 0 = X at *
        go_wp2_with (go_at_call 99; refine (hI.out _).mono ?_; rintro e w' ⟨rfl, hww⟩; obtain rfl := hww.symm)
        go_ret
        exact ⟨by rw [hE2.out]; try rfl, rfl⟩
      · have hj2 : Hid (∀ j, j < k + 1 → inB (P.getD j 0) 1 1000 = true) := fun j hj1 => by
          by_cases e : j = k
          · rw [e]; exact hb
          · exact hj j (by omega)
        clear hj hno hyes
        have hI := hid (fun W => in_spec (P.getD k 0) 1 1000 W)
        rw [hb] at hI
        clear hb
        generalize P.getD k 0 = X at *
        go_wp2_with (go_at_call 99; refine (hI.out _).mono ?_; rintro e w' ⟨rfl, hww⟩; obtain rfl := hww.symm)
        go_round
        case rel => exact ⟨k + 1, by omega, by go_num, hj2.out⟩
        case measure => simp [intOf] <;> omega
    · obtain rfl : k = P.length := by omega
      have hE2 := hid (hyes.out hj)
      clear hj hno hyes
      go_wp2
      go_ret
      exact ⟨by rw [hE2.out]; try rfl, rfl⟩
end Go.Proofs.YtifcdojaocndhaaDoor
