/- A drawn deck is right, in memory of its own. -/
import Derived.Test.YtohnddjijedfkaaDjk
namespace Go.Proofs.Ytohnddjijedfkaa
open Go.ChangeShapes Go.WideShapes Go.ChangeAt Go.RowKit
set_option linter.unusedVariables false
set_option linter.unusedSimpArgs false

theorem ok_stopped {P : List Int} {ix lf : Int} {lv pl : Bool} (h : (Dk.mk P ix lf lv pl).ok = true) : (Dk.mk P ix lf lv false).ok = true := by
  obtain ⟨h1, h2, h3⟩ := (Dk.ok_iff _).1 h
  refine (Dk.ok_iff _).2 ⟨h1, h2, ?_⟩
  rcases h3 with ⟨k1, k2, k3⟩ | h3
  · exact .inl ⟨k1, k2, rfl⟩
  · exact .inr h3
theorem new_plays {T : List Int} (hT : okPl T = true) (h : 0 < T.length) (pl : Bool) : (Dk.mk T 0 (T.getD 0 0) false pl).ok = true := by
  cases pl
  · exact new_ok hT
  · rw [← st0 h]
    exact stD_ok hT (by omega) false
theorem gOfB {w w' : World} (h : Below w.heap.size w w') (r : Option Nat) : w.grownBy w' r := ⟨h.os, h.tape, h.output, h.size, fun k hk _ => h.block k hk⟩
set_option maxRecDepth 100000 in
set_option maxHeartbeats 4000000 in
theorem deck_any (p : Nat) (a0 : Option Addr) (len cap n : Nat) (w : World) (hs : Src w p a0 len cap n) (hn : n ≤ 50000) :
    Calls Try.prog 24 #[.pointer (some ⟨p, 0, none⟩)] w fun e w' => ∃ v D, e = .returned (dkV v D) ∧ D.ok = true ∧ OwnI w.heap.size w' v D.pulses ∧ (∃ n', n' ≤ n + 200 ∧ Src w' p a0 len cap n') ∧ w.grownBy w' (some p) := by
  have hp := hs.lt
  have qR := Blk.new w dkZ 25
  have hs1 := hs.kept (World.grownBy_alloc w (.cells dkZ 25) none) (fun g hg => by cases hg)
  have g1 := World.grownBy_alloc w (.cells dkZ 25) (some p)
  have hz1 : (w.alloc (.cells dkZ 25)).heap.size = w.heap.size + 1 := by simp
  clear hs
  go_enter Try.func24, Try.ntmps24
  go_upto_region 1 with fail
  obtain ⟨V, hV⟩ : ∃ V, w.alloc (.cells #[.slice none 0 0, .int .i64 0, .int .i64 0, .bool false, .bool false] 25) = V := ⟨_, rfl⟩
  rw [hV] at qR hs1 g1 hz1 ⊢
  clear hV
  obtain ⟨R, hR⟩ : ∃ R, w.heap.size = R := ⟨_, rfl⟩
  have hRh : Hid (w.heap.size = R) := hR
  rw [hR] at qR hz1 hp ⊢
  clear hR
  replace qR := hid qR
  replace g1 := hid g1
  replace hz1 := hid hz1
  have hpR : Hid (p < R) := hp
  clear hp
  have hBl := hid (blocks_any p a0 len cap n V hs1 (by omega))
  clear hs1
  go_wp2_with fail
  refine hBl.out.mono ?_
  rintro e w2 ⟨v2, l, rfl, hl3, hokl, hown, hg2, n2, hn2, hs2⟩
  obtain ⟨a2, c2, hv2, hR2⟩ : ∃ a cap, v2 = .slice a l.length cap ∧ BkR w2 a l := (mks_of hown).read
  subst hv2
  obtain ⟨et2, hokT, _, hTl, _⟩ := tape_facts hl3 hokl
  have hsm : ∀ x ∈ l, x.2.size ≤ maxLen := fun x hx => by
    have := ((okB_iff _ _).1 (hokl x hx)).2
    unfold maxLen
    omega
  have hNw := hid (newd_spec a2 c2 l w2 hR2 (by omega) hsm)
  have en : new2 l = (⟨tpN l l.length, 0, (tpN l l.length).getD 0 0, false, false⟩, 0) := by
    rw [new2_ok (by rw [et2]), et2, goto0]
  rw [en] at hNw
  obtain ⟨T, hT⟩ : ∃ T, tpN l l.length = T := ⟨_, rfl⟩
  rw [hT] at hNw hokT hTl
  have qR2 := hid (qR.out.grown hg2 (by have := hpR.out; simp; omega))
  have g2 := hid (gtrans g1.out hg2)
  have hz2 : Hid (R + 1 ≤ w2.heap.size) := by have := hg2.size; have := hz1.out; unfold Hid; omega
  have hnp := hid (new_plays hokT)
  have hn0 := hid (new_ok hokT)
  obtain ⟨T0, hT0⟩ : ∃ T0, T.getD 0 0 = T0 := ⟨_, rfl⟩
  rw [hT0] at hNw hnp hn0
  replace hs2 := hid hs2
  clear hBl hown hg2 hR2 et2 hT hT0 en hsm hokl hokT qR g1 hz1
  go_wp2_with fail
  refine hNw.out.mono ?_
  rintro e w3 ⟨v3, rfl, hG⟩
  obtain ⟨a3, c3, rfl⟩ := hG.form
  have hlw : w2.heap.size ≤ w3.heap.size := hG.bel.size
  have hal : Below w3.heap.size w3 (w3.alloc (.cells #[.slice a3 T.length c3, .int .i64 0, .int .i64 T0, .bool false, .bool false] 25)) := (Below.refl _ _).alloc (Nat.le_refl _) _
  have hb23 := new_trans hG.bel hal
  have q3 := hid (Blk.new w3 #[.slice a3 T.length c3, .int .i64 0, .int .i64 T0, .bool false, .bool false] 25)
  have qR3 := hid (qR2.out.below hb23 qR2.out.lt)
  have hs3 := hid (hs2.out.kept (gOfB hb23 none) (fun g e => by cases e))
  have g3 := hid (gtrans g2.out (gOfB hb23 (some p)))
  have rr3 := hid ((OwnI.of hG).read.below hal)
  have ap := hid (hG.apart (b := p) (fun e => by have := (hG.own.lt p e).1; have := hz2.out; have := hpR.out; omega))
  have ap3 := hid (hG.apart (b := w3.heap.size) (fun e => by have := (hG.own.lt _ e).2; omega))
  have hz3 : Hid (R + 1 ≤ w3.heap.size) := by have := hz2.out; unfold Hid; omega
  clear hG hal hb23 hs2 qR2 g2 hNw hlw hz2
  obtain ⟨b3, hb3⟩ : ∃ b, w3.heap.size = b := ⟨_, rfl⟩
  obtain ⟨V3, hV3⟩ : ∃ W, w3.alloc (.cells #[.slice a3 T.length c3, .int .i64 0, .int .i64 T0, .bool false, .bool false] 25) = W := ⟨_, rfl⟩
  rw [hV3] at q3 qR3 hs3 g3 rr3
  rw [hb3] at q3 hz3 ap3
  replace hV3 := hid hV3
  go_upto_region 2 with fail
  (try rw [hb3])
  rw [hV3.out]
  clear hb3 hV3
  have hb3p : Hid (b3 ≠ p ∧ R ≠ b3 ∧ p < b3) := ⟨by have := hz3.out; have := hpR.out; omega, by have := hz3.out; omega, by have := hz3.out; have := hpR.out; omega⟩
  have key : Hid (∀ (W : World) (n4 : Nat) (PL : Bool), n4 ≤ n2 + 3 → Src W p a0 len cap n4 → V3.grownBy W (some p) → Blk (W.setCell ⟨b3, 4, none⟩ (.bool PL)) b3 #[.slice a3 T.length c3, .int .i64 0, .int .i64 T0, .bool false, .bool PL] ∧ Blk (W.setCell ⟨b3, 4, none⟩ (.bool PL)) R dkZ ∧ Src (W.setCell ⟨b3, 4, none⟩ (.bool PL)) p a0 len cap n4 ∧ w.grownBy (W.setCell ⟨b3, 4, none⟩ (.bool PL)) (some p) ∧ RowR (W.setCell ⟨b3, 4, none⟩ (.bool PL)) (.slice a3 T.length c3) T ∧ R < (W.setCell ⟨b3, 4, none⟩ (.bool PL)).heap.size) := fun W n4 PL h4 hs4 hg4 => by
    have gs : W.grownBy (W.setCell ⟨b3, 4, none⟩ (.bool PL)) (some b3) := grown_set1 (World.grownBy.refl W (some b3))
    have qb := (q3.out.grown hg4 (by simpa using hb3p.out.1)).set 4 (.bool PL)
    have qr := (qR3.out.grown hg4 (by have := hpR.out; simp; omega)).other (p := ⟨b3, 4, none⟩) hb3p.out.2.1 (.bool PL)
    have hrr : RowR W (.slice a3 T.length c3) T := rr3.out.apart hg4 ap.out
    refine ⟨qb, qr, hs4.kept gs (fun g e => by cases e; exact hb3p.out.2.2), ?_, ?_, qr.lt⟩
    · have g4 := gtrans g3.out hg4
      refine ⟨gs.os.trans g4.os, gs.tape.trans g4.tape, gs.output.trans g4.output, Nat.le_trans g4.size gs.size, fun k hk hne => ?_⟩
      rw [gs.block k (Nat.lt_of_lt_of_le hk g4.size) (by have := hz3.out; have := hRh.out; simp; omega)]
      exact g4.block k hk hne
    · refine ⟨a3, c3, rfl, ?_⟩
      by_cases h0 : 0 < T.length
      · obtain ⟨g, off, rfl, hc⟩ := hrr.at h0
        refine .inr ⟨g, off, rfl, fun i hi => ?_⟩
        obtain ⟨g', off', e, hc⟩ := hrr.at hi
        cases e
        have hgb : g ≠ b3 := ap3.out h0 g off rfl
        rw [World.cell?_of_block (a := ⟨g, off + i, none⟩) (Below.heap_setCell _ _ _ _ hgb)]
        exact hc
      · exact .inl (List.length_eq_zero_iff.1 (by omega))
  have h00 : Hid (T.length = 0) ∨ Hid (0 < T.length) := by
    rcases Nat.eq_zero_or_pos T.length with h | h
    · exact .inl h
    · exact .inr h
  rcases h00 with h0 | h0
  · have kk := key.out V3 n2 false (by omega) hs3.out (World.grownBy.refl _ _)
    have hTd : ¬ (0 : Int) < (T.length : Int) := by have := h0.out; omega
    obtain ⟨n4, hn4⟩ : ∃ n4, n2 = n4 := ⟨_, rfl⟩
    have hn4b : n4 ≤ n + 84 := by omega
    rw [hn4] at kk
    clear hn4
    have hokD := hn0
    have x3 := q3.out.cell
    have f3 := q3.out.frozen
    have l3 := q3.out.lt
    clear key q3 qR3 hs3 g3 rr3
    go_upto_region 3 with fail
    obtain ⟨W4, hW4⟩ : ∃ W, V3.setCell ⟨b3, 4, none⟩ (.bool false) = W := ⟨_, rfl⟩
    rw [hW4] at kk ⊢
    clear hW4 x3 f3 l3
    obtain ⟨q4, qR4, hs4, g4, rr4, hR4⟩ := kk
    have hs4d := hid (hs4.kept (r := none) (w' := W4.drew) ⟨rfl, rfl, rfl, Nat.le_refl _, fun _ _ _ => rfl⟩ (fun g e => by cases e))
    have rr4h := hid rr4
    have g4h := hid g4
    have qR4h := hid qR4
    have hpW : p < W4.heap.size := by have := hpR.out; omega
    refine dj_reg _ W4 _ p a0 len cap n4 b3 a3 c3 ⟨T, 0, T0, false, false⟩ rfl rfl q4 rr4 ap.out hb3p.out.1 hokD.out hpW (by omega) hs4d.out (by simp) ?_
    clear hs4 rr4 g4 qR4 q4 hs4d
    intro w5 e5 ⟨⟨n5, hn5, hs5⟩, g5, ht, hb5, q5⟩
    simp only [putsA, Act.put, List.setIfInBounds_toArray, List.set_cons_zero, List.set_cons_succ]
    obtain ⟨t, b5⟩ := e5
    have hr0 := runD_ok (T.length + 1) ⟨T, 0, T0, false, false⟩ t 0 hokD.out
    have hr1 : (run2 ⟨T, 0, T0, false, false⟩ t).1.ok = true := hr0.1
    have hr2 : (run2 ⟨T, 0, T0, false, false⟩ t).1.pulses = T := hr0.2.1
    dsimp only at hb5 q5 ⊢
    obtain ⟨⟨⟨P5, I, L, V1, L1⟩, E1⟩, hE⟩ : ∃ x, run2 ⟨T, 0, T0, false, false⟩ t = x := ⟨_, rfl⟩
    rw [hE] at hr1 hr2 q5 ⊢
    obtain rfl : P5 = T := hr2
    dsimp only at q5 ⊢
    have rr5 := hid (rr4h.out.apart g5 ap.out)
    have qR5 := hid (qR4h.out.grown g5 (by have := hpR.out; simp; omega))
    have g5w := hid (gtrans g4h.out g5)
    have hb5R : Hid (R < b5 ∧ p < b5) := ⟨by omega, by omega⟩
    have ap5 : Hid (Apart a3 P5.length b5) := fun h0 g o e => by
      obtain ⟨g', o', e', hc⟩ := rr4h.out.at h0
      rw [e] at e'
      cases e'
      have := World.block_lt_of_cell? _ _ hc
      have : g < W4.heap.size := this
      omega
    replace hr1 := hid hr1
    replace q5 := hid q5
    replace hs5 := hid hs5
    clear hr0 hE ht rr4h qR4h g4h g5
    have hCh := hid (chanceD p a0 len cap n5 3 w5 hs5.out (by omega) (by omega) (by omega))
    go_wp2_with fail
    refine hCh.out.mono ?_
    rintro e w6 ⟨⟨cb, rfl⟩, ⟨n6, hn6, hs6⟩, hg6⟩
    have q6 := q5.out.grown hg6 (by have := hb5R.out; simp; omega)
    have qR6 := hid (qR5.out.grown hg6 (by have := hpR.out; simp; omega))
    have rr6 := hid (rr5.out.apart hg6 ap.out)
    have g6 := hid (gtrans g5w.out hg6)
    replace hs6 := hid hs6
    clear hCh hg6 rr5 qR5 g5w q5 hs5
    have fin : Hid (∀ (W : World) (LL : Bool), w6.grownBy W (some b5) → Blk W b5 #[.slice a3 P5.length c3, .int .i64 I, .int .i64 L, .bool V1, .bool LL] → Blk W R dkZ ∧ RowR W (.slice a3 P5.length c3) P5 ∧ Src W p a0 len cap n6 ∧ w.grownBy W (some p)) := fun W LL hg hq => by
      refine ⟨qR6.out.grown hg (by have := hb5R.out; simp; omega), ?_, hs6.out.kept hg (fun g e => by cases e; exact hb5R.out.2), ?_⟩
      · exact rr6.out.apart hg ap5.out
      · refine ⟨hg.os.trans g6.out.os, hg.tape.trans g6.out.tape, hg.output.trans g6.out.output, Nat.le_trans g6.out.size hg.size, fun k hk hne => ?_⟩
        rw [hg.block k (Nat.lt_of_lt_of_le hk g6.out.size) (by have := hb5R.out; have := hRh.out; simp; omega)]
        exact g6.out.block k hk hne
    cases cb
    · obtain ⟨z1, z2, z3, z4⟩ := fin.out w6 L1 (World.grownBy.refl _ _) q6
      have hDok := hid hr1.out
      have x6 := q6.cell
      replace z1 := hid z1
      replace z2 := hid z2
      replace z3 := hid z3
      replace z4 := hid z4
      clear fin q6 qR6 rr6 g6 hs6
      go_wp2_with fail
      refine (own_spec a3 c3 ⟨P5, I, L, V1, L1⟩ w6 z2.out (show P5.length ≤ 1048576 by omega)).mono ?_
      rintro e w8 ⟨v8, rfl, hG⟩
      obtain ⟨a8, c8, rfl⟩ := hG.form
      have qR8 := z1.out.below hG.bel z1.out.lt
      have o8 := OwnI.of hG
      have hR8 : R < w6.heap.size := z1.out.lt
      have x9 := (lay5_blk qR8 rfl (.slice a8 P5.length c8) I L V1 L1).cell
      dsimp only [lay5] at x9
      replace x9 := hid x9
      have gl := lay5_grown w8 R (.slice a8 P5.length c8) I L V1 L1
      have o9 : Hid (OwnI w.heap.size (lay5 w8 R (.slice a8 P5.length c8) I L V1 L1) (.slice a8 P5.length c8) P5) := by
        rcases o8 with h | ⟨g, hg, h⟩
        · exact .inl h
        · exact .inr ⟨g, by have := z4.out.size; omega, h.kept (lay5_heap _ _ _ _ _ _ _ (by omega))⟩
      have s9 : Hid (Src (lay5 w8 R (.slice a8 P5.length c8) I L V1 L1) p a0 len cap n6) := (z3.out.kept (gOfB hG.bel none) (fun g e => by cases e)).kept gl (fun g e => by cases e; exact hpR.out)
      have g9 : Hid (w.grownBy (lay5 w8 R (.slice a8 P5.length c8) I L V1 L1) (some p)) := by
        have g8 := gtrans z4.out (gOfB hG.bel (some p))
        refine ⟨gl.os.trans g8.os, gl.tape.trans g8.tape, gl.output.trans g8.output, Nat.le_trans g8.size gl.size, fun k hk hne => ?_⟩
        rw [gl.block k (Nat.lt_of_lt_of_le hk g8.size) (by have := hRh.out; simp; omega)]
        exact g8.block k hk hne
      dsimp only [lay5] at o9 s9 g9
      have xR := qR8.cell
      have fR := qR8.frozen
      have lR := qR8.lt
      clear hG qR8 o8 gl z1 z2 z3 z4 x6
      go_wp2
      have x10 := x9.out
      exact bodyPost_ret (v := .agg #[.slice a8 P5.length c8, .int .i64 I, .int .i64 L, .bool V1, .bool L1]) (by simp [results, Try.results24, go_sem, x10]; try rfl) rfl ⟨_, ⟨P5, I, L, V1, L1⟩, rfl, hDok.out, o9.out, ⟨n6, by omega, s9.out⟩, g9.out⟩
    · have gs : w6.grownBy (w6.setCell ⟨b5, 4, none⟩ (.bool false)) (some b5) := grown_set1 (World.grownBy.refl w6 (some b5))
      have q7 : Blk (w6.setCell ⟨b5, 4, none⟩ (.bool false)) b5 #[.slice a3 P5.length c3, .int .i64 I, .int .i64 L, .bool V1, .bool false] := q6.set 4 (.bool false)
      obtain ⟨z1, z2, z3, z4⟩ := fin.out _ false gs q7
      have hDok := hid (ok_stopped hr1.out)
      have x6 := q6.cell
      have f6 := q6.frozen
      have l6 := q6.lt
      replace q7 := hid q7
      replace z1 := hid z1
      replace z2 := hid z2
      replace z3 := hid z3
      replace z4 := hid z4
      clear fin q6 qR6 rr6 g6 hs6 gs
      go_upto_region 6 with fail
      obtain ⟨W7, hW7⟩ : ∃ W, w6.setCell ⟨b5, 4, none⟩ (.bool false) = W := ⟨_, rfl⟩
      rw [hW7] at q7 z1 z2 z3 z4 ⊢
      clear hW7 x6 f6 l6
      have x6 := q7.out.cell
      go_wp2_with fail
      refine (own_spec a3 c3 ⟨P5, I, L, V1, false⟩ W7 z2.out (show P5.length ≤ 1048576 by omega)).mono ?_
      rintro e w8 ⟨v8, rfl, hG⟩
      obtain ⟨a8, c8, rfl⟩ := hG.form
      have qR8 := z1.out.below hG.bel z1.out.lt
      have o8 := OwnI.of hG
      have hR8 : R < W7.heap.size := z1.out.lt
      have x9 := (lay5_blk qR8 rfl (.slice a8 P5.length c8) I L V1 false).cell
      dsimp only [lay5] at x9
      replace x9 := hid x9
      have gl := lay5_grown w8 R (.slice a8 P5.length c8) I L V1 false
      have o9 : Hid (OwnI w.heap.size (lay5 w8 R (.slice a8 P5.length c8) I L V1 false) (.slice a8 P5.length c8) P5) := by
        rcases o8 with h | ⟨g, hg, h⟩
        · exact .inl h
        · exact .inr ⟨g, by have := z4.out.size; omega, h.kept (lay5_heap _ _ _ _ _ _ _ (by omega))⟩
      have s9 : Hid (Src (lay5 w8 R (.slice a8 P5.length c8) I L V1 false) p a0 len cap n6) := (z3.out.kept (gOfB hG.bel none) (fun g e => by cases e)).kept gl (fun g e => by cases e; exact hpR.out)
      have g9 : Hid (w.grownBy (lay5 w8 R (.slice a8 P5.length c8) I L V1 false) (some p)) := by
        have g8 := gtrans z4.out (gOfB hG.bel (some p))
        refine ⟨gl.os.trans g8.os, gl.tape.trans g8.tape, gl.output.trans g8.output, Nat.le_trans g8.size gl.size, fun k hk hne => ?_⟩
        rw [gl.block k (Nat.lt_of_lt_of_le hk g8.size) (by have := hRh.out; simp; omega)]
        exact g8.block k hk hne
      dsimp only [lay5] at o9 s9 g9
      have xR := qR8.cell
      have fR := qR8.frozen
      have lR := qR8.lt
      clear hG qR8 o8 gl z1 z2 z3 z4 x6
      go_wp2
      have x10 := x9.out
      exact bodyPost_ret (v := .agg #[.slice a8 P5.length c8, .int .i64 I, .int .i64 L, .bool V1, .bool false]) (by simp [results, Try.results24, go_sem, x10]; try rfl) rfl ⟨_, ⟨P5, I, L, V1, false⟩, rfl, hDok.out, o9.out, ⟨n6, by omega, s9.out⟩, g9.out⟩
  · have hTd : (0 : Int) < (T.length : Int) := by have := h0.out; omega
    have x3 := q3.out.cell
    have hCh := hid (chanceD p a0 len cap n2 2 V3 hs3.out (by omega) (by omega) (by omega))
    go_wp2_with fail
    refine hCh.out.mono ?_
    rintro e w4 ⟨⟨PL, rfl⟩, ⟨n4, hn4, hs4⟩, hg4⟩
    have kk := key.out w4 n4 PL hn4 hs4 hg4
    have hn4b : n4 ≤ n + 87 := by omega
    have hokD := hid (hnp.out h0.out PL)
    have q4' := q3.out.grown hg4 (by simpa using hb3p.out.1)
    clear x3
    have x3 := q4'.cell
    have f3 := q4'.frozen
    have l3 := q4'.lt
    clear key q3 qR3 hs3 g3 rr3 hCh hs4 hg4 q4'
    go_upto_region 3 with fail
    obtain ⟨W4, hW4⟩ : ∃ W, w4.setCell ⟨b3, 4, none⟩ (.bool PL) = W := ⟨_, rfl⟩
    rw [hW4] at kk ⊢
    clear hW4 x3 f3 l3
    obtain ⟨q4, qR4, hs4, g4, rr4, hR4⟩ := kk
    have hs4d := hid (hs4.kept (r := none) (w' := W4.drew) ⟨rfl, rfl, rfl, Nat.le_refl _, fun _ _ _ => rfl⟩ (fun g e => by cases e))
    have rr4h := hid rr4
    have g4h := hid g4
    have qR4h := hid qR4
    have hpW : p < W4.heap.size := by have := hpR.out; omega
    refine dj_reg _ W4 _ p a0 len cap n4 b3 a3 c3 ⟨T, 0, T0, false, PL⟩ rfl rfl q4 rr4 ap.out hb3p.out.1 hokD.out hpW (by omega) hs4d.out (by simp) ?_
    clear hs4 rr4 g4 qR4 q4 hs4d
    intro w5 e5 ⟨⟨n5, hn5, hs5⟩, g5, ht, hb5, q5⟩
    simp only [putsA, Act.put, List.setIfInBounds_toArray, List.set_cons_zero, List.set_cons_succ]
    obtain ⟨t, b5⟩ := e5
    have hr0 := runD_ok (T.length + 1) ⟨T, 0, T0, false, PL⟩ t 0 hokD.out
    have hr1 : (run2 ⟨T, 0, T0, false, PL⟩ t).1.ok = true := hr0.1
    have hr2 : (run2 ⟨T, 0, T0, false, PL⟩ t).1.pulses = T := hr0.2.1
    dsimp only at hb5 q5 ⊢
    obtain ⟨⟨⟨P5, I, L, V1, L1⟩, E1⟩, hE⟩ : ∃ x, run2 ⟨T, 0, T0, false, PL⟩ t = x := ⟨_, rfl⟩
    rw [hE] at hr1 hr2 q5 ⊢
    obtain rfl : P5 = T := hr2
    dsimp only at q5 ⊢
    have rr5 := hid (rr4h.out.apart g5 ap.out)
    have qR5 := hid (qR4h.out.grown g5 (by have := hpR.out; simp; omega))
    have g5w := hid (gtrans g4h.out g5)
    have hb5R : Hid (R < b5 ∧ p < b5) := ⟨by omega, by omega⟩
    have ap5 : Hid (Apart a3 P5.length b5) := fun h0 g o e => by
      obtain ⟨g', o', e', hc⟩ := rr4h.out.at h0
      rw [e] at e'
      cases e'
      have := World.block_lt_of_cell? _ _ hc
      have : g < W4.heap.size := this
      omega
    replace hr1 := hid hr1
    replace q5 := hid q5
    replace hs5 := hid hs5
    clear hr0 hE ht rr4h qR4h g4h g5
    have hCh := hid (chanceD p a0 len cap n5 3 w5 hs5.out (by omega) (by omega) (by omega))
    go_wp2_with fail
    refine hCh.out.mono ?_
    rintro e w6 ⟨⟨cb, rfl⟩, ⟨n6, hn6, hs6⟩, hg6⟩
    have q6 := q5.out.grown hg6 (by have := hb5R.out; simp; omega)
    have qR6 := hid (qR5.out.grown hg6 (by have := hpR.out; simp; omega))
    have rr6 := hid (rr5.out.apart hg6 ap.out)
    have g6 := hid (gtrans g5w.out hg6)
    replace hs6 := hid hs6
    clear hCh hg6 rr5 qR5 g5w q5 hs5
    have fin : Hid (∀ (W : World) (LL : Bool), w6.grownBy W (some b5) → Blk W b5 #[.slice a3 P5.length c3, .int .i64 I, .int .i64 L, .bool V1, .bool LL] → Blk W R dkZ ∧ RowR W (.slice a3 P5.length c3) P5 ∧ Src W p a0 len cap n6 ∧ w.grownBy W (some p)) := fun W LL hg hq => by
      refine ⟨qR6.out.grown hg (by have := hb5R.out; simp; omega), ?_, hs6.out.kept hg (fun g e => by cases e; exact hb5R.out.2), ?_⟩
      · exact rr6.out.apart hg ap5.out
      · refine ⟨hg.os.trans g6.out.os, hg.tape.trans g6.out.tape, hg.output.trans g6.out.output, Nat.le_trans g6.out.size hg.size, fun k hk hne => ?_⟩
        rw [hg.block k (Nat.lt_of_lt_of_le hk g6.out.size) (by have := hb5R.out; have := hRh.out; simp; omega)]
        exact g6.out.block k hk hne
    cases cb
    · obtain ⟨z1, z2, z3, z4⟩ := fin.out w6 L1 (World.grownBy.refl _ _) q6
      have hDok := hid hr1.out
      have x6 := q6.cell
      replace z1 := hid z1
      replace z2 := hid z2
      replace z3 := hid z3
      replace z4 := hid z4
      clear fin q6 qR6 rr6 g6 hs6
      go_wp2_with fail
      refine (own_spec a3 c3 ⟨P5, I, L, V1, L1⟩ w6 z2.out (show P5.length ≤ 1048576 by omega)).mono ?_
      rintro e w8 ⟨v8, rfl, hG⟩
      obtain ⟨a8, c8, rfl⟩ := hG.form
      have qR8 := z1.out.below hG.bel z1.out.lt
      have o8 := OwnI.of hG
      have hR8 : R < w6.heap.size := z1.out.lt
      have x9 := (lay5_blk qR8 rfl (.slice a8 P5.length c8) I L V1 L1).cell
      dsimp only [lay5] at x9
      replace x9 := hid x9
      have gl := lay5_grown w8 R (.slice a8 P5.length c8) I L V1 L1
      have o9 : Hid (OwnI w.heap.size (lay5 w8 R (.slice a8 P5.length c8) I L V1 L1) (.slice a8 P5.length c8) P5) := by
        rcases o8 with h | ⟨g, hg, h⟩
        · exact .inl h
        · exact .inr ⟨g, by have := z4.out.size; omega, h.kept (lay5_heap _ _ _ _ _ _ _ (by omega))⟩
      have s9 : Hid (Src (lay5 w8 R (.slice a8 P5.length c8) I L V1 L1) p a0 len cap n6) := (z3.out.kept (gOfB hG.bel none) (fun g e => by cases e)).kept gl (fun g e => by cases e; exact hpR.out)
      have g9 : Hid (w.grownBy (lay5 w8 R (.slice a8 P5.length c8) I L V1 L1) (some p)) := by
        have g8 := gtrans z4.out (gOfB hG.bel (some p))
        refine ⟨gl.os.trans g8.os, gl.tape.trans g8.tape, gl.output.trans g8.output, Nat.le_trans g8.size gl.size, fun k hk hne => ?_⟩
        rw [gl.block k (Nat.lt_of_lt_of_le hk g8.size) (by have := hRh.out; simp; omega)]
        exact g8.block k hk hne
      dsimp only [lay5] at o9 s9 g9
      have xR := qR8.cell
      have fR := qR8.frozen
      have lR := qR8.lt
      clear hG qR8 o8 gl z1 z2 z3 z4 x6
      go_wp2
      have x10 := x9.out
      exact bodyPost_ret (v := .agg #[.slice a8 P5.length c8, .int .i64 I, .int .i64 L, .bool V1, .bool L1]) (by simp [results, Try.results24, go_sem, x10]; try rfl) rfl ⟨_, ⟨P5, I, L, V1, L1⟩, rfl, hDok.out, o9.out, ⟨n6, by omega, s9.out⟩, g9.out⟩
    · have gs : w6.grownBy (w6.setCell ⟨b5, 4, none⟩ (.bool false)) (some b5) := grown_set1 (World.grownBy.refl w6 (some b5))
      have q7 : Blk (w6.setCell ⟨b5, 4, none⟩ (.bool false)) b5 #[.slice a3 P5.length c3, .int .i64 I, .int .i64 L, .bool V1, .bool false] := q6.set 4 (.bool false)
      obtain ⟨z1, z2, z3, z4⟩ := fin.out _ false gs q7
      have hDok := hid (ok_stopped hr1.out)
      have x6 := q6.cell
      have f6 := q6.frozen
      have l6 := q6.lt
      replace q7 := hid q7
      replace z1 := hid z1
      replace z2 := hid z2
      replace z3 := hid z3
      replace z4 := hid z4
      clear fin q6 qR6 rr6 g6 hs6 gs
      go_upto_region 6 with fail
      obtain ⟨W7, hW7⟩ : ∃ W, w6.setCell ⟨b5, 4, none⟩ (.bool false) = W := ⟨_, rfl⟩
      rw [hW7] at q7 z1 z2 z3 z4 ⊢
      clear hW7 x6 f6 l6
      have x6 := q7.out.cell
      go_wp2_with fail
      refine (own_spec a3 c3 ⟨P5, I, L, V1, false⟩ W7 z2.out (show P5.length ≤ 1048576 by omega)).mono ?_
      rintro e w8 ⟨v8, rfl, hG⟩
      obtain ⟨a8, c8, rfl⟩ := hG.form
      have qR8 := z1.out.below hG.bel z1.out.lt
      have o8 := OwnI.of hG
      have hR8 : R < W7.heap.size := z1.out.lt
      have x9 := (lay5_blk qR8 rfl (.slice a8 P5.length c8) I L V1 false).cell
      dsimp only [lay5] at x9
      replace x9 := hid x9
      have gl := lay5_grown w8 R (.slice a8 P5.length c8) I L V1 false
      have o9 : Hid (OwnI w.heap.size (lay5 w8 R (.slice a8 P5.length c8) I L V1 false) (.slice a8 P5.length c8) P5) := by
        rcases o8 with h | ⟨g, hg, h⟩
        · exact .inl h
        · exact .inr ⟨g, by have := z4.out.size; omega, h.kept (lay5_heap _ _ _ _ _ _ _ (by omega))⟩
      have s9 : Hid (Src (lay5 w8 R (.slice a8 P5.length c8) I L V1 false) p a0 len cap n6) := (z3.out.kept (gOfB hG.bel none) (fun g e => by cases e)).kept gl (fun g e => by cases e; exact hpR.out)
      have g9 : Hid (w.grownBy (lay5 w8 R (.slice a8 P5.length c8) I L V1 false) (some p)) := by
        have g8 := gtrans z4.out (gOfB hG.bel (some p))
        refine ⟨gl.os.trans g8.os, gl.tape.trans g8.tape, gl.output.trans g8.output, Nat.le_trans g8.size gl.size, fun k hk hne => ?_⟩
        rw [gl.block k (Nat.lt_of_lt_of_le hk g8.size) (by have := hRh.out; simp; omega)]
        exact g8.block k hk hne
      dsimp only [lay5] at o9 s9 g9
      have xR := qR8.cell
      have fR := qR8.frozen
      have lR := qR8.lt
      clear hG qR8 o8 gl z1 z2 z3 z4 x6
      go_wp2
      have x10 := x9.out
      exact bodyPost_ret (v := .agg #[.slice a8 P5.length c8, .int .i64 I, .int .i64 L, .bool V1, .bool false]) (by simp [results, Try.results24, go_sem, x10]; try rfl) rfl ⟨_, ⟨P5, I, L, V1, false⟩, rfl, hDok.out, o9.out, ⟨n6, by omega, s9.out⟩, g9.out⟩
set_option maxRecDepth 100000 in
set_option maxHeartbeats 1000000 in
theorem deckdrawn_any (a : Option Addr) (len cap : Nat) (w : World) (hc : CodeAt w w.heap.size a len) (hl : len ≤ 1048576) :
    Calls Try.prog 7 #[.slice a len cap] w fun e w' => ∃ v D, e = .returned (dkV v D) ∧ D.ok = true ∧ OwnI w.heap.size w' v D.pulses ∧ Below w.heap.size w w' := by
  have q0 := Blk.new w dkZ 25
  have hB := (Below.refl w.heap.size w).alloc (Nat.le_refl _) (.cells dkZ 25)
  have hc1 := hc.below hB hB.size
  have hS := hid (source_any a len cap _ hc1 hl)
  clear hc hc1
  go_enter Try.func7, Try.ntmps7
  go_upto_region 1 with fail
  obtain ⟨V, hV⟩ : ∃ V, w.alloc (.cells #[.slice none 0 0, .int .i64 0, .int .i64 0, .bool false, .bool false] 25) = V := ⟨_, rfl⟩
  rw [hV] at q0 hB hS ⊢
  clear hV
  obtain ⟨R, hR⟩ : ∃ R, w.heap.size = R := ⟨_, rfl⟩
  have hRh : Hid (w.heap.size = R) := hR
  have hB' : Hid (Below w.heap.size w V) := hB
  rw [hR] at q0 ⊢
  clear hR hB
  replace q0 := hid q0
  go_wp2_with fail
  refine hS.out.mono ?_
  rintro e w1 ⟨rfl, hs1, hg1⟩
  have hD := hid (deck_any V.heap.size a len cap 0 w1 hs1 (by omega))
  have q1 := hid (q0.out.grown hg1 (by simp))
  have B1 : Hid (Below w.heap.size w w1) := hB'.out.trans ⟨hg1.os, hg1.tape, hg1.output, hg1.size, fun k hk => hg1.block k (by have := hB'.out.size; omega) (by simp)⟩
  have hVR : Hid (R < V.heap.size ∧ V.heap.size ≤ w1.heap.size) := ⟨q0.out.lt, hg1.size⟩
  clear hS hs1 hg1 q0 hB'
  obtain ⟨pp, hpp⟩ : ∃ b, V.heap.size = b := ⟨_, rfl⟩
  rw [hpp] at hD hVR ⊢
  clear hpp
  go_wp2_with fail
  refine hD.out.mono ?_
  rintro e w2 ⟨v2, ⟨P, ix, lf, lv, pl⟩, rfl, hok, hO, _, hg2⟩
  obtain ⟨a2, c2, rfl⟩ := hO.form
  have q2 := q1.out.grown hg2 (by have := hVR.out; simp; omega)
  have B2 : Below w.heap.size w w2 := B1.out.grown hg2 B1.out.size (fun b e => by cases e; have := hVR.out; have := hRh.out; omega)
  have x8 := (lay5_blk q2 rfl (.slice a2 P.length c2) ix lf lv pl).cell
  dsimp only [lay5] at x8
  replace x8 := hid x8
  have o9 : Hid (OwnI w.heap.size (lay5 w2 R (.slice a2 P.length c2) ix lf lv pl) (.slice a2 P.length c2) P) := by
    rcases hO with h | ⟨g, hg, h⟩
    · exact .inl h
    · exact .inr ⟨g, by have := hVR.out; have := hRh.out; omega, h.kept (lay5_heap _ _ _ _ _ _ _ (by have := hVR.out; omega))⟩
  have b9 := hid (lay5_below B2 (b := R) (by have := hRh.out; omega) (.slice a2 P.length c2) ix lf lv pl)
  dsimp only [lay5] at o9 b9
  have xR := q2.cell
  have fR := q2.frozen
  have lR := q2.lt
  replace hok := hid hok
  clear q2 B2 hO hg2 q1 B1 hD
  go_wp2
  have x9 := x8.out
  exact bodyPost_ret (v := .agg #[.slice a2 P.length c2, .int .i64 ix, .int .i64 lf, .bool lv, .bool pl]) (by simp [results, Try.results7, go_sem, x9]; try rfl) rfl ⟨_, ⟨P, ix, lf, lv, pl⟩, rfl, hok.out, o9.out, b9.out⟩
end Go.Proofs.Ytohnddjijedfkaa
