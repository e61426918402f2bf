/- Runs compressed: the specification. -/
import Derived.Test.YtghcagibdcblnaaGreatDoorF01
import Derived.OwnWalk
import Derived.Deep.AppendLies
import Derived.Deep.DeepCutAuto
namespace Go.Proofs.YtghcagibdcblnaaGreatDoor
open Go.ChangeShapes Go.WideShapes Go.ChangeAt Go.RowKit
set_option linter.unusedVariables false
set_option linter.unusedSimpArgs false

theorem cmpL_more : ∀ (f g : Nat) (L : List Int), L.length ≤ f → L.length ≤ g → cmpL f L = cmpL g L
  | 0, g, L, hf, _ => by
    obtain rfl : L = [] := List.length_eq_zero_iff.1 (by omega)
    cases g <;> rfl
  | f + 1, g, [], _, _ => by cases g <;> rfl
  | f + 1, g, b :: L, hf, hg => by
    simp only [List.length_cons] at hf hg
    obtain ⟨g, rfl⟩ : ∃ g', g = g' + 1 := ⟨g - 1, by omega⟩
    rw [cmpL_cons, cmpL_cons]
    have hpos : 1 ≤ runH 255 b (b :: L) := runH_pos
    rw [cmpL_more f g ((b :: L).drop (runH 255 b (b :: L))) (by rw [List.length_drop, List.length_cons]; omega) (by rw [List.length_drop, List.length_cons]; omega), cmpL_more f g L (by omega) (by omega)]
    match L, hf, hg with
    | [], _, _ => rfl
    | c :: M, hf, hg =>
      simp only [List.length_cons] at hf hg
      show (if _ then _ else if b = 237 then b :: c :: cmpL f M else _) = (if _ then _ else if b = 237 then b :: c :: cmpL g M else _)
      rw [cmpL_more f g M (by omega) (by omega)]
def cmpE (L : List Int) : List Int := cmpL L.length L
theorem cmpE_nil : cmpE [] = [] := rfl
theorem cmpE_run {b : Int} {L : List Int} (h : 5 ≤ runH 255 b (b :: L) ∨ (b = 237 ∧ 2 ≤ runH 255 b (b :: L))) : cmpE (b :: L) = [237, 237, (runH 255 b (b :: L) : Int), b] ++ cmpE ((b :: L).drop (runH 255 b (b :: L))) := by
  have hpos : 1 ≤ runH 255 b (b :: L) := runH_pos
  show cmpL (L.length + 1) (b :: L) = _
  rw [cmpL_cons, if_pos h]
  unfold cmpE
  rw [cmpL_more L.length ((b :: L).drop (runH 255 b (b :: L))).length _ (by rw [List.length_drop, List.length_cons]; omega) (Nat.le_refl _)]
theorem cmpE_two {c : Int} {M : List Int} (h : ¬ (5 ≤ runH 255 237 (237 :: c :: M) ∨ 2 ≤ runH 255 237 (237 :: c :: M))) : cmpE (237 :: c :: M) = [237, c] ++ cmpE M := by
  show cmpL ((c :: M).length + 1) (237 :: c :: M) = _
  rw [cmpL_cons, if_neg (fun hh => h (by rcases hh with hh | hh; exact .inl hh; exact .inr hh.2)), if_pos rfl]
  unfold cmpE
  show 237 :: c :: cmpL (c :: M).length M = _
  rw [cmpL_more (c :: M).length M.length M (by simp) (Nat.le_refl _)]
  rfl
theorem cmpE_last : cmpE [237] = [237] := by decide
theorem cmpE_one {b : Int} {L : List Int} (h : ¬ 5 ≤ runH 255 b (b :: L)) (hb : b ≠ 237) : cmpE (b :: L) = [b] ++ cmpE L := by
  show cmpL (L.length + 1) (b :: L) = _
  rw [cmpL_cons, if_neg (fun hh => by rcases hh with hh | hh; exact h hh; exact hb hh.1), if_neg hb]
  rfl
theorem cmpE_len (L : List Int) : (cmpE L).length ≤ 2 * L.length := cmp_len _ _
/-- at a place of a text -/
theorem cmpT_run {t : ByteArray} {i : Nat} (hi : i < t.size) (h : 5 ≤ runT t i ∨ (byt t i = 237 ∧ 2 ≤ runT t i)) : cmpE ((bts t).drop i) = [237, 237, (runT t i : Int), byt t i] ++ cmpE ((bts t).drop (i + runT t i)) := by
  have e : runT t i = runH 255 (byt t i) (byt t i :: (bts t).drop (i + 1)) := by unfold runT; rw [bts_drop t hi]
  have h2 : (bts t).drop (i + runT t i) = (byt t i :: (bts t).drop (i + 1)).drop (runT t i) := by rw [← bts_drop t hi, List.drop_drop]
  rw [h2, bts_drop t hi, e]
  rw [e] at h
  exact cmpE_run h
theorem cmpT_one {t : ByteArray} {i : Nat} (hi : i < t.size) (h : ¬ 5 ≤ runT t i) (hb : byt t i ≠ 237) : cmpE ((bts t).drop i) = [byt t i] ++ cmpE ((bts t).drop (i + 1)) := by
  have e : runT t i = runH 255 (byt t i) (byt t i :: (bts t).drop (i + 1)) := by unfold runT; rw [bts_drop t hi]
  rw [bts_drop t hi]
  rw [e] at h
  exact cmpE_one h hb
theorem cmpT_two {t : ByteArray} {i : Nat} (hi : i + 1 < t.size) (hb : byt t i = 237) (h : ¬ 2 ≤ runT t i) : cmpE ((bts t).drop i) = [237, byt t (i + 1)] ++ cmpE ((bts t).drop (i + 1 + 1)) := by
  have e : runT t i = runH 255 (byt t i) (byt t i :: (bts t).drop (i + 1)) := by unfold runT; rw [bts_drop t (by omega)]
  rw [bts_drop t (show i < t.size by omega), bts_drop t hi, hb]
  rw [e, bts_drop t hi, hb] at h
  exact cmpE_two (fun hh => h (by rcases hh with hh | hh <;> omega))
theorem cmpT_last {t : ByteArray} {i : Nat} (hi : i + 1 = t.size) (hb : byt t i = 237) : cmpE ((bts t).drop i) = [237] := by
  rw [bts_drop t (by omega), hb, List.drop_eq_nil_of_le (by rw [bts_len]; omega)]
  exact cmpE_last
/-- a row of bytes that grows -/
structure GrowB (w W : World) (v : Value) (l : List Int) : Prop where
  own : W.ownsRow w.heap.size 5 1 v l.length (l.map (Value.int .u8))
  bel : Below w.heap.size w W
theorem GrowB.form {w W : World} {v : Value} {l : List Int} (h : GrowB w W v l) : ∃ oa cap, v = .slice oa l.length cap := by
  obtain ⟨_, ⟨h1, h0⟩ | ⟨g, cap, _, h1, _⟩⟩ := h.own
  · exact ⟨none, 0, by rw [h1, h0]⟩
  · exact ⟨_, _, h1⟩
theorem GrowB.drewN {w W : World} {v : Value} {l : List Int} (h : GrowB w W v l) (n : Nat) : GrowB w (W.drewN n) v l := ⟨h.own, h.bel.trans ⟨rfl, rfl, rfl, Nat.le_refl _, fun _ _ => rfl⟩⟩
theorem GrowB.app {w W W' : World} {v v' : Value} {l : List Int} {o : Obj} (h : GrowB w W v l) (xs : List Int) (ho : W'.ownsRow w.heap.size 5 1 v' (l.length + xs.length) (l.map (Value.int .u8) ++ xs.map (Value.int .u8))) (hg : (W.alloc o).grownBy W' v.ownBlock) : GrowB w W' v' (l ++ xs) := by
  have hsz := h.bel.size
  refine ⟨by rw [List.length_append, List.map_append]; exact ho, ?_⟩
  exact (h.bel.alloc (by omega) _).grown hg (by simp; omega) (fun g hg => (h.own.lt g hg).1)
theorem GrowB.nil (w : World) : GrowB w (w.alloc (.cells #[] 5)) (.slice (some ⟨w.heap.size, 0, none⟩) 0 0) [] := ⟨World.ownsRow_lit w #[] 0 (Nat.le_refl _) (by decide) rfl, (Below.refl _ _).alloc (Nat.le_refl _) _⟩
set_option maxRecDepth 100000 in
set_option maxHeartbeats 4000000 in
theorem lcmp_spec (t : ByteArray) (w : World) (ht : t.size ≤ 65536) : Calls Tryz.prog 38 #[.string t] w fun e w' => e = .returned (.string (strOfNums (cmpE (bts t)))) ∧ Below w.heap.size w w' := by
  obtain ⟨i0, hi0, hz0, hz1, hz2⟩ := info_parts infoU8
  have hG0 := hid (GrowB.nil w)
  have hRun := hid (fun i W (hi : i < t.size) => lrunt_spec t i W (by omega) hi)
  have hbd := hid (runT_bd t)
  have hc1 := hid (fun i => cmpT_run (t := t) (i := i))
  have hc2 := hid (fun i => cmpT_one (t := t) (i := i))
  have hc3 := hid (fun i => cmpT_two (t := t) (i := i))
  have hc4 := hid (fun i => cmpT_last (t := t) (i := i))
  have hlen : (cmpE (bts t)).length ≤ 131072 := by have := cmpE_len (bts t); rw [bts_len] at this; omega
  have hend : Hid (cmpE ((bts t).drop t.size) = []) := by unfold Hid; rw [List.drop_eq_nil_of_le (by rw [bts_len]; exact Nat.le_refl _)]; rfl
  have hbe : Hid (cmpE (bts t) = cmpE ((bts t).drop 0)) := rfl
  obtain ⟨C, hC⟩ : ∃ C, cmpE (bts t) = C := ⟨_, rfl⟩
  obtain ⟨F, hF⟩ : ∃ F : Nat → List Int, (fun i => cmpE ((bts t).drop i)) = F := ⟨_, rfl⟩
  have hF2 : ∀ i, cmpE ((bts t).drop i) = F i := fun i => by rw [← hF]
  simp only [hF2] at hc1 hc2 hc3 hc4 hend hbe
  rw [hC] at hlen hbe ⊢
  clear hC hF hF2
  go_enter Tryz.func38, Tryz.ntmps38
  go_upto_region 2 with fail
  obtain ⟨W1, hW1⟩ : ∃ W1, w.alloc (.cells #[] 5) = W1 := ⟨_, rfl⟩
  rw [hW1] at hG0 ⊢
  clear hW1
  go_wp2
  go_loopw [3, 4] (fun v iv wr => ∃ (i : Nat) (A : List Int), i ≤ t.size ∧ iv = .int .i64 (i : Int) ∧ GrowB w wr v A ∧ A ++ F i = C) (fun _ iv _ => t.size - (intOf iv).toNat)
  case atStart => exact ⟨0, [], by omega, rfl, hG0.out, hbe.out.symm⟩
  case round =>
    obtain ⟨i, A, hi, rfl, hG, hA⟩ := hrel
    clear hG0 hbe
    have hAl : A.length ≤ 131072 := by
      have : (A ++ F i).length = C.length := by rw [hA]
      rw [List.length_append] at this
      omega
    obtain ⟨oa, ocap, rfl⟩ := hG.form
    obtain ⟨n, hn⟩ : ∃ n, A.length = n := ⟨_, rfl⟩
    rw [hn] at hAl hG ⊢
    by_cases hlt : i < t.size
    · have hx := run_idx t (i : Int) i rfl hlt
      have hby := byt_bd t i
      obtain ⟨hb1, hb2, hb3⟩ := hbd.out i hlt
      have hR := hid (hRun.out i wr hlt)
      have g1 := hid (hc1.out i hlt)
      have g2 := hid (hc2.out i hlt)
      have g3 := hid (fun h => hc3.out i h)
      have g4 := hid (fun h => hc4.out i h)
      obtain ⟨m, hm⟩ : ∃ m, runT t i = m := ⟨_, rfl⟩
      rw [hm] at hb1 hb2 hb3 hR g1 g2 g3
      clear hm hRun hbd hc1 hc2 hc3 hc4
      replace hG := hid hG
      replace hA := hid hA
      go_wp2_with fail
      refine hR.out.mono ?_
      rintro e w2 ⟨rfl, nd, rfl⟩
      have hGd := hG.out.drewN nd
      obtain ⟨W2, hW2⟩ : ∃ W, wr.drewN nd = W := ⟨_, rfl⟩
      rw [hW2] at hGd ⊢
      clear hW2 hG hR
      have own1 := hid hGd.own
      have hba := hGd.bel.size
      rw [hn] at own1
      have hG := hid hGd
      clear hGd
      obtain ⟨B, hB⟩ : ∃ B, byt t i = B := ⟨_, rfl⟩
      rw [hB] at hx hby g1 g2 g3 g4
      clear hB
      by_cases h5 : 5 ≤ m
      · have hgo := hid (g1.out (.inl h5))
        have c5 : (5 : Int) ≤ (m : Int) := by omega
        clear g1 g2 g3 g4
        have happ : Hid (∀ (v' : Value) (w1 : World), w1.ownsRow w.heap.size 5 1 v' (n + 4) (A.map (Value.int .u8) ++ [.int .u8 237, .int .u8 237, .int .u8 (m : Int), .int .u8 B]) → (W2.alloc (.cells #[.int .u8 237, .int .u8 237, .int .u8 (m : Int), .int .u8 B] 5)).grownBy w1 (Value.slice oa n ocap).ownBlock → GrowB w w1 v' (A ++ [237, 237, (m : Int), B])) := fun v' w1 ho hg => hG.out.app [237, 237, (m : Int), B] (by rw [hn]; exact ho) hg
        have hE2 : Hid ((A ++ [237, 237, (m : Int), B]) ++ F (i + m) = C) := by unfold Hid; rw [List.append_assoc, ← hgo.out]; exact hA.out
        have hmw : IntKind.u8.wrap (m : Int) = (m : Int) := by simp [IntKind.wrap, IntKind.signed, IntKind.bits]; omega
        have hmw2 : (m : Int) % 256 = (m : Int) := by omega
        obtain ⟨q, hq⟩ : ∃ q, i + m = q := ⟨_, rfl⟩
        rw [hq] at hE2
        have hqI : (i : Int) + (m : Int) = (q : Int) := by omega
        have hqs : q ≤ t.size := by omega
        have hqw : IntKind.i64.wrap (q : Int) = (q : Int) := by rw [IntKind.wrap_i64]; omega
        have hqi : Hid (i < q) := by unfold Hid; omega
        clear hq
        clear hG hgo hA
        go_wp2_with (at_builtin; refine wpList_append_lies _ rfl _ _ 22 rfl w.heap.size 5 i0 _ 1 1 Tryz.underlying22 hi0 hz0 hz1 hz2 rfl (by omega) _ n (A.map (Value.int .u8)) rfl (own1.out.alloc _) ⟨_, 0, none⟩ 4 4 [.int .u8 237, .int .u8 237, .int .u8 (m : Int), .int .u8 B] rfl rfl (World.news_of_block (cs := #[.int .u8 237, .int .u8 237, .int .u8 (m : Int), .int .u8 B]) (t := 5) (fr := (0, 0)) (heap_alloc_new _ _)) (by simp [Value.oneCell']) (by omega) (by unfold maxLen; omega) (by omega) (by simp; omega) _ rfl ?_; intro gg cap2 w1 ho hg hat hlt3; have hG2 := hid (happ.out _ _ ho hg); clear ho hg hat hlt3 happ own1)
        go_roundw
        case rel => exact ⟨q, A ++ [237, 237, (m : Int), B], by omega, by first | rfl | go_num, hG2.out, hE2.out⟩
        case measure => simp [intOf]; have := hqi.out; omega
      have c5 : ¬ (5 : Int) ≤ (m : Int) := by omega
      by_cases hb : B = 237
      · have hbb : (B == 237) = true := by rw [beq_iff_eq]; exact hb
        by_cases h2 : 2 ≤ m
        · have hgo := hid (g1.out (.inr ⟨hb, h2⟩))
          have c2 : (2 : Int) ≤ (m : Int) := by omega
          clear g1 g2 g3 g4 hb
          have happ : Hid (∀ (v' : Value) (w1 : World), w1.ownsRow w.heap.size 5 1 v' (n + 4) (A.map (Value.int .u8) ++ [.int .u8 237, .int .u8 237, .int .u8 (m : Int), .int .u8 B]) → (W2.alloc (.cells #[.int .u8 237, .int .u8 237, .int .u8 (m : Int), .int .u8 B] 5)).grownBy w1 (Value.slice oa n ocap).ownBlock → GrowB w w1 v' (A ++ [237, 237, (m : Int), B])) := fun v' w1 ho hg => hG.out.app [237, 237, (m : Int), B] (by rw [hn]; exact ho) hg
          have hE2 : Hid ((A ++ [237, 237, (m : Int), B]) ++ F (i + m) = C) := by unfold Hid; rw [List.append_assoc, ← hgo.out]; exact hA.out
          have hmw : IntKind.u8.wrap (m : Int) = (m : Int) := by simp [IntKind.wrap, IntKind.signed, IntKind.bits]; omega
          have hmw2 : (m : Int) % 256 = (m : Int) := by omega
          obtain ⟨q, hq⟩ : ∃ q, i + m = q := ⟨_, rfl⟩
          rw [hq] at hE2
          have hqI : (i : Int) + (m : Int) = (q : Int) := by omega
          have hqs : q ≤ t.size := by omega
          have hqw : IntKind.i64.wrap (q : Int) = (q : Int) := by rw [IntKind.wrap_i64]; omega
          have hqi : Hid (i < q) := by unfold Hid; omega
          clear hq
          clear hG hgo hA
          go_wp2_with (at_builtin; refine wpList_append_lies _ rfl _ _ 22 rfl w.heap.size 5 i0 _ 1 1 Tryz.underlying22 hi0 hz0 hz1 hz2 rfl (by omega) _ n (A.map (Value.int .u8)) rfl (own1.out.alloc _) ⟨_, 0, none⟩ 4 4 [.int .u8 237, .int .u8 237, .int .u8 (m : Int), .int .u8 B] rfl rfl (World.news_of_block (cs := #[.int .u8 237, .int .u8 237, .int .u8 (m : Int), .int .u8 B]) (t := 5) (fr := (0, 0)) (heap_alloc_new _ _)) (by simp [Value.oneCell']) (by omega) (by unfold maxLen; omega) (by omega) (by simp; omega) _ rfl ?_; intro gg cap2 w1 ho hg hat hlt3; have hG2 := hid (happ.out _ _ ho hg); clear ho hg hat hlt3 happ own1)
          go_roundw
          case rel => exact ⟨q, A ++ [237, 237, (m : Int), B], by omega, by first | rfl | go_num, hG2.out, hE2.out⟩
          case measure => simp [intOf]; have := hqi.out; omega
        · have hm1 : Hid (¬ 2 ≤ m) := h2
          have c2 : ¬ (2 : Int) ≤ (m : Int) := by omega
          subst hb
          have happ : Hid (∀ (v' : Value) (w1 : World), w1.ownsRow w.heap.size 5 1 v' (n + 1) (A.map (Value.int .u8) ++ [.int .u8 237]) → (W2.alloc (.cells #[.int .u8 237] 5)).grownBy w1 (Value.slice oa n ocap).ownBlock → GrowB w w1 v' (A ++ [237])) := fun v' w1 ho hg => hG.out.app [237] (by rw [hn]; exact ho) hg
          have hi1 : (i : Int) + 1 - 1 = (i : Int) := by omega
          have hn1 : Hid ((A ++ [237]).length = n + 1) := by unfold Hid; rw [List.length_append, hn]; rfl
          by_cases hl1 : i + 1 < t.size
          · have hgo := hid (g3.out hl1 rfl h2)
            have hx1 := run_idx t ((i : Int) + 1) (i + 1) (by omega) hl1
            have cl : (i : Int) + 1 < (t.size : Int) := by omega
            obtain ⟨D, hD⟩ : ∃ D, byt t (i + 1) = D := ⟨_, rfl⟩
            rw [hD] at hx1 hgo
            have hE2 : Hid (((A ++ [237]) ++ [D]) ++ F (i + 1 + 1) = C) := by
              unfold Hid
              rw [List.append_assoc, List.append_assoc]
              have := hA.out
              rw [hgo.out] at this
              exact this
            clear hG hgo hA g1 g2 g3 g4 hD
            go_upto_region 9 with (at_builtin; refine wpList_append_lies _ rfl _ _ 22 rfl w.heap.size 5 i0 _ 1 1 Tryz.underlying22 hi0 hz0 hz1 hz2 rfl (by omega) _ n (A.map (Value.int .u8)) rfl (own1.out.alloc _) ⟨_, 0, none⟩ 1 1 [.int .u8 237] rfl rfl (World.news_of_block (cs := #[.int .u8 237]) (t := 5) (fr := (0, 0)) (heap_alloc_new _ _)) (by simp [Value.oneCell']) (by omega) (by unfold maxLen; omega) (by omega) (by simp; omega) _ rfl ?_; intro gg cap2 w1 ho hg hat hlt3; have hG2 := hid (happ.out _ _ ho hg); clear ho hg hat hlt3 happ own1)
            have own2 := hid hG2.out.own
            have hba2 := hG2.out.bel.size
            rw [hn1.out] at own2
            have happ2 : Hid (∀ (v' : Value) (w9 : World), w9.ownsRow w.heap.size 5 1 v' (n + 1 + 1) ((A ++ [237]).map (Value.int .u8) ++ [.int .u8 D]) → (w1.alloc (.cells #[.int .u8 D] 5)).grownBy w9 (Value.slice (some ⟨gg, 0, none⟩) (n + 1) cap2).ownBlock → GrowB w w9 v' ((A ++ [237]) ++ [D])) := fun v' w9 ho hg => hG2.out.app [D] (by rw [hn1.out]; exact ho) hg
            generalize A ++ [237] = A2 at *
            clear hG2
            go_wp2_with (at_builtin; refine wpList_append_lies _ rfl _ _ 22 rfl w.heap.size 5 i0 _ 1 1 Tryz.underlying22 hi0 hz0 hz1 hz2 rfl (by omega) _ (n + 1) (A2.map (Value.int .u8)) rfl (own2.out.alloc _) ⟨_, 0, none⟩ 1 1 [.int .u8 D] rfl rfl (World.news_of_block (cs := #[.int .u8 D]) (t := 5) (fr := (0, 0)) (heap_alloc_new _ _)) (by simp [Value.oneCell']) (by omega) (by unfold maxLen; omega) (by omega) (by simp; omega) _ rfl ?_; intro g9 cap9 w9 ho hg hat hlt3; have hG9 := hid (happ2.out _ _ ho hg); clear ho hg hat hlt3 happ2 own2)
            go_roundw
            case rel => exact ⟨i + 1 + 1, A2 ++ [D], by omega, by go_num, hG9.out, hE2.out⟩
            case measure => simp [intOf]; omega
          · have hsz : i + 1 = t.size := by omega
            have hgo := hid (g4.out hsz rfl)
            have cl : ¬ (i : Int) + 1 < (t.size : Int) := by omega
            have hE2 : Hid ((A ++ [237]) ++ F (i + 1) = C) := by
              unfold Hid
              have := hA.out
              rw [hgo.out] at this
              rw [hsz, hend.out, List.append_nil]
              exact this
            replace hsz := hid hsz
            clear hG hgo hA g1 g2 g3 g4
            go_wp2_with (at_builtin; refine wpList_append_lies _ rfl _ _ 22 rfl w.heap.size 5 i0 _ 1 1 Tryz.underlying22 hi0 hz0 hz1 hz2 rfl (by omega) _ n (A.map (Value.int .u8)) rfl (own1.out.alloc _) ⟨_, 0, none⟩ 1 1 [.int .u8 237] rfl rfl (World.news_of_block (cs := #[.int .u8 237]) (t := 5) (fr := (0, 0)) (heap_alloc_new _ _)) (by simp [Value.oneCell']) (by omega) (by unfold maxLen; omega) (by omega) (by simp; omega) _ rfl ?_; intro gg cap2 w1 ho hg hat hlt3; have hG2 := hid (happ.out _ _ ho hg); clear ho hg hat hlt3 happ own1)
            go_roundw
            case rel => exact ⟨i + 1, A ++ [237], by have := hsz.out; omega, by go_num, hG2.out, hE2.out⟩
            case measure => simp [intOf]; have := hsz.out; omega
      · have hbb : (B == 237) = false := by rw [beq_eq_false_iff_ne]; exact hb
        have hgo := hid (g2.out h5 hb)
        clear g1 g2 g3 g4 hb
        have happ : Hid (∀ (v' : Value) (w1 : World), w1.ownsRow w.heap.size 5 1 v' (n + 1) (A.map (Value.int .u8) ++ [.int .u8 B]) → (W2.alloc (.cells #[.int .u8 B] 5)).grownBy w1 (Value.slice oa n ocap).ownBlock → GrowB w w1 v' (A ++ [B])) := fun v' w1 ho hg => hG.out.app [B] (by rw [hn]; exact ho) hg
        have hE2 : Hid ((A ++ [B]) ++ F (i + 1) = C) := by unfold Hid; rw [List.append_assoc, ← hgo.out]; exact hA.out
        have hi1 : (i : Int) + 1 - 1 = (i : Int) := by omega
        clear hG hgo hA
        go_wp2_with (at_builtin; refine wpList_append_lies _ rfl _ _ 22 rfl w.heap.size 5 i0 _ 1 1 Tryz.underlying22 hi0 hz0 hz1 hz2 rfl (by omega) _ n (A.map (Value.int .u8)) rfl (own1.out.alloc _) ⟨_, 0, none⟩ 1 1 [.int .u8 B] rfl rfl (World.news_of_block (cs := #[.int .u8 B]) (t := 5) (fr := (0, 0)) (heap_alloc_new _ _)) (by simp [Value.oneCell']) (by omega) (by unfold maxLen; omega) (by omega) (by simp; omega) _ rfl ?_; intro gg cap2 w1 ho hg hat hlt3; have hG2 := hid (happ.out _ _ ho hg); clear ho hg hat hlt3 happ own1)
        go_roundw
        case rel => exact ⟨i + 1, A ++ [B], by omega, by go_num, hG2.out, hE2.out⟩
        case measure => simp [intOf]; omega
    · obtain rfl : i = t.size := by omega
      have hE : A = C := by rw [hend.out, List.append_nil] at hA; exact hA
      subst hE
      have hcv := own_string (xs := A) hG.own
      try rw [hn] at hcv
      have hBe := hid hG.bel
      clear hRun hbd hc1 hc2 hc3 hc4 hend hG
      go_wp2
      go_ret
      exact ⟨rfl, hBe.out⟩
end Go.Proofs.YtghcagibdcblnaaGreatDoor
