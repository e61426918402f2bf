/- Runs expanded: the specification. -/
import Derived.Test.YtghcagibdcblnaaDoorR02
namespace Go.Proofs.YtghcagibdcblnaaDoor
open Go.ChangeShapes Go.WideShapes Go.ChangeAt Go.RowKit
set_option linter.unusedVariables false
set_option linter.unusedSimpArgs false

theorem drop_head {t : ByteArray} {k : Nat} (h : k < t.size) : ((bts t).drop k).head? = some (byt t k) := by rw [bts_drop t h]; rfl
theorem drop_head_no {t : ByteArray} {k : Nat} (h : ¬ k < t.size) : ((bts t).drop k).head? = none := by rw [List.drop_eq_nil_of_le (by rw [bts_len]; omega)]; rfl
theorem expT_run {t : ByteArray} {n i : Nat} {A : List Int} (h : i + 3 < t.size) (h0 : byt t i = 237) (h1 : byt t (i + 1) = 237) :
    expE n ((bts t).drop i) A = if n < A.length + (byt t (i + 2)).toNat then ([], 8) else expE n ((bts t).drop (i + 4)) (A ++ List.replicate (byt t (i + 2)).toNat (byt t (i + 3))) := by
  rw [bts_drop t (show i < t.size by omega), bts_drop t (show i + 1 < t.size by omega), bts_drop t (show i + 1 + 1 < t.size by omega), bts_drop t (show i + 1 + 1 + 1 < t.size by omega), h0, h1, expE_run]
theorem expT_cut {t : ByteArray} {n i : Nat} {A : List Int} (h : i + 1 < t.size) (h3 : ¬ i + 3 < t.size) (h0 : byt t i = 237) (h1 : byt t (i + 1) = 237) : expE n ((bts t).drop i) A = ([], 9) := by
  rw [bts_drop t (show i < t.size by omega), bts_drop t h, h0, h1]
  exact expE_cut n _ A (by rw [List.length_drop, bts_len]; omega)
theorem expT_one {t : ByteArray} {n i : Nat} {A : List Int} (h : i < t.size) (hn : ¬ (i + 1 < t.size ∧ byt t i = 237 ∧ byt t (i + 1) = 237)) :
    expE n ((bts t).drop i) A = if n < A.length + 1 then ([], 8) else expE n ((bts t).drop (i + 1)) (A ++ [byt t i]) := by
  rw [bts_drop t h]
  refine expE_cons n _ _ A (fun hh => hn ?_)
  by_cases h1 : i + 1 < t.size
  · rw [drop_head h1] at hh
    exact ⟨h1, hh.1, Option.some.inj hh.2⟩
  · rw [drop_head_no h1] at hh
    cases hh.2
theorem expT_end {t : ByteArray} {n : Nat} {A : List Int} : expE n ((bts t).drop t.size) A = if A.length = n then (A, 0) else ([], 8) := by
  rw [List.drop_eq_nil_of_le (by rw [bts_len]; exact Nat.le_refl _)]
  rfl
abbrev exS (r : List Int × Int) : Value := .tuple #[.string (strOfNums r.1), .int .i64 r.2]
theorem exS_no (c : Int) : exS ([], c) = .tuple #[.string ⟨#[]⟩, .int .i64 c] := rfl
set_option maxRecDepth 100000 in
set_option maxHeartbeats 4000000 in
theorem lexp_spec (t : ByteArray) (N : Nat) (w : World) (ht : t.size ≤ 65536) (hN : N ≤ 4096) : Calls Tryd.prog 22 #[.string t, .int .i64 (N : Int)] w fun e w' => e = .returned (exS (expE N (bts t) [])) ∧ Below w.heap.size w w' := by
  obtain ⟨i0, hi0, hz0, hz1, hz2⟩ := info_parts infoU8
  have hG0 := hid (GrowB.nil w)
  have hc1 := hid (fun i A => expT_run (t := t) (n := N) (i := i) (A := A))
  have hc2 := hid (fun i A => expT_cut (t := t) (n := N) (i := i) (A := A))
  have hc3 := hid (fun i A => expT_one (t := t) (n := N) (i := i) (A := A))
  have hc4 := hid (fun A => expT_end (t := t) (n := N) (A := A))
  have hbe : Hid (expE N (bts t) [] = expE N ((bts t).drop 0) []) := rfl
  obtain ⟨R, hR⟩ : ∃ R, expE N (bts t) [] = R := ⟨_, rfl⟩
  obtain ⟨F, hF⟩ : ∃ F : Nat → List Int → List Int × Int, (fun i A => expE N ((bts t).drop i) A) = F := ⟨_, rfl⟩
  have hF2 : ∀ i A, expE N ((bts t).drop i) A = F i A := fun i A => by rw [← hF]
  simp only [hF2] at hc1 hc2 hc3 hc4 hbe
  rw [hR] at hbe ⊢
  clear hR hF hF2
  go_enter Tryd.func22, Tryd.ntmps22
  go_upto_region 2 with fail
  obtain ⟨W1, hW1⟩ : ∃ W1, w.alloc (.cells #[] 5) = W1 := ⟨_, rfl⟩
  rw [hW1] at hG0 ⊢
  clear hW1
  go_wp2
  go_loopw [6, 7] (fun v iv wr => ∃ (i : Nat) (A : List Int), i ≤ t.size ∧ iv = .int .i64 (i : Int) ∧ GrowB w wr v A ∧ A.length ≤ N ∧ F i A = R) (fun _ iv _ => t.size - (intOf iv).toNat)
  case atStart => exact ⟨0, [], by omega, rfl, hG0.out, Nat.zero_le _, hbe.out.symm⟩
  case round =>
    obtain ⟨i, A, hi, rfl, hG, hAl, hA⟩ := hrel
    clear hG0 hbe
    obtain ⟨oa, ocap, rfl⟩ := hG.form
    obtain ⟨n, hn⟩ : ∃ n, A.length = n := ⟨_, rfl⟩
    rw [hn] at hAl hG ⊢
    have own1 := hid hG.own
    rw [hn] at own1
    have hba := hG.bel.size
    have hBe := hid hG.bel
    replace hG := hid hG
    replace hA := hid hA
    by_cases hlt : i < t.size
    · have hx := run_idx t (i : Int) i rfl hlt
      have h01 : (i : Int) < (t.size : Int) := by omega
      have g1 := hid (hc1.out i A)
      have g2 := hid (hc2.out i A)
      have g3 := hid (hc3.out i A hlt)
      rw [hn] at g1 g3
      clear hc1 hc2 hc3 hc4
      by_cases hrun : i + 1 < t.size ∧ byt t i = 237 ∧ byt t (i + 1) = 237
      · obtain ⟨h1, e0, e1⟩ := hrun
        obtain ⟨p, hp⟩ : ∃ p : Nat, i + 1 = p := ⟨_, rfl⟩
        have hp1 : (i : Int) + 1 = (p : Int) := by omega
        rw [hp] at h1 e1
        have hx1 := run_idx t (p : Int) p rfl h1
        have c1 : (p : Int) < (t.size : Int) := by omega
        rw [e0] at hx
        rw [e1] at hx1
        have hpw : IntKind.i64.wrap (p : Int) = (p : Int) := by rw [IntKind.wrap_i64]; omega
        obtain ⟨q3, hq3⟩ : ∃ q : Nat, i + 3 = q := ⟨_, rfl⟩
        have hp3 : (i : Int) + 3 = (q3 : Int) := by omega
        have hp3w : IntKind.i64.wrap (q3 : Int) = (q3 : Int) := by rw [IntKind.wrap_i64]; omega
        by_cases h3 : i + 3 < t.size
        · have hgo := hid (g1.out h3 e0 (by rw [hp]; exact e1))
          obtain ⟨q2, hq2⟩ : ∃ q : Nat, i + 2 = q := ⟨_, rfl⟩
          have hp2 : (i : Int) + 2 = (q2 : Int) := by omega
          have hp2w : IntKind.i64.wrap (q2 : Int) = (q2 : Int) := by rw [IntKind.wrap_i64]; omega
          have hx2 := run_idx t (q2 : Int) (i + 2) (by omega) (by omega)
          have hx3 := run_idx t (q3 : Int) (i + 3) (by omega) h3
          have hby := byt_bd t (i + 2)
          have c3 : ¬ (t.size : Int) ≤ (q3 : Int) := by omega
          have h3h : Hid (i + 3 < t.size) := h3
          obtain ⟨K, hK⟩ : ∃ K : Nat, byt t (i + 2) = (K : Int) := ⟨(byt t (i + 2)).toNat, by omega⟩
          rw [hK] at hx2 hgo hby
          rw [Int.toNat_natCast] at hgo
          obtain ⟨B, hB⟩ : ∃ B, byt t (i + 3) = B := ⟨_, rfl⟩
          rw [hB] at hx3 hgo
          have hKb : K ≤ 255 := by omega
          clear g1 g2 g3 hK hB hby e0 e1 hp hq2 hq3 h3
          obtain ⟨q4, hq4⟩ : ∃ q : Nat, i + 4 = q := ⟨_, rfl⟩
          have hp4 : (i : Int) + 4 = (q4 : Int) := by omega
          have hp4w : IntKind.i64.wrap (q4 : Int) = (q4 : Int) := by rw [IntKind.wrap_i64]; omega
          have hp4h : Hid (q4 ≤ t.size ∧ i < q4) := ⟨by have := h3h.out; omega, by omega⟩
          rw [hq4] at hgo
          clear hq4
          have hKw : IntKind.i64.wrap (K : Int) = (K : Int) := by rw [IntKind.wrap_i64]; omega
          have hK0 : Hid (A ++ List.replicate 0 B = A) := by unfold Hid; simp
          go_wp2
          go_loopw [6, 8] (fun v kv wr => ∃ k : Nat, k ≤ K ∧ kv = .int .i64 (k : Int) ∧ GrowB w wr v (A ++ List.replicate k B)) (fun _ kv _ => K - (intOf kv).toNat)
          case atStart => exact ⟨0, by omega, rfl, by rw [hK0.out]; exact hG.out⟩
          case round =>
            obtain ⟨k, hk, rfl, hGk⟩ := hrel
            clear hG own1 hBe
            obtain ⟨ob, bcap, rfl⟩ := hGk.form
            have hkl : (A ++ List.replicate k B).length = n + k := by rw [List.length_append, List.length_replicate, hn]
            obtain ⟨r, hr⟩ : ∃ r, n + k = r := ⟨_, rfl⟩
            have hrb : r ≤ 5000 := by omega
            by_cases hlk : k < K
            · have hsn : Hid (A ++ List.replicate (k + 1) B = (A ++ List.replicate k B) ++ [B]) := by unfold Hid; rw [List.replicate_succ', List.append_assoc]
              obtain ⟨A2, hA2⟩ : ∃ A2, A ++ List.replicate k B = A2 := ⟨_, rfl⟩
              rw [hA2] at hkl hGk hsn ⊢
              rw [hr] at hkl
              rw [hkl] at hGk ⊢
              have own2 := hid hGk.own
              have hba2 := hGk.bel.size
              rw [hkl] at own2
              have happ : Hid (∀ (v' : Value) (w1 : World), w1.ownsRow w.heap.size 5 1 v' (r + 1) (A2.map (Value.int .u8) ++ [.int .u8 B]) → (wr.alloc (.cells #[.int .u8 B] 5)).grownBy w1 (Value.slice ob r bcap).ownBlock → GrowB w w1 v' (A2 ++ [B])) := fun v' w1 ho hg => hGk.app [B] (by rw [hkl]; exact ho) hg
              have ck : (k : Int) < (K : Int) := by omega
              clear hGk hr hA2
              go_wp2_with (at_builtin; refine wpList_append_lies _ rfl _ _ 73 rfl w.heap.size 5 i0 _ 1 1 Tryd.underlying73 hi0 hz0 hz1 hz2 rfl (by omega) _ r (A2.map (Value.int .u8)) rfl (own2.out.alloc _) ⟨_, 0, none⟩ 1 1 [.int .u8 B] rfl rfl (World.news_of_block (cs := #[.int .u8 B]) (t := 5) (fr := (0, 0)) (heap_alloc_new _ _)) (by simp [Value.oneCell']) (by omega) (by unfold maxLen; omega) (by omega) (by simp; omega) _ rfl ?_; intro gg cap2 w1 ho hg hat hlt3; have hG2 := hid (happ.out _ _ ho hg); clear ho hg hat hlt3 happ own2)
              go_roundw
              case rel => exact ⟨k + 1, by omega, by go_num, by rw [hsn.out]; exact hG2.out⟩
              case measure => simp [intOf]; omega
            · obtain rfl : k = K := by omega
              have ck : ¬ (k : Int) < (k : Int) := by omega
              have hBe := hid hGk.bel
              rw [hr] at hkl
              rw [hkl] at hGk ⊢
              have hGh := hid hGk
              clear hGk
              by_cases hl : N < r
              · obtain rfl : R = ([], 8) := by rw [← hA.out, hgo.out, if_pos (by omega)]
                have cl : (N : Int) < (r : Int) := by omega
                clear hgo hA hGh hr
                go_wp2
                go_ret2
                exact ⟨rfl, hBe.out⟩
              · have hE2 : Hid (F q4 (A ++ List.replicate k B) = R) := by unfold Hid; rw [← hA.out, hgo.out, if_neg (by omega)]
                have cl : ¬ (N : Int) < (r : Int) := by omega
                have hlr : Hid ((A ++ List.replicate k B).length = r) := hkl
                clear hgo hA hr hkl
                go_wp2
                go_roundw
                case rel => exact ⟨q4, A ++ List.replicate k B, hp4h.out.1, by first | rfl | go_num, hGh.out, by rw [hlr.out]; omega, hE2.out⟩
                case measure => simp [intOf]; have := hp4h.out; omega
        · have hgo := hid (g2.out (by omega) h3 e0 (by rw [hp]; exact e1))
          obtain rfl : R = ([], 9) := by rw [← hA.out, hgo.out]
          have c3 : (t.size : Int) ≤ (q3 : Int) := by omega
          clear g1 g2 g3 hgo hA hG own1 e0 e1 hp hq3 h3
          go_wp2
          go_ret2
          exact ⟨rfl, hBe.out⟩
      · have hgo := hid (g3.out hrun)
        have hrun2 := hid hrun
        clear g1 g2 g3 hrun
        obtain ⟨p, hp⟩ : ∃ p : Nat, i + 1 = p := ⟨_, rfl⟩
        have hp1 : (i : Int) + 1 = (p : Int) := by omega
        have hpw : IntKind.i64.wrap (p : Int) = (p : Int) := by rw [IntKind.wrap_i64]; omega
        rw [hp] at hgo
        have hpe : Hid (i + 1 = p) := hp
        by_cases h1 : p < t.size
        · have hx1 := run_idx t (p : Int) p rfl h1
          have c1 : (p : Int) < (t.size : Int) := by omega
          by_cases e0 : byt t i = 237
          · have e1 : (byt t p == 237) = false := by
              rw [beq_eq_false_iff_ne]
              intro e
              exact hrun2.out ⟨by omega, e0, by rw [hp]; exact e⟩
            have eb : (byt t i == 237) = true := by rw [beq_iff_eq]; exact e0
            obtain ⟨B, hB⟩ : ∃ B, byt t i = B := ⟨_, rfl⟩
            rw [hB] at hx eb hgo
            generalize byt t p = D at *
            clear hB e0 hp
            have happ : Hid (∀ (v' : Value) (w1 : World), w1.ownsRow w.heap.size 5 1 v' (n + 1) (A.map (Value.int .u8) ++ [.int .u8 B]) → (wr.alloc (.cells #[.int .u8 B] 5)).grownBy w1 (Value.slice oa n ocap).ownBlock → GrowB w w1 v' (A ++ [B])) := fun v' w1 ho hg => hG.out.app [B] (by rw [hn]; exact ho) hg
            have hn1 : Hid ((A ++ [B]).length = n + 1) := by unfold Hid; rw [List.length_append, hn]; rfl
            by_cases hl : N < n + 1
            · obtain rfl : R = ([], 8) := by rw [← hA.out, hgo.out, if_pos hl]
              have cl : (N : Int) < (n : Int) + 1 := by omega
              clear hG hgo hA hBe
              go_wp2_with (at_builtin; refine wpList_append_lies _ rfl _ _ 73 rfl w.heap.size 5 i0 _ 1 1 Tryd.underlying73 hi0 hz0 hz1 hz2 rfl (by omega) _ n (A.map (Value.int .u8)) rfl (own1.out.alloc _) ⟨_, 0, none⟩ 1 1 [.int .u8 B] rfl rfl (World.news_of_block (cs := #[.int .u8 B]) (t := 5) (fr := (0, 0)) (heap_alloc_new _ _)) (by simp [Value.oneCell']) (by omega) (by unfold maxLen; omega) (by omega) (by simp; omega) _ rfl ?_; intro gg cap2 w1 ho hg hat hlt3; have hG2 := hid (happ.out _ _ ho hg); clear ho hg hat hlt3 happ own1)
              go_ret2
              exact ⟨rfl, hG2.out.bel⟩
            · have hE2 : Hid (F p (A ++ [B]) = R) := by unfold Hid; rw [← hA.out, hgo.out, if_neg hl]
              have cl : ¬ (N : Int) < (n : Int) + 1 := by omega
              have hpi : Hid (i < p ∧ p ≤ t.size) := ⟨by omega, by omega⟩
              clear hG hgo hA hBe
              go_wp2_with (at_builtin; refine wpList_append_lies _ rfl _ _ 73 rfl w.heap.size 5 i0 _ 1 1 Tryd.underlying73 hi0 hz0 hz1 hz2 rfl (by omega) _ n (A.map (Value.int .u8)) rfl (own1.out.alloc _) ⟨_, 0, none⟩ 1 1 [.int .u8 B] rfl rfl (World.news_of_block (cs := #[.int .u8 B]) (t := 5) (fr := (0, 0)) (heap_alloc_new _ _)) (by simp [Value.oneCell']) (by omega) (by unfold maxLen; omega) (by omega) (by simp; omega) _ rfl ?_; intro gg cap2 w1 ho hg hat hlt3; have hG2 := hid (happ.out _ _ ho hg); clear ho hg hat hlt3 happ own1)
              go_roundw
              case rel => exact ⟨p, A ++ [B], hpi.out.2, by first | rfl | go_num, hG2.out, by rw [hn1.out]; omega, hE2.out⟩
              case measure => simp [intOf]; have := hpi.out; omega
          · have eb : (byt t i == 237) = false := by rw [beq_eq_false_iff_ne]; exact e0
            obtain ⟨B, hB⟩ : ∃ B, byt t i = B := ⟨_, rfl⟩
            rw [hB] at hx eb hgo
            clear hB e0 hx1 hp
            have happ : Hid (∀ (v' : Value) (w1 : World), w1.ownsRow w.heap.size 5 1 v' (n + 1) (A.map (Value.int .u8) ++ [.int .u8 B]) → (wr.alloc (.cells #[.int .u8 B] 5)).grownBy w1 (Value.slice oa n ocap).ownBlock → GrowB w w1 v' (A ++ [B])) := fun v' w1 ho hg => hG.out.app [B] (by rw [hn]; exact ho) hg
            have hn1 : Hid ((A ++ [B]).length = n + 1) := by unfold Hid; rw [List.length_append, hn]; rfl
            by_cases hl : N < n + 1
            · obtain rfl : R = ([], 8) := by rw [← hA.out, hgo.out, if_pos hl]
              have cl : (N : Int) < (n : Int) + 1 := by omega
              clear hG hgo hA hBe
              go_wp2_with (at_builtin; refine wpList_append_lies _ rfl _ _ 73 rfl w.heap.size 5 i0 _ 1 1 Tryd.underlying73 hi0 hz0 hz1 hz2 rfl (by omega) _ n (A.map (Value.int .u8)) rfl (own1.out.alloc _) ⟨_, 0, none⟩ 1 1 [.int .u8 B] rfl rfl (World.news_of_block (cs := #[.int .u8 B]) (t := 5) (fr := (0, 0)) (heap_alloc_new _ _)) (by simp [Value.oneCell']) (by omega) (by unfold maxLen; omega) (by omega) (by simp; omega) _ rfl ?_; intro gg cap2 w1 ho hg hat hlt3; have hG2 := hid (happ.out _ _ ho hg); clear ho hg hat hlt3 happ own1)
              go_ret2
              exact ⟨rfl, hG2.out.bel⟩
            · have hE2 : Hid (F p (A ++ [B]) = R) := by unfold Hid; rw [← hA.out, hgo.out, if_neg hl]
              have cl : ¬ (N : Int) < (n : Int) + 1 := by omega
              have hpi : Hid (i < p ∧ p ≤ t.size) := ⟨by omega, by omega⟩
              clear hG hgo hA hBe
              go_wp2_with (at_builtin; refine wpList_append_lies _ rfl _ _ 73 rfl w.heap.size 5 i0 _ 1 1 Tryd.underlying73 hi0 hz0 hz1 hz2 rfl (by omega) _ n (A.map (Value.int .u8)) rfl (own1.out.alloc _) ⟨_, 0, none⟩ 1 1 [.int .u8 B] rfl rfl (World.news_of_block (cs := #[.int .u8 B]) (t := 5) (fr := (0, 0)) (heap_alloc_new _ _)) (by simp [Value.oneCell']) (by omega) (by unfold maxLen; omega) (by omega) (by simp; omega) _ rfl ?_; intro gg cap2 w1 ho hg hat hlt3; have hG2 := hid (happ.out _ _ ho hg); clear ho hg hat hlt3 happ own1)
              go_roundw
              case rel => exact ⟨p, A ++ [B], hpi.out.2, by first | rfl | go_num, hG2.out, by rw [hn1.out]; omega, hE2.out⟩
              case measure => simp [intOf]; have := hpi.out; omega
        · have c1 : ¬ (p : Int) < (t.size : Int) := by omega
          obtain ⟨B, hB⟩ : ∃ B, byt t i = B := ⟨_, rfl⟩
          rw [hB] at hx hgo
          clear hB hp
          have happ : Hid (∀ (v' : Value) (w1 : World), w1.ownsRow w.heap.size 5 1 v' (n + 1) (A.map (Value.int .u8) ++ [.int .u8 B]) → (wr.alloc (.cells #[.int .u8 B] 5)).grownBy w1 (Value.slice oa n ocap).ownBlock → GrowB w w1 v' (A ++ [B])) := fun v' w1 ho hg => hG.out.app [B] (by rw [hn]; exact ho) hg
          have hn1 : Hid ((A ++ [B]).length = n + 1) := by unfold Hid; rw [List.length_append, hn]; rfl
          by_cases hl : N < n + 1
          · obtain rfl : R = ([], 8) := by rw [← hA.out, hgo.out, if_pos hl]
            have cl : (N : Int) < (n : Int) + 1 := by omega
            clear hG hgo hA hBe
            go_wp2_with (at_builtin; refine wpList_append_lies _ rfl _ _ 73 rfl w.heap.size 5 i0 _ 1 1 Tryd.underlying73 hi0 hz0 hz1 hz2 rfl (by omega) _ n (A.map (Value.int .u8)) rfl (own1.out.alloc _) ⟨_, 0, none⟩ 1 1 [.int .u8 B] rfl rfl (World.news_of_block (cs := #[.int .u8 B]) (t := 5) (fr := (0, 0)) (heap_alloc_new _ _)) (by simp [Value.oneCell']) (by omega) (by unfold maxLen; omega) (by omega) (by simp; omega) _ rfl ?_; intro gg cap2 w1 ho hg hat hlt3; have hG2 := hid (happ.out _ _ ho hg); clear ho hg hat hlt3 happ own1)
            go_ret2
            exact ⟨rfl, hG2.out.bel⟩
          · have hE2 : Hid (F p (A ++ [B]) = R) := by unfold Hid; rw [← hA.out, hgo.out, if_neg hl]
            have cl : ¬ (N : Int) < (n : Int) + 1 := by omega
            have hpi : Hid (i < p ∧ p ≤ t.size) := ⟨by omega, by omega⟩
            clear hG hgo hA hBe
            go_wp2_with (at_builtin; refine wpList_append_lies _ rfl _ _ 73 rfl w.heap.size 5 i0 _ 1 1 Tryd.underlying73 hi0 hz0 hz1 hz2 rfl (by omega) _ n (A.map (Value.int .u8)) rfl (own1.out.alloc _) ⟨_, 0, none⟩ 1 1 [.int .u8 B] rfl rfl (World.news_of_block (cs := #[.int .u8 B]) (t := 5) (fr := (0, 0)) (heap_alloc_new _ _)) (by simp [Value.oneCell']) (by omega) (by unfold maxLen; omega) (by omega) (by simp; omega) _ rfl ?_; intro gg cap2 w1 ho hg hat hlt3; have hG2 := hid (happ.out _ _ ho hg); clear ho hg hat hlt3 happ own1)
            go_roundw
            case rel => exact ⟨p, A ++ [B], hpi.out.2, by first | rfl | go_num, hG2.out, by rw [hn1.out]; omega, hE2.out⟩
            case measure => simp [intOf]; have := hpi.out; omega
    · obtain rfl : i = t.size := by omega
      have hE := hc4.out A
      rw [hn] at hE
      have hnl : ¬ (t.size : Int) < (t.size : Int) := by omega
      by_cases hl : n = N
      · have hE2 : R = (A, 0) := by rw [← hA.out, hE, if_pos hl]
        subst hE2
        have hcv := own_string (xs := A) hG.out.own
        try rw [hn] at hcv
        have hne : ((n : Int) != (N : Int)) = false := by simp; omega
        clear hc1 hc2 hc3 hc4 hG hE hl own1 hA
        go_wp2
        go_ret2
        exact ⟨rfl, hBe.out⟩
      · have hE2 : R = ([], 8) := by rw [← hA.out, hE, if_neg hl]
        subst hE2
        have hne : ((n : Int) != (N : Int)) = true := by simp; omega
        clear hc1 hc2 hc3 hc4 hG hE hl own1 hA
        go_wp2
        go_ret2
        exact ⟨rfl, hBe.out⟩
end Go.Proofs.YtghcagibdcblnaaDoor
