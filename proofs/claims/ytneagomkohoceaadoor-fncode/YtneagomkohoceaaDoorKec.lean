/- What the program decodes. -/
import Derived.Test.YtneagomkohoceaaDoorKbc
import Derived.Test.YtneagomkohoceaaDoorIbc
import Derived.Test.YtneagomkohoceaaDoorBtc
namespace Go.Proofs.YtneagomkohoceaaDoor
open Go.ChangeShapes Go.WideShapes Go.ChangeAt Go.RowKit
set_option linter.unusedVariables false
set_option linter.unusedSimpArgs false

theorem dec_eq (X Y k : Nat) (hk : (if (23 : Int) < (X : Int) / 8 then (23 : Int) else (X : Int) / 8) = (k : Int)) (hx : X < 256) : k < 24 ∧ dcdV X Y = insV (k : Int) (if hasM (kdN k) 1 = true then ((X % 8 : Nat) : Int) else 0) (if hasM (kdN k) 2 = true then ((Y % 8 : Nat) : Int) else 0) (if hasM (kdN k) 8 = true then (X : Int) else if hasM (kdN k) 4 = true then (Y : Int) else 0) (lenM (kdN k)) := by
  by_cases h : 23 ≤ (X : Int) / 8
  · have hk' : k = 23 := by split at hk <;> omega
    subst hk'
    obtain ⟨h1, h2, h4, h8, h6⟩ := kd_23
    refine ⟨by omega, ?_⟩
    unfold dcdV decO decA decB decN decL lenM
    rw [if_pos h, if_pos h, if_pos h, if_pos h, if_pos h, h1, h2, h8, h6]
    rfl
  · have hk' : (k : Int) = (X : Int) / 8 := by split at hk <;> omega
    have hk3 : k < 23 := by omega
    obtain ⟨h1, h2, h4, h8, h6⟩ := kd_tab k hk3
    refine ⟨by omega, ?_⟩
    unfold dcdV decO decA decB decN decL lenM
    rw [if_neg h, if_neg h, if_neg h, if_neg h, if_neg h, ← hk', Int.toNat_natCast, h1, h2, h4, h8, h6]
    cases hasC k 66 <;> cases hasC k 78 <;> rfl
theorem kd_six : ∀ k, k < 24 → (hasM (kdN k) 1 = false ∧ hasM (kdN k) 2 = false ∧ hasM (kdN k) 4 = false ∧ hasM (kdN k) 8 = false ∧ lenM (kdN k) = 1) ∨ (hasM (kdN k) 1 = true ∧ hasM (kdN k) 2 = true ∧ hasM (kdN k) 4 = false ∧ hasM (kdN k) 8 = false ∧ lenM (kdN k) = 2) ∨
    (hasM (kdN k) 1 = true ∧ hasM (kdN k) 2 = false ∧ hasM (kdN k) 4 = true ∧ hasM (kdN k) 8 = false ∧ lenM (kdN k) = 2) ∨ (hasM (kdN k) 1 = false ∧ hasM (kdN k) 2 = false ∧ hasM (kdN k) 4 = true ∧ hasM (kdN k) 8 = false ∧ lenM (kdN k) = 2) ∨
    (hasM (kdN k) 1 = true ∧ hasM (kdN k) 2 = false ∧ hasM (kdN k) 4 = false ∧ hasM (kdN k) 8 = false ∧ lenM (kdN k) = 1) ∨ (hasM (kdN k) 1 = false ∧ hasM (kdN k) 2 = false ∧ hasM (kdN k) 4 = false ∧ hasM (kdN k) 8 = true ∧ lenM (kdN k) = 1) := by decide +kernel
abbrev zer5 : Array Value := #[.int .i64 0, .int .i64 0, .int .i64 0, .int .i64 0, .int .i64 0]
abbrev kinK (k : Nat) : Array Value := kinA (kdW k) (kdN k) (kdA k) (kdB k) (kdT k)
/-- while the program decodes an instruction -/
structure ESt (w W : World) (k B : Nat) (C : Array Value) : Prop where
  q0 : Blk W w.heap.size zer5
  q6 : Blk W (w.heap.size + 1) (kinK k)
  q7 : Blk W B C
  bel : Below w.heap.size w W
  far : w.heap.size + 2 ≤ B
theorem ESt.start {w w1 : World} {k : Nat} {t : TypeId} (q0 : Blk w1 w.heap.size zer5) (q6 : Blk w1 (w.heap.size + 1) (kinK k)) (hb : Below w.heap.size w w1) (C : Array Value) : ESt w (w1.alloc (.cells C t)) k w1.heap.size C :=
  ⟨q0.alloc _, q6.alloc _, Blk.new w1 C t, hb.alloc hb.size _, by have := q6.lt; omega⟩
theorem ESt.below {w W W' : World} {k B : Nat} {C : Array Value} (h : ESt w W k B C) (hb : Below W.heap.size W W') : ESt w W' k B C :=
  ⟨h.q0.below hb h.q0.lt, h.q6.below hb h.q6.lt, h.q7.below hb h.q7.lt, h.bel.trans (hb.mono h.bel.size), h.far⟩
theorem ESt.set {w W : World} {k B : Nat} {C : Array Value} (h : ESt w W k B C) (i : Nat) (u : Value) : ESt w (W.setCell ⟨B, i, none⟩ u) k B (C.setIfInBounds i u) :=
  ⟨h.q0.other (by have := h.far; dsimp only; omega) _, h.q6.other (by have := h.far; dsimp only; omega) _, h.q7.set i u, h.bel.setCell (p := ⟨B, i, none⟩) (by have := h.far; dsimp only; omega) _, h.far⟩
set_option maxRecDepth 100000 in
set_option maxHeartbeats 2000000 in
theorem dec0_impl (X Y : Nat) (w : World) (hK : Kinds w) (hx : X < 256) (hy : Y < 256) :
    Calls Tryd.prog 36 #[.int .i64 (X : Int), .int .i64 (Y : Int)] w fun e w' => e = .returned (dcdV X Y) ∧ Below w.heap.size w w' := by
  obtain ⟨k, hk⟩ : ∃ k : Nat, (if (23 : Int) < (X : Int) / 8 then (23 : Int) else (X : Int) / 8) = (k : Int) := ⟨(if (23 : Int) < (X : Int) / 8 then (23 : Int) else (X : Int) / 8).toNat, by split <;> omega⟩
  obtain ⟨hk24, hV⟩ := dec_eq X Y k hk hx
  rw [hV]
  clear hV
  have hb0 := hid ((Below.refl w.heap.size w).alloc (Nat.le_refl _) (.cells zer5 24))
  obtain ⟨y0, y1, y2, y3, y4⟩ := (hK.below hb0.out) k hk24
  have h6 := kd_six k hk24
  have hr : bits .and .i64 (X : Int) 7 = ((X % 8 : Nat) : Int) := by
    rw [show (7 : Int) = ((7 : Nat) : Int) from rfl, bAnd X 7 (by omega) (by omega)]
    exact congrArg _ (Nat.and_two_pow_sub_one_eq_mod X 3)
  have ht : bits .and .i64 (Y : Int) 7 = ((Y % 8 : Nat) : Int) := by
    rw [show (7 : Int) = ((7 : Nat) : Int) from rfl, bAnd Y 7 (by omega) (by omega)]
    exact congrArg _ (Nat.and_two_pow_sub_one_eq_mod Y 3)
  generalize X % 8 = r at *
  generalize Y % 8 = t at *
  obtain ⟨L, hL⟩ : ∃ L, lenM (kdN k) = L := ⟨_, rfl⟩
  rw [hL] at h6 ⊢
  replace hL := hid hL
  clear hK hb0
  rcases h6 with ⟨g1, g2, g4, g8, rfl⟩ | ⟨g1, g2, g4, g8, rfl⟩ | ⟨g1, g2, g4, g8, rfl⟩ | ⟨g1, g2, g4, g8, rfl⟩ | ⟨g1, g2, g4, g8, rfl⟩ | ⟨g1, g2, g4, g8, rfl⟩
  · skip
    rw [g1, g2, g4, g8]
    replace g1 := hid g1
    replace g2 := hid g2
    replace g4 := hid g4
    replace g8 := hid g8
    go_enter Tryd.func36, Tryd.ntmps36
    go_upto_region 2 with fail
    go_wp2_with fail
    refine (len_impl _ _ _ _ _ _).mono ?_
    rintro e w1 ⟨rfl, hb⟩
    rw [hL.out]
    obtain ⟨Q0, Q6, bel⟩ := two_newI hb
    clear hb y0 y1 y2 y3 y4
    have S0 := hid (ESt.start (t := 24) Q0 Q6 bel #[.int .i64 (k : Int), .int .i64 0, .int .i64 0, .int .i64 0, .int .i64 1])
    have x6 := Q6.cell
    have z6 := Q6.lt
    go_wp2_with fail
    clear Q0 Q6 bel x6 z6
    refine (has_impl _ _ _ _ _ _ _).mono ?_
    rintro e v0 ⟨rfl, hb⟩
    rw [g1.out]
    have S1 := hid (S0.out.below hb)
    clear hb S0
    have x6 := S1.out.q6.cell
    go_wp2_with fail
    clear x6
    refine (has_impl _ _ _ _ _ _ _).mono ?_
    rintro e v1 ⟨rfl, hb⟩
    rw [g2.out]
    have S2 := hid (S1.out.below hb)
    clear hb S1
    have x6 := S2.out.q6.cell
    go_wp2_with fail
    clear x6
    refine (has_impl _ _ _ _ _ _ _).mono ?_
    rintro e v2 ⟨rfl, hb⟩
    rw [g4.out]
    have S3 := hid (S2.out.below hb)
    clear hb S2
    have x6 := S3.out.q6.cell
    go_wp2_with fail
    clear x6
    refine (has_impl _ _ _ _ _ _ _).mono ?_
    rintro e v3 ⟨rfl, hb⟩
    rw [g8.out]
    have S4 := hid (S3.out.below hb)
    clear hb S3
    have x7' := S4.out.q7.cell
    have x0 := S4.out.q0.cell
    have f0 := S4.out.q0.frozen
    have hz0 := S4.out.q0.lt
    go_wp2
    refine bodyPost_ret (v := insV (k : Int) 0 0 0 1) (by simp [results, Tryd.results36, go_sem, x0]) rfl ⟨rfl, ?_⟩
    iterate 5 refine Below.setCell ?_ (by first | omega | (simp; done) | (simp; omega)) _
    exact S4.out.bel
  · skip
    rw [g1, g2, g4, g8]
    replace g1 := hid g1
    replace g2 := hid g2
    replace g4 := hid g4
    replace g8 := hid g8
    go_enter Tryd.func36, Tryd.ntmps36
    go_upto_region 2 with fail
    go_wp2_with fail
    refine (len_impl _ _ _ _ _ _).mono ?_
    rintro e w1 ⟨rfl, hb⟩
    rw [hL.out]
    obtain ⟨Q0, Q6, bel⟩ := two_newI hb
    clear hb y0 y1 y2 y3 y4
    have S0 := hid (ESt.start (t := 24) Q0 Q6 bel #[.int .i64 (k : Int), .int .i64 0, .int .i64 0, .int .i64 0, .int .i64 2])
    have x6 := Q6.cell
    have z6 := Q6.lt
    go_wp2_with fail
    clear Q0 Q6 bel x6 z6
    refine (has_impl _ _ _ _ _ _ _).mono ?_
    rintro e v0 ⟨rfl, hb⟩
    rw [g1.out]
    have S1 := hid (S0.out.below hb)
    clear hb S0
    have f7 := S1.out.q7.frozen
    have z7 := S1.out.q7.lt
    have S2 : Hid (ESt w (v0.setCell ⟨w1.heap.size, 1, none⟩ (.int .i64 (r : Int))) k w1.heap.size #[.int .i64 (k : Int), .int .i64 (r : Int), .int .i64 0, .int .i64 0, .int .i64 2]) := S1.out.set 1 _
    obtain ⟨W0, hW0⟩ : ∃ W, (v0.setCell ⟨w1.heap.size, 1, none⟩ (.int .i64 (r : Int))) = W := ⟨_, rfl⟩
    rw [hW0] at S2
    have x7 := S1.out.q7.cell
    have x6 := S2.out.q6.cell
    go_wp2_with fail
    clear x6 f7 z7 x7 hW0 S1
    refine (has_impl _ _ _ _ _ _ _).mono ?_
    rintro e v1 ⟨rfl, hb⟩
    rw [g2.out]
    have S3 := hid (S2.out.below hb)
    clear hb S2
    have f7 := S3.out.q7.frozen
    have z7 := S3.out.q7.lt
    have S4 : Hid (ESt w (v1.setCell ⟨w1.heap.size, 2, none⟩ (.int .i64 (t : Int))) k w1.heap.size #[.int .i64 (k : Int), .int .i64 (r : Int), .int .i64 (t : Int), .int .i64 0, .int .i64 2]) := S3.out.set 2 _
    obtain ⟨W1, hW1⟩ : ∃ W, (v1.setCell ⟨w1.heap.size, 2, none⟩ (.int .i64 (t : Int))) = W := ⟨_, rfl⟩
    rw [hW1] at S4
    have x7 := S3.out.q7.cell
    have x6 := S4.out.q6.cell
    go_wp2_with fail
    clear x6 f7 z7 x7 hW1 S3
    refine (has_impl _ _ _ _ _ _ _).mono ?_
    rintro e v2 ⟨rfl, hb⟩
    rw [g4.out]
    have S5 := hid (S4.out.below hb)
    clear hb S4
    have x6 := S5.out.q6.cell
    go_wp2_with fail
    clear x6
    refine (has_impl _ _ _ _ _ _ _).mono ?_
    rintro e v3 ⟨rfl, hb⟩
    rw [g8.out]
    have S6 := hid (S5.out.below hb)
    clear hb S5
    have x7' := S6.out.q7.cell
    have x0 := S6.out.q0.cell
    have f0 := S6.out.q0.frozen
    have hz0 := S6.out.q0.lt
    go_wp2
    refine bodyPost_ret (v := insV (k : Int) (r : Int) (t : Int) 0 2) (by simp [results, Tryd.results36, go_sem, x0]) rfl ⟨rfl, ?_⟩
    iterate 5 refine Below.setCell ?_ (by first | omega | (simp; done) | (simp; omega)) _
    exact S6.out.bel
  · skip
    rw [g1, g2, g4, g8]
    replace g1 := hid g1
    replace g2 := hid g2
    replace g4 := hid g4
    replace g8 := hid g8
    go_enter Tryd.func36, Tryd.ntmps36
    go_upto_region 2 with fail
    go_wp2_with fail
    refine (len_impl _ _ _ _ _ _).mono ?_
    rintro e w1 ⟨rfl, hb⟩
    rw [hL.out]
    obtain ⟨Q0, Q6, bel⟩ := two_newI hb
    clear hb y0 y1 y2 y3 y4
    have S0 := hid (ESt.start (t := 24) Q0 Q6 bel #[.int .i64 (k : Int), .int .i64 0, .int .i64 0, .int .i64 0, .int .i64 2])
    have x6 := Q6.cell
    have z6 := Q6.lt
    go_wp2_with fail
    clear Q0 Q6 bel x6 z6
    refine (has_impl _ _ _ _ _ _ _).mono ?_
    rintro e v0 ⟨rfl, hb⟩
    rw [g1.out]
    have S1 := hid (S0.out.below hb)
    clear hb S0
    have f7 := S1.out.q7.frozen
    have z7 := S1.out.q7.lt
    have S2 : Hid (ESt w (v0.setCell ⟨w1.heap.size, 1, none⟩ (.int .i64 (r : Int))) k w1.heap.size #[.int .i64 (k : Int), .int .i64 (r : Int), .int .i64 0, .int .i64 0, .int .i64 2]) := S1.out.set 1 _
    obtain ⟨W0, hW0⟩ : ∃ W, (v0.setCell ⟨w1.heap.size, 1, none⟩ (.int .i64 (r : Int))) = W := ⟨_, rfl⟩
    rw [hW0] at S2
    have x7 := S1.out.q7.cell
    have x6 := S2.out.q6.cell
    go_wp2_with fail
    clear x6 f7 z7 x7 hW0 S1
    refine (has_impl _ _ _ _ _ _ _).mono ?_
    rintro e v1 ⟨rfl, hb⟩
    rw [g2.out]
    have S3 := hid (S2.out.below hb)
    clear hb S2
    have x6 := S3.out.q6.cell
    go_wp2_with fail
    clear x6
    refine (has_impl _ _ _ _ _ _ _).mono ?_
    rintro e v2 ⟨rfl, hb⟩
    rw [g4.out]
    have S4 := hid (S3.out.below hb)
    clear hb S3
    have f7 := S4.out.q7.frozen
    have z7 := S4.out.q7.lt
    have S5 : Hid (ESt w (v2.setCell ⟨w1.heap.size, 3, none⟩ (.int .i64 (Y : Int))) k w1.heap.size #[.int .i64 (k : Int), .int .i64 (r : Int), .int .i64 0, .int .i64 (Y : Int), .int .i64 2]) := S4.out.set 3 _
    obtain ⟨W2, hW2⟩ : ∃ W, (v2.setCell ⟨w1.heap.size, 3, none⟩ (.int .i64 (Y : Int))) = W := ⟨_, rfl⟩
    rw [hW2] at S5
    have x7 := S4.out.q7.cell
    have x6 := S5.out.q6.cell
    go_wp2_with fail
    clear x6 f7 z7 x7 hW2 S4
    refine (has_impl _ _ _ _ _ _ _).mono ?_
    rintro e v3 ⟨rfl, hb⟩
    rw [g8.out]
    have S6 := hid (S5.out.below hb)
    clear hb S5
    have x7' := S6.out.q7.cell
    have x0 := S6.out.q0.cell
    have f0 := S6.out.q0.frozen
    have hz0 := S6.out.q0.lt
    go_wp2
    refine bodyPost_ret (v := insV (k : Int) (r : Int) 0 (Y : Int) 2) (by simp [results, Tryd.results36, go_sem, x0]) rfl ⟨rfl, ?_⟩
    iterate 5 refine Below.setCell ?_ (by first | omega | (simp; done) | (simp; omega)) _
    exact S6.out.bel
  · skip
    rw [g1, g2, g4, g8]
    replace g1 := hid g1
    replace g2 := hid g2
    replace g4 := hid g4
    replace g8 := hid g8
    go_enter Tryd.func36, Tryd.ntmps36
    go_upto_region 2 with fail
    go_wp2_with fail
    refine (len_impl _ _ _ _ _ _).mono ?_
    rintro e w1 ⟨rfl, hb⟩
    rw [hL.out]
    obtain ⟨Q0, Q6, bel⟩ := two_newI hb
    clear hb y0 y1 y2 y3 y4
    have S0 := hid (ESt.start (t := 24) Q0 Q6 bel #[.int .i64 (k : Int), .int .i64 0, .int .i64 0, .int .i64 0, .int .i64 2])
    have x6 := Q6.cell
    have z6 := Q6.lt
    go_wp2_with fail
    clear Q0 Q6 bel x6 z6
    refine (has_impl _ _ _ _ _ _ _).mono ?_
    rintro e v0 ⟨rfl, hb⟩
    rw [g1.out]
    have S1 := hid (S0.out.below hb)
    clear hb S0
    have x6 := S1.out.q6.cell
    go_wp2_with fail
    clear x6
    refine (has_impl _ _ _ _ _ _ _).mono ?_
    rintro e v1 ⟨rfl, hb⟩
    rw [g2.out]
    have S2 := hid (S1.out.below hb)
    clear hb S1
    have x6 := S2.out.q6.cell
    go_wp2_with fail
    clear x6
    refine (has_impl _ _ _ _ _ _ _).mono ?_
    rintro e v2 ⟨rfl, hb⟩
    rw [g4.out]
    have S3 := hid (S2.out.below hb)
    clear hb S2
    have f7 := S3.out.q7.frozen
    have z7 := S3.out.q7.lt
    have S4 : Hid (ESt w (v2.setCell ⟨w1.heap.size, 3, none⟩ (.int .i64 (Y : Int))) k w1.heap.size #[.int .i64 (k : Int), .int .i64 0, .int .i64 0, .int .i64 (Y : Int), .int .i64 2]) := S3.out.set 3 _
    obtain ⟨W2, hW2⟩ : ∃ W, (v2.setCell ⟨w1.heap.size, 3, none⟩ (.int .i64 (Y : Int))) = W := ⟨_, rfl⟩
    rw [hW2] at S4
    have x7 := S3.out.q7.cell
    have x6 := S4.out.q6.cell
    go_wp2_with fail
    clear x6 f7 z7 x7 hW2 S3
    refine (has_impl _ _ _ _ _ _ _).mono ?_
    rintro e v3 ⟨rfl, hb⟩
    rw [g8.out]
    have S5 := hid (S4.out.below hb)
    clear hb S4
    have x7' := S5.out.q7.cell
    have x0 := S5.out.q0.cell
    have f0 := S5.out.q0.frozen
    have hz0 := S5.out.q0.lt
    go_wp2
    refine bodyPost_ret (v := insV (k : Int) 0 0 (Y : Int) 2) (by simp [results, Tryd.results36, go_sem, x0]) rfl ⟨rfl, ?_⟩
    iterate 5 refine Below.setCell ?_ (by first | omega | (simp; done) | (simp; omega)) _
    exact S5.out.bel
  · skip
    rw [g1, g2, g4, g8]
    replace g1 := hid g1
    replace g2 := hid g2
    replace g4 := hid g4
    replace g8 := hid g8
    go_enter Tryd.func36, Tryd.ntmps36
    go_upto_region 2 with fail
    go_wp2_with fail
    refine (len_impl _ _ _ _ _ _).mono ?_
    rintro e w1 ⟨rfl, hb⟩
    rw [hL.out]
    obtain ⟨Q0, Q6, bel⟩ := two_newI hb
    clear hb y0 y1 y2 y3 y4
    have S0 := hid (ESt.start (t := 24) Q0 Q6 bel #[.int .i64 (k : Int), .int .i64 0, .int .i64 0, .int .i64 0, .int .i64 1])
    have x6 := Q6.cell
    have z6 := Q6.lt
    go_wp2_with fail
    clear Q0 Q6 bel x6 z6
    refine (has_impl _ _ _ _ _ _ _).mono ?_
    rintro e v0 ⟨rfl, hb⟩
    rw [g1.out]
    have S1 := hid (S0.out.below hb)
    clear hb S0
    have f7 := S1.out.q7.frozen
    have z7 := S1.out.q7.lt
    have S2 : Hid (ESt w (v0.setCell ⟨w1.heap.size, 1, none⟩ (.int .i64 (r : Int))) k w1.heap.size #[.int .i64 (k : Int), .int .i64 (r : Int), .int .i64 0, .int .i64 0, .int .i64 1]) := S1.out.set 1 _
    obtain ⟨W0, hW0⟩ : ∃ W, (v0.setCell ⟨w1.heap.size, 1, none⟩ (.int .i64 (r : Int))) = W := ⟨_, rfl⟩
    rw [hW0] at S2
    have x7 := S1.out.q7.cell
    have x6 := S2.out.q6.cell
    go_wp2_with fail
    clear x6 f7 z7 x7 hW0 S1
    refine (has_impl _ _ _ _ _ _ _).mono ?_
    rintro e v1 ⟨rfl, hb⟩
    rw [g2.out]
    have S3 := hid (S2.out.below hb)
    clear hb S2
    have x6 := S3.out.q6.cell
    go_wp2_with fail
    clear x6
    refine (has_impl _ _ _ _ _ _ _).mono ?_
    rintro e v2 ⟨rfl, hb⟩
    rw [g4.out]
    have S4 := hid (S3.out.below hb)
    clear hb S3
    have x6 := S4.out.q6.cell
    go_wp2_with fail
    clear x6
    refine (has_impl _ _ _ _ _ _ _).mono ?_
    rintro e v3 ⟨rfl, hb⟩
    rw [g8.out]
    have S5 := hid (S4.out.below hb)
    clear hb S4
    have x7' := S5.out.q7.cell
    have x0 := S5.out.q0.cell
    have f0 := S5.out.q0.frozen
    have hz0 := S5.out.q0.lt
    go_wp2
    refine bodyPost_ret (v := insV (k : Int) (r : Int) 0 0 1) (by simp [results, Tryd.results36, go_sem, x0]) rfl ⟨rfl, ?_⟩
    iterate 5 refine Below.setCell ?_ (by first | omega | (simp; done) | (simp; omega)) _
    exact S5.out.bel
  · skip
    rw [g1, g2, g4, g8]
    replace g1 := hid g1
    replace g2 := hid g2
    replace g4 := hid g4
    replace g8 := hid g8
    go_enter Tryd.func36, Tryd.ntmps36
    go_upto_region 2 with fail
    go_wp2_with fail
    refine (len_impl _ _ _ _ _ _).mono ?_
    rintro e w1 ⟨rfl, hb⟩
    rw [hL.out]
    obtain ⟨Q0, Q6, bel⟩ := two_newI hb
    clear hb y0 y1 y2 y3 y4
    have S0 := hid (ESt.start (t := 24) Q0 Q6 bel #[.int .i64 (k : Int), .int .i64 0, .int .i64 0, .int .i64 0, .int .i64 1])
    have x6 := Q6.cell
    have z6 := Q6.lt
    go_wp2_with fail
    clear Q0 Q6 bel x6 z6
    refine (has_impl _ _ _ _ _ _ _).mono ?_
    rintro e v0 ⟨rfl, hb⟩
    rw [g1.out]
    have S1 := hid (S0.out.below hb)
    clear hb S0
    have x6 := S1.out.q6.cell
    go_wp2_with fail
    clear x6
    refine (has_impl _ _ _ _ _ _ _).mono ?_
    rintro e v1 ⟨rfl, hb⟩
    rw [g2.out]
    have S2 := hid (S1.out.below hb)
    clear hb S1
    have x6 := S2.out.q6.cell
    go_wp2_with fail
    clear x6
    refine (has_impl _ _ _ _ _ _ _).mono ?_
    rintro e v2 ⟨rfl, hb⟩
    rw [g4.out]
    have S3 := hid (S2.out.below hb)
    clear hb S2
    have x6 := S3.out.q6.cell
    go_wp2_with fail
    clear x6
    refine (has_impl _ _ _ _ _ _ _).mono ?_
    rintro e v3 ⟨rfl, hb⟩
    rw [g8.out]
    have S4 := hid (S3.out.below hb)
    clear hb S3
    have f7 := S4.out.q7.frozen
    have z7 := S4.out.q7.lt
    have S5 : Hid (ESt w (v3.setCell ⟨w1.heap.size, 3, none⟩ (.int .i64 (X : Int))) k w1.heap.size #[.int .i64 (k : Int), .int .i64 0, .int .i64 0, .int .i64 (X : Int), .int .i64 1]) := S4.out.set 3 _
    obtain ⟨W3, hW3⟩ : ∃ W, (v3.setCell ⟨w1.heap.size, 3, none⟩ (.int .i64 (X : Int))) = W := ⟨_, rfl⟩
    rw [hW3] at S5
    have x7 := S4.out.q7.cell
    have x7' := S5.out.q7.cell
    have x0 := S5.out.q0.cell
    have f0 := S5.out.q0.frozen
    have hz0 := S5.out.q0.lt
    go_wp2
    refine bodyPost_ret (v := insV (k : Int) 0 0 (X : Int) 1) (by simp [results, Tryd.results36, go_sem, x0]) rfl ⟨rfl, ?_⟩
    iterate 5 refine Below.setCell ?_ (by first | omega | (simp; done) | (simp; omega)) _
    exact S5.out.bel
end Go.Proofs.YtneagomkohoceaaDoor
