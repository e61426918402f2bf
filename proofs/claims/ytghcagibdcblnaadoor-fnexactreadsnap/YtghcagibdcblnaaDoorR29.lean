/- Snapshots that were read, in a law: marked, held, side by side. -/
import Derived.Test.YtghcagibdcblnaaDoorR28
import Derived.Test.YtghcagibdcblnaaDoorR00
import Derived.BigQuiet
namespace Go.Proofs.YtghcagibdcblnaaDoor
open Go.ChangeShapes Go.WideShapes Go.ChangeAt Go.RowKit
set_option linter.unusedVariables false
set_option linter.unusedSimpArgs false

theorem rdB_cons (k : Nat) (lo hi : Int) (L : List Int) : rdB (k + 1) (lo :: hi :: L) = if L.length < (lo + 256 * hi).toNat then ([], [], 9)
    else if (expE 64 (L.take (lo + 256 * hi).toNat) []).2 = 0 then
      (if (rdB k (L.drop (lo + 256 * hi).toNat)).2.2 = 0 then ((expE 64 (L.take (lo + 256 * hi).toNat) []).1 :: (rdB k (L.drop (lo + 256 * hi).toNat)).1, (rdB k (L.drop (lo + 256 * hi).toNat)).2.1, 0) else ([], [], (rdB k (L.drop (lo + 256 * hi).toNat)).2.2))
    else ([], [], (expE 64 (L.take (lo + 256 * hi).toNat) []).2) := rfl
theorem rdB_small : ∀ (k : Nat) (L : List Int), (rdB k L).1.length ≤ k ∧ ∀ b ∈ (rdB k L).1, b.length = 64
  | 0, L => ⟨Nat.le_refl _, fun b h => (by cases h)⟩
  | k + 1, [] => ⟨Nat.zero_le _, fun b h => (by cases h)⟩
  | k + 1, [_] => ⟨Nat.zero_le _, fun b h => (by cases h)⟩
  | k + 1, lo :: hi :: L => by
    have ih := rdB_small k (L.drop (lo + 256 * hi).toNat)
    rw [rdB_cons]
    by_cases h1 : L.length < (lo + 256 * hi).toNat
    · rw [if_pos h1]
      exact ⟨Nat.zero_le _, fun b h => (by cases h)⟩
    · rw [if_neg h1]
      by_cases hx : (expE 64 (L.take (lo + 256 * hi).toNat) []).2 = 0
      · rw [if_pos hx]
        by_cases h2 : (rdB k (L.drop (lo + 256 * hi).toNat)).2.2 = 0
        · rw [if_pos h2]
          refine ⟨by rw [List.length_cons]; omega, fun b hb => ?_⟩
          rcases List.mem_cons.1 hb with rfl | hb
          · exact expL_ok 64 _ _ _ hx
          · exact ih.2 b hb
        · rw [if_neg h2]
          exact ⟨Nat.zero_le _, fun b h => (by cases h)⟩
      · rw [if_neg hx]
        exact ⟨Nat.zero_le _, fun b h => (by cases h)⟩
theorem pre_64 {B : List (List Int)} (h : ∀ b ∈ B, b.length = 64) : ∀ i, i ≤ B.length → pre B i = 64 * i
  | 0, _ => rfl
  | i + 1, hi => by
    rw [pre_succ B i (by omega), pre_64 h i (by omega)]
    have : B.getD i [] ∈ B := by
      rw [List.getD_eq_getElem?_getD, List.getElem?_eq_getElem (by omega)]
      exact List.getElem_mem _
    rw [h _ this]
    omega
theorem read_small (t rom : ByteArray) : Small (read2 t rom).1.m := by
  have h0 : Small sn0.m := mem0_small
  unfold read2
  split
  · exact h0
  · split
    · rename_i h1 h2
      unfold rdS
      split
      · exact h0
      · split
        · exact h0
        · split
          · exact h0
          · split
            · exact h0
            · split
              · exact h0
              · have hs := rdB_small 4 ((bts t).drop 15)
                refine ⟨?_, ?_, ?_⟩
                · show (romL rom).length ≤ _
                  rw [romL_len]
                  omega
                · show (rdB 4 ((bts t).drop 15)).1.length ≤ _
                  omega
                · show pre (rdB 4 ((bts t).drop 15)).1 (rdB 4 ((bts t).drop 15)).1.length ≤ _
                  rw [pre_64 hs.2 _ (Nat.le_refl _)]
                  omega
    · exact h0
set_option maxRecDepth 100000 in
theorem marksn (s : Sn) (vr vm : Value) (m : Int) (lo hi : Nat) (w : World) (h : MemO w lo hi (memV vr vm s.m.page s.m.screen s.m.locked) s.m) (hw : hi ≤ w.heap.size) (hs : Small s.m) (hm0 : 0 ≤ m) (hm1 : m ≤ 10000000) :
    Calls Tryd.prog 7 #[.agg (snA s vr vm), .int .i64 m] w fun e w' => e = .returned (.int .i64 (m + (cntM s.m : Nat))) ∧ MemO w' lo hi (memV vr vm s.m.page s.m.screen s.m.locked) (markM s.m m) ∧ Touch lo hi w w' := by
  have hB := (Below.refl w.heap.size w).alloc (Nat.le_refl _) (.cells (snA s vr vm) 32)
  have q := Blk.new w (snA s vr vm) 32
  have hT := hid (Touch.of_below (lo := lo) (hi := hi) hB)
  have hM := hid (markm (memV vr vm s.m.page s.m.screen s.m.locked) s.m m lo hi _ (h.below hB hw) (by have := hB.size; omega) hs hm0 hm1)
  have x1 := hid (sn_mem q)
  obtain ⟨K, hK⟩ : ∃ K : Int, m + (cntM s.m : Nat) = K := ⟨_, rfl⟩
  rw [hK] at hM ⊢
  clear h hB q hK
  go_enter Tryd.func7, Tryd.ntmps7
  go_upto_region 1 with fail
  generalize w.alloc (.cells (snA s vr vm) 32) = V at *
  go_wp2_with (refine wpList_load_mid rfl 28 _ rfl w.heap.size 14 rfl [vr, vm, .int .i64 s.m.page, .int .i64 s.m.screen, .bool s.m.locked] _ x1.out Tryd.underlying28 rfl (szM _ _ _ _ _) ?_)
  refine hM.out.mono ?_
  rintro e w1 ⟨rfl, hO, ht⟩
  replace hO := hid hO
  replace ht := hid (hT.out.trans ht)
  clear hM hT x1
  go_wp2
  go_ret
  exact ⟨rfl, hO.out, ht.out⟩
set_option maxRecDepth 100000 in
theorem heldsn (s : Sn) (vr vm : Value) (m : Int) (w : World) (h : MemR w (memV vr vm s.m.page s.m.screen s.m.locked) (markM s.m m)) (hs : Small s.m) (hm0 : 0 ≤ m) (hm1 : m ≤ 10000000) :
    Calls Tryd.prog 8 #[.agg (snA s vr vm), .int .i64 m] w fun e w' => e = .returned (.int .i64 (m + (cntM s.m : Nat))) ∧ Below w.heap.size w w' := by
  have hB := hid ((Below.refl w.heap.size w).alloc (Nat.le_refl _) (.cells (snA s vr vm) 32))
  have q := Blk.new w (snA s vr vm) 32
  have hM := hid (heldm (memV vr vm s.m.page s.m.screen s.m.locked) s.m m _ (h.below hB.out) hs hm0 hm1)
  have x1 := hid (sn_mem q)
  obtain ⟨K, hK⟩ : ∃ K : Int, m + (cntM s.m : Nat) = K := ⟨_, rfl⟩
  have hK0 : ¬ K < 0 := by omega
  rw [hK] at hM ⊢
  clear h q hK
  go_enter Tryd.func8, Tryd.ntmps8
  go_upto_region 1 with fail
  generalize w.alloc (.cells (snA s vr vm) 32) = V at *
  go_wp2_with (refine wpList_load_mid rfl 28 _ rfl w.heap.size 14 rfl [vr, vm, .int .i64 s.m.page, .int .i64 s.m.screen, .bool s.m.locked] _ x1.out Tryd.underlying28 rfl (szM _ _ _ _ _) ?_)
  refine hM.out.mono ?_
  rintro e w1 ⟨rfl, hb⟩
  have hB1 := hid (new_trans hB.out hb)
  clear hb hB hM x1
  go_wp2
  go_ret
  exact ⟨rfl, hB1.out⟩
/-- two answers side by side, the second of which may be marked -/
structure LS (w W : World) (S : Sn) (M7 : Mem) (b5 b7 lo5 lo7 : Nat) (u5 m5 u7 m7 : Value) : Prop where
  ord : w.heap.size ≤ lo5 ∧ lo5 ≤ b5 ∧ b5 < lo7 ∧ lo7 ≤ b7 ∧ b7 < W.heap.size
  q5 : Blk W b5 (snA S u5 m5)
  q7 : Blk W b7 (snA S u7 m7)
  o5 : MemO W lo5 b5 (memV u5 m5 S.m.page S.m.screen S.m.locked) S.m
  o7 : MemO W lo7 b7 (memV u7 m7 S.m.page S.m.screen S.m.locked) M7
  bel : Below w.heap.size w W
theorem LS.below {w W W' : World} {S : Sn} {M7 : Mem} {b5 b7 lo5 lo7 : Nat} {u5 m5 u7 m7 : Value} (h : LS w W S M7 b5 b7 lo5 lo7 u5 m5 u7 m7) (hb : Below W.heap.size W W') : LS w W' S M7 b5 b7 lo5 lo7 u5 m5 u7 m7 := by
  have ho := h.ord
  have hs := hb.size
  exact ⟨by omega, h.q5.below hb h.q5.lt, h.q7.below hb h.q7.lt, h.o5.below hb (by omega), h.o7.below hb (by omega), new_trans h.bel hb⟩
theorem blk_touch {lo hi b : Nat} {w w' : World} {A : Array Value} (h : Blk w b A) (ht : Touch lo hi w w') (hd : b < lo ∨ hi ≤ b) : Blk w' b A := by
  obtain ⟨t, hh⟩ := id h
  exact ⟨t, (ht.block b h.lt (by omega)).trans hh⟩
theorem LS.mark {w W W' : World} {S : Sn} {M7 M8 : Mem} {b5 b7 lo5 lo7 : Nat} {u5 m5 u7 m7 : Value} (h : LS w W S M7 b5 b7 lo5 lo7 u5 m5 u7 m7) (ht : Touch lo7 b7 W W') (hm : MemO W' lo7 b7 (memV u7 m7 S.m.page S.m.screen S.m.locked) M8) : LS w W' S M8 b5 b7 lo5 lo7 u5 m5 u7 m7 := by
  have ho := h.ord
  have hs := ht.size
  exact ⟨by omega, blk_touch h.q5 ht (.inl ho.2.2.1), blk_touch h.q7 ht (.inr (Nat.le_refl _)), h.o5.touch ht (by omega) (.inl (by omega)), hm, ht.below h.bel (by omega) (by omega)⟩
/-- an answer goes into a box -/
theorem box_sn (w1 : World) (S : Sn) (u m : Value) : ∃ w2, (w1.alloc (.cells zS 32)).setCells w1.heap.size 0 (snA S u m).toList = w2 ∧ Below w1.heap.size w1 w2 ∧ Blk w2 w1.heap.size (snA S u m) ∧ (w1.alloc (.cells zS 32)).there w1.heap.size 0 (snA S u m).size := by
  have qn := Blk.new w1 zS 32
  refine ⟨_, rfl, layE_below _ 0 _ (Nat.le_refl _) ((Below.refl _ _).alloc (Nat.le_refl _) _), ?_, blk_there qn (by show 0 + 31 ≤ 31; omega)⟩
  rw [zS_eq] at qn
  have := layE_blk w1.heap.size (snA S u m).toList _ 0 _ qn
  rw [sn_layA] at this
  exact this
end Go.Proofs.YtghcagibdcblnaaDoor

/- What the program's 'when' answers. -/
namespace Go.Proofs.YtghcagibdcblnaaDoor
open Go.ChangeShapes Go.WideShapes Go.ChangeAt Go.RowKit
set_option linter.unusedVariables false
set_option linter.unusedSimpArgs false

def whS (p : Bool) (x : Int) : Int := cond p x 0
theorem below_drewN {b : Nat} {w V : World} (h : Below b w V) (n : Nat) : Below b w (V.drewN n) := ⟨h.os, h.tape, h.output, h.size, h.block⟩
theorem whenS_impl (p : Bool) (x : Int) (w : World) : Calls Tryd.prog 47 #[.bool p, .int .i64 x] w fun e w' => e = .returned (.int .i64 (whS p x)) ∧ w' = w := by
  cases p
  all_goals
    go_enter Tryd.func47, Tryd.ntmps47
    go_wp2
    go_ret
    exact ⟨rfl, rfl⟩
end Go.Proofs.YtghcagibdcblnaaDoor
