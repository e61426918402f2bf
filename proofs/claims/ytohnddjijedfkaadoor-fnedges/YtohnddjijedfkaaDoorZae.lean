/- The program's blocks: right or not, their sum, their text. -/
import Derived.Test.YtohnddjijedfkaaDoorUbe
import Derived.Lib.AppendStr
import Derived.Deep.AppendLies
namespace Go.Proofs.YtohnddjijedfkaaDoor
open Go.ChangeShapes Go.WideShapes Go.ChangeAt Go.RowKit
set_option linter.unusedVariables false
set_option linter.unusedSimpArgs false

theorem byteZ_impl (v : Int) (w : World) : Calls Tryd.prog 62 #[.int .i64 v] w fun e w' => e = .returned (.bool (inB v 0 255)) ∧ w' = w := by
  by_cases h0 : 0 ≤ v
  · by_cases h1 : v ≤ 255
    all_goals
      go_enter Tryd.func62, Tryd.ntmps62
      go_wp2
      go_ret
      exact ⟨ret_bool (by rw [Bool.eq_iff_iff]; simp [inB]; omega), rfl⟩
  · go_enter Tryd.func62, Tryd.ntmps62
    go_wp2
    go_ret
    exact ⟨ret_bool (by rw [Bool.eq_iff_iff]; simp [inB]; omega), rfl⟩
theorem bkokP_impl (f : Int) (s : ByteArray) (w : World) (hs : s.size ≤ maxLen) : Calls Tryd.prog 55 #[bkV f s] w fun e w' => e = .returned (.bool (okB f s)) ∧ Below w.heap.size w w' := by
  unfold maxLen at hs
  have hB := hid ((Below.refl w.heap.size w).alloc (Nat.le_refl _) (.cells (bkA f s) 63))
  have e : okB f s = (inB f 0 255 && decide (s.size ≤ 40)) := rfl
  rw [e]
  cases hb : inB f 0 255
  · go_enter Tryd.func55, Tryd.ntmps55
    go_wp2_with (go_at_call 62; refine (byteZ_impl _ _).mono ?_; rintro e w' ⟨rfl, hww⟩; obtain rfl := hww.symm; rw [hb])
    go_ret
    exact ⟨rfl, hB.out⟩
  · go_enter Tryd.func55, Tryd.ntmps55
    go_wp2_with (go_at_call 62; refine (byteZ_impl _ _).mono ?_; rintro e w' ⟨rfl, hww⟩; obtain rfl := hww.symm; rw [hb])
    go_ret
    exact ⟨ret_bool (by rw [Bool.eq_iff_iff]; simp; try omega), hB.out⟩
theorem sumP_impl (f : Int) (s : ByteArray) (w : World) (hs : s.size ≤ 40) : Calls Tryd.prog 64 #[bkV f s] w fun e w' => e = .returned (.int .i64 (sumB f s)) ∧ Below w.heap.size w w' := by
  have hB := hid ((Below.refl w.heap.size w).alloc (Nat.le_refl _) (.cells (bkA f s) 63))
  have q := Blk.new w (bkA f s) 63
  have x0 : (w.alloc (.cells (bkA f s) 63)).cell? ⟨w.heap.size, 0, none⟩ = some (.int .i64 f) := q.cell 0
  have x1 : (w.alloc (.cells (bkA f s) 63)).cell? ⟨w.heap.size, 1, none⟩ = some (.string s) := q.cell 1
  have hX := hid (fun w1 => xor_impl s w1 (by unfold maxLen; omega))
  have e0 : xorV s = xorN s s.size := if_neg (by omega)
  rw [e0] at hX
  have e : sumB f s = bits .xor .i64 f (xorN s s.size) := rfl
  rw [e]
  generalize xorN s s.size = X at *
  clear q e e0
  go_enter Tryd.func64, Tryd.ntmps64
  go_upto_region 1 with fail
  obtain ⟨V, hV⟩ : ∃ V, w.alloc (.cells (bkA f s) 63) = V := ⟨_, rfl⟩
  rw [hV] at hB x0 x1 ⊢
  clear hV
  go_quiet ((go_at_call 70; exact Calls.quiet_of_same (hX.out _)))
  go_wp2
  go_ret
  exact ⟨rfl, hB.out.trans ⟨rfl, rfl, rfl, Nat.le_refl _, fun _ _ => rfl⟩⟩
def numS (s : ByteArray) : List Int := s.data.toList.map fun b => (b.toNat : Int)
theorem numS_cells (s : ByteArray) : Lib.strCells s = (numS s).map (Value.int .u8) := by
  unfold Lib.strCells numS
  rw [List.map_map]
  rfl
theorem numS_len (s : ByteArray) : (numS s).length = s.size := by
  unfold numS
  rw [List.length_map, Array.length_toList]
  rfl
theorem strOfNums_app (a b : List Int) : strOfNums (a ++ b) = strOfNums a ++ strOfNums b := by
  apply ByteArray.ext
  rw [ByteArray.data_append]
  unfold strOfNums
  simp
theorem strOfNums_numS (s : ByteArray) : strOfNums (numS s) = s := by
  apply ByteArray.ext
  unfold strOfNums numS
  simp [Function.comp_def]
theorem bytB_nums (f : Int) (s : ByteArray) : strOfNums ([f] ++ numS s ++ [sumB f s]) = bytB f s := by
  rw [strOfNums_app, strOfNums_app, strOfNums_numS]
  rfl
theorem putV_small (v : Int) (h0 : 0 ≤ v) (h1 : v ≤ 65535) : putV ⟨#[]⟩ v = .tuple #[.string (strOfNums [v % 256, v / 256]), .int .i64 0] := by
  unfold putV
  rw [if_neg (by decide), if_neg (by omega), if_neg (by decide)]
  have : (⟨#[]⟩ : ByteArray) ++ strOfNums [v % 256, v / 256] = strOfNums [v % 256, v / 256] := by
    apply ByteArray.ext
    rw [ByteArray.data_append]
    simp
  rw [this]
/-- while a text is written: the block's box, the bytes so far -/
structure TxS (w W : World) (f : Int) (s : ByteArray) (v : Value) (xs : List Int) : Prop where
  box : Blk W w.heap.size (bkA f s)
  own : W.ownsRow (w.heap.size + 1) 5 1 v xs.length (xs.map (Value.int .u8))
  sz : w.heap.size + 1 ≤ W.heap.size
  bel : Below w.heap.size w W
theorem TxS.start (w : World) (f : Int) (s : ByteArray) : Blk (w.alloc (.cells (bkA f s) 63)) w.heap.size (bkA f s) ∧ Below w.heap.size w (w.alloc (.cells (bkA f s) 63)) ∧ w.heap.size + 1 ≤ (w.alloc (.cells (bkA f s) 63)).heap.size :=
  ⟨Blk.new w _ _, (Below.refl _ _).alloc (Nat.le_refl _) _, by simp⟩
theorem TxS.make {w V W : World} {f : Int} {s : ByteArray} {v : Value} (h : Blk V w.heap.size (bkA f s) ∧ Below w.heap.size w V ∧ w.heap.size + 1 ≤ V.heap.size) (hg : V.grownBy W none) (ho : W.ownsRow (w.heap.size + 1) 5 1 v 0 []) : TxS w W f s v [] :=
  ⟨h.1.grown hg (by simp), ho, Nat.le_trans h.2.2 hg.size, h.2.1.grown hg (by omega) (fun g e => by cases e)⟩
theorem TxS.app {w W W' : World} {f : Int} {s : ByteArray} {v v' : Value} {xs ys : List Int} {o : Obj} {n : Nat} {zs : List Value} (h : TxS w W f s v xs) (hg : (W.alloc o).grownBy W' v.ownBlock) (ho : W'.ownsRow (w.heap.size + 1) 5 1 v' n zs) (hn : n = (xs ++ ys).length := by simp) (hz : zs = (xs ++ ys).map (Value.int .u8) := by simp) : TxS w W' f s v' (xs ++ ys) := by
  subst hn
  subst hz
  have hne : v.ownBlock ≠ some w.heap.size := fun e => by have := (h.own.lt _ e).1; omega
  have h1 : w.heap.size ≤ (W.alloc o).heap.size := by have := h.sz; simp; omega
  refine ⟨(h.box.alloc o).grown hg (fun e => hne e.symm), ho, ?_, (h.bel.alloc (by have := h.sz; omega) o).grown hg h1 (fun g e => by have := (h.own.lt g e).1; omega)⟩
  have := hg.size
  have := h.sz
  simp at *
  omega
theorem TxS.apps {w W W' : World} {f : Int} {s : ByteArray} {v v' : Value} {xs ys : List Int} {n : Nat} {zs : List Value} (h : TxS w W f s v xs) (hg : W.grownBy W' v.ownBlock) (ho : W'.ownsRow (w.heap.size + 1) 5 1 v' n zs) (hn : n = (xs ++ ys).length) (hz : zs = (xs ++ ys).map (Value.int .u8)) : TxS w W' f s v' (xs ++ ys) := by
  subst hn
  subst hz
  have hne : v.ownBlock ≠ some w.heap.size := fun e => by have := (h.own.lt _ e).1; omega
  have h1 : w.heap.size ≤ W.heap.size := by have := h.sz; omega
  exact ⟨h.box.grown hg (fun e => hne e.symm), ho, Nat.le_trans h.sz hg.size, h.bel.grown hg h1 (fun g e => by have := (h.own.lt g e).1; omega)⟩
theorem TxS.below {w W W' : World} {f : Int} {s : ByteArray} {v : Value} {xs : List Int} (h : TxS w W f s v xs) (hb : Below W.heap.size W W') : TxS w W' f s v xs :=
  ⟨h.box.below hb h.box.lt, h.own.kept (row := none) ⟨hb.os, hb.tape, hb.output, hb.size, fun k hk _ => hb.block k hk⟩ (by cases h1 : v.ownBlock; exact .inl rfl; exact .inr (by simp)), Nat.le_trans h.sz hb.size, h.bel.trans (hb.mono (by have := h.sz; omega))⟩
set_option maxRecDepth 100000 in
set_option maxHeartbeats 2000000 in
theorem textP_impl (f : Int) (s : ByteArray) (w : World) (hok : okB f s = true) : Calls Tryd.prog 59 #[bkV f s] w fun e w' => e = .returned (.string (txtB f s)) ∧ Below w.heap.size w w' := by
  obtain ⟨⟨hf0, hf1⟩, hs⟩ := (okB_iff f s).1 hok
  obtain ⟨i0, hi0, hz0, hz1, hz2⟩ := info_parts infoU8
  have hSm := hid (fun W => sumP_impl f s W hs)
  obtain ⟨m, hm, hm2⟩ := sumB_nat f.toNat s (by omega)
  rw [show ((f.toNat : Nat) : Int) = f by omega] at hm
  have hstr := hid (bytB_nums f s)
  have hz := bytB_size f s
  have hPut := hid (fun W => put_impl ⟨#[]⟩ ((s.size + 2 : Nat) : Int) W (by unfold maxLen; decide))
  rw [putV_small _ (by omega) (by omega)] at hPut
  have z2 : (strOfNums [((s.size + 2 : Nat) : Int) % 256, ((s.size + 2 : Nat) : Int) / 256]).size = 2 := strOfNums_size _
  have e : txtB f s = strOfNums [((s.size + 2 : Nat) : Int) % 256, ((s.size + 2 : Nat) : Int) / 256] ++ bytB f s := rfl
  rw [e]
  clear e
  rw [hm] at hSm hstr
  generalize bytB f s = Y at *
  generalize strOfNums [((s.size + 2 : Nat) : Int) % 256, ((s.size + 2 : Nat) : Int) / 256] = D at *
  have hle : Y.size ≤ 42 := by omega
  have hcat : ¬ 9223372036854775807 < D.size + Y.size := by omega
  have hcat2 : ¬ 9223372036854775807 < 2 + Y.size := by omega
  have hT0 := hid (TxS.start w f s)
  obtain ⟨k, hk⟩ : ∃ k : Nat, s.size = k := ⟨_, rfl⟩
  have hkl : k ≤ 40 := by omega
  have z9 : Hid (Y.size = k + 2) := (by omega : Y.size = k + 2)
  have hnl : Hid ((numS s).length = k) := (by rw [numS_len]; exact hk : (numS s).length = k)
  have hcs := hid (numS_cells s)
  clear hs hz
  go_enter Tryd.func59, Tryd.ntmps59
  go_upto_region 1 with fail
  obtain ⟨V, hV⟩ : ∃ V, w.alloc (.cells (bkA f s) 63) = V := ⟨_, rfl⟩
  rw [hV] at hT0 ⊢
  clear hV
  have x0 := hT0.out.1.cell
  have hVs := hT0.out.2.2
  go_upto_region 2 with (at_make; refine wpList_make_own _ rfl _ _ 22 rfl (w.heap.size + 1) 5 i0 (.int .u8 0) 1 Tryd.underlying22 hi0 hz0 hz1 _ _ _ (k + 2) rfl rfl (by omega) (by rw [hz2]; omega) (by unfold maxLen; omega) hVs ?_; intro wm hownm hgrm; have hT1 := hid (TxS.make hT0.out hgrm hownm); clear x0 hT0 hownm hgrm hVs)
  have x1 := hT1.out.box.cell
  have o1 := hT1.out.own
  have l1 := hT1.out.sz
  replace o1 := hid o1
  go_upto_region 3 with (at_builtin; refine wpList_append_lies _ rfl _ _ 22 rfl (w.heap.size + 1) 5 i0 _ 1 1 Tryd.underlying22 hi0 hz0 hz1 hz2 rfl (by omega) _ 0 [] rfl (o1.out.alloc _) ⟨_, 0, none⟩ 1 1 [.int .u8 f] rfl rfl (World.news_of_block (cs := #[.int .u8 f]) (t := 5) (fr := (0, 0)) (heap_alloc_new _ _)) (by simp [Value.oneCell']) (by omega) (by unfold maxLen; omega) (by omega) (by simp; omega) _ rfl ?_; intro gg cap w1 hown1 hgrow hat hlt3; have hT2 : Hid (TxS w w1 f s _ [f]) := TxS.app (ys := [f]) hT1.out hgrow hown1; clear hown1 hgrow hat hlt3 x1 o1 l1 hT1)
  have x1 := hT2.out.box.cell
  have o1 := hT2.out.own
  have l1 := hT2.out.sz
  replace o1 := hid o1
  go_upto_region 4 with (at_builtin; refine Lib.wpList_append_own_string _ rfl _ _ 22 9 rfl (w.heap.size + 1) 5 i0 Tryd.underlying22 Tryd.underlying9 hi0 hz0 hz1 hz2 _ 1 _ rfl o1.out s rfl (by unfold maxLen; omega) (by omega) l1 ?_; intro v2 w2 hown2 hgrow hnil; have hT3 := hid (TxS.apps (ys := numS s) hT2.out hgrow hown2 (by have := hnl.out; simp; omega) (by simp only [hcs.out, List.map_append])); clear hown2 hgrow hnil x1 o1 l1 hT2)
  obtain ⟨g3, c3, hv3⟩ : ∃ a c, v2 = .slice a ([f] ++ numS s).length c := by
    rcases hT3.out.own.2 with ⟨h, h0⟩ | ⟨g, cap, _, h, _⟩
    · exact ⟨none, 0, by rw [h, h0]⟩
    · exact ⟨_, _, h⟩
  rw [hv3] at hT3 ⊢
  clear hv3
  have hn4 : ([f] ++ numS s).length = k + 1 := by have := hnl.out; simp; omega
  rw [hn4] at hT3 ⊢
  have x1 := hT3.out.box.cell
  go_wp2_with fail
  refine (hSm.out _).mono ?_
  rintro e w4 ⟨rfl, hb4⟩
  have hT4 := hid (hT3.out.below hb4)
  clear hb4 x1 hT3 hSm
  have o1 := hT4.out.own
  have l1 := hT4.out.sz
  rw [hn4] at o1
  replace o1 := hid o1
  have hm3 : (m : Int) ≤ 255 := by omega
  clear hn4
  go_upto_region 5 with (at_builtin; refine wpList_append_lies _ rfl _ _ 22 rfl (w.heap.size + 1) 5 i0 _ 1 1 Tryd.underlying22 hi0 hz0 hz1 hz2 rfl (by omega) _ (k + 1) _ rfl (o1.out.alloc _) ⟨_, 0, none⟩ 1 1 [.int .u8 (m : Int)] rfl rfl (World.news_of_block (cs := #[.int .u8 (m : Int)]) (t := 5) (fr := (0, 0)) (heap_alloc_new _ _)) (by simp [Value.oneCell']) (by omega) (by unfold maxLen; omega) (by omega) (by simp; omega) _ rfl ?_; intro g5 cap5 w5 hown5 hgrow hat hlt3; have hT5 := hid (TxS.app (xs := [f] ++ numS s) (ys := [(m : Int)]) hT4.out hgrow hown5 (by have := hnl.out; simp; omega) (by simp only [List.map_append, List.map_cons, List.map_nil])); clear hown5 hgrow hat hlt3 o1 l1 hT4)
  have hput2 : Hid (∀ W, Calls Tryd.prog 65 #[.string ⟨#[]⟩, .int .i64 ((k : Int) + 2)] W fun e w' => e = .returned (.tuple #[.string D, .int .i64 0]) ∧ Below W.heap.size W w') := by
    have h := hPut.out
    rw [show ((s.size + 2 : Nat) : Int) = (k : Int) + 2 by omega] at h
    exact h
  clear hPut
  go_wp2_with fail
  refine (hput2.out _).mono ?_
  rintro e w6 ⟨rfl, hb6⟩
  have hT6 := hid (hT5.out.below hb6)
  have hcv := own_string hT6.out.own
  rw [hstr.out] at hcv
  clear hb6 hput2 hT5
  go_wp2
  go_ret
  exact ⟨rfl, hT6.out.bel⟩
end Go.Proofs.YtohnddjijedfkaaDoor
