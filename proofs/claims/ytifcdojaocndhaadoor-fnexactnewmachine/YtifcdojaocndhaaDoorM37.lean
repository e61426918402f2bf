/- The program's blocks: right or not, their sum, their text. -/
import Derived.Test.YtifcdojaocndhaaDoorUbm
import Derived.Lib.AppendStr
import Derived.Deep.AppendLies
import Derived.Test.YtifcdojaocndhaaDoorM36
import Derived.Sort.CutIn
import Derived.Sort.AtCallIn
namespace Go.Proofs.YtifcdojaocndhaaDoor
open Go.ChangeShapes Go.WideShapes Go.ChangeAt Go.RowKit
set_option linter.unusedVariables false
set_option linter.unusedSimpArgs false

theorem byteZ_impl (v : Int) (w : World) : Calls Tryd.prog 68 #[.int .i64 v] w fun e w' => e = .returned (.bool (inB v 0 255)) ∧ w' = w := by
  by_cases h0 : 0 ≤ v
  · by_cases h1 : v ≤ 255
    all_goals
      go_enter Tryd.func68, Tryd.ntmps68
      go_wp2
      go_ret
      exact ⟨ret_bool (by rw [Bool.eq_iff_iff]; simp [inB]; omega), rfl⟩
  · go_enter Tryd.func68, Tryd.ntmps68
    go_wp2
    go_ret
    exact ⟨ret_bool (by rw [Bool.eq_iff_iff]; simp [inB]; omega), rfl⟩
theorem bkokP_impl (f : Int) (s : ByteArray) (w : World) (hs : s.size ≤ maxLen) : Calls Tryd.prog 161 #[bkV f s] w fun e w' => e = .returned (.bool (okB f s)) ∧ Below w.heap.size w w' := by
  unfold maxLen at hs
  have hB := hid ((Below.refl w.heap.size w).alloc (Nat.le_refl _) (.cells (bkA f s) 75))
  have e : okB f s = (inB f 0 255 && decide (s.size ≤ 40)) := rfl
  rw [e]
  cases hb : inB f 0 255
  · go_enter Tryd.func161, Tryd.ntmps161
    go_wp2_with (go_at_call 68; refine (byteZ_impl _ _).mono ?_; rintro e w' ⟨rfl, hww⟩; obtain rfl := hww.symm; rw [hb])
    go_ret
    exact ⟨rfl, hB.out⟩
  · go_enter Tryd.func161, Tryd.ntmps161
    go_wp2_with (go_at_call 68; refine (byteZ_impl _ _).mono ?_; rintro e w' ⟨rfl, hww⟩; obtain rfl := hww.symm; rw [hb])
    go_ret
    exact ⟨ret_bool (by rw [Bool.eq_iff_iff]; simp; try omega), hB.out⟩
theorem sumP_impl (f : Int) (s : ByteArray) (w : World) (hs : s.size ≤ 40) : Calls Tryd.prog 177 #[bkV f s] w fun e w' => e = .returned (.int .i64 (sumB f s)) ∧ Below w.heap.size w w' := by
  have hB := hid ((Below.refl w.heap.size w).alloc (Nat.le_refl _) (.cells (bkA f s) 75))
  have q := Blk.new w (bkA f s) 75
  have x0 : (w.alloc (.cells (bkA f s) 75)).cell? ⟨w.heap.size, 0, none⟩ = some (.int .i64 f) := q.cell 0
  have x1 : (w.alloc (.cells (bkA f s) 75)).cell? ⟨w.heap.size, 1, none⟩ = some (.string s) := q.cell 1
  have hX := hid (fun w1 => xor_impl s w1 (by unfold maxLen; omega))
  have e0 : xorV s = xorN s s.size := if_neg (by omega)
  rw [e0] at hX
  have e : sumB f s = bits .xor .i64 f (xorN s s.size) := rfl
  rw [e]
  generalize xorN s s.size = X at *
  clear q e e0
  go_enter Tryd.func177, Tryd.ntmps177
  go_upto_region 1 with fail
  obtain ⟨V, hV⟩ : ∃ V, w.alloc (.cells (bkA f s) 75) = V := ⟨_, rfl⟩
  rw [hV] at hB x0 x1 ⊢
  clear hV
  go_quiet ((go_at_call 181; exact Calls.quiet_of_same (hX.out _)))
  go_wp2
  go_ret
  exact ⟨rfl, hB.out.trans ⟨rfl, rfl, rfl, Nat.le_refl _, fun _ _ => rfl⟩⟩
def numS (s : ByteArray) : List Int := s.data.toList.map fun b => (b.toNat : Int)
theorem numS_cells (s : ByteArray) : Lib.strCells s = (numS s).map (Value.int .u8) := by
  unfold Lib.strCells numS
  rw [List.map_map]
  rfl
theorem numS_len (s : ByteArray) : (numS s).length = s.size := by
  unfold numS
  rw [List.length_map, Array.length_toList]
  rfl
theorem strOfNums_app (a b : List Int) : strOfNums (a ++ b) = strOfNums a ++ strOfNums b := by
  apply ByteArray.ext
  rw [ByteArray.data_append]
  unfold strOfNums
  simp
theorem strOfNums_numS (s : ByteArray) : strOfNums (numS s) = s := by
  apply ByteArray.ext
  unfold strOfNums numS
  simp [Function.comp_def]
theorem bytB_nums (f : Int) (s : ByteArray) : strOfNums ([f] ++ numS s ++ [sumB f s]) = bytB f s := by
  rw [strOfNums_app, strOfNums_app, strOfNums_numS]
  rfl
theorem putV_small (v : Int) (h0 : 0 ≤ v) (h1 : v ≤ 65535) : putV ⟨#[]⟩ v = .tuple #[.string (strOfNums [v % 256, v / 256]), .int .i64 0] := by
  unfold putV
  rw [if_neg (by decide), if_neg (by omega), if_neg (by decide)]
  have : (⟨#[]⟩ : ByteArray) ++ strOfNums [v % 256, v / 256] = strOfNums [v % 256, v / 256] := by
    apply ByteArray.ext
    rw [ByteArray.data_append]
    simp
  rw [this]
/-- while a text is written: the block's box, the bytes so far -/
structure TxS (w W : World) (f : Int) (s : ByteArray) (v : Value) (xs : List Int) : Prop where
  box : Blk W w.heap.size (bkA f s)
  own : W.ownsRow (w.heap.size + 1) 5 1 v xs.length (xs.map (Value.int .u8))
  sz : w.heap.size + 1 ≤ W.heap.size
  bel : Below w.heap.size w W
theorem TxS.start (w : World) (f : Int) (s : ByteArray) : Blk (w.alloc (.cells (bkA f s) 75)) w.heap.size (bkA f s) ∧ Below w.heap.size w (w.alloc (.cells (bkA f s) 75)) ∧ w.heap.size + 1 ≤ (w.alloc (.cells (bkA f s) 75)).heap.size :=
  ⟨Blk.new w _ _, (Below.refl _ _).alloc (Nat.le_refl _) _, by simp⟩
theorem TxS.make {w V W : World} {f : Int} {s : ByteArray} {v : Value} (h : Blk V w.heap.size (bkA f s) ∧ Below w.heap.size w V ∧ w.heap.size + 1 ≤ V.heap.size) (hg : V.grownBy W none) (ho : W.ownsRow (w.heap.size + 1) 5 1 v 0 []) : TxS w W f s v [] :=
  ⟨h.1.grown hg (by simp), ho, Nat.le_trans h.2.2 hg.size, h.2.1.grown hg (by omega) (fun g e => by cases e)⟩
theorem TxS.app {w W W' : World} {f : Int} {s : ByteArray} {v v' : Value} {xs ys : List Int} {o : Obj} {n : Nat} {zs : List Value} (h : TxS w W f s v xs) (hg : (W.alloc o).grownBy W' v.ownBlock) (ho : W'.ownsRow (w.heap.size + 1) 5 1 v' n zs) (hn : n = (xs ++ ys).length := by simp) (hz : zs = (xs ++ ys).map (Value.int .u8) := by simp) : TxS w W' f s v' (xs ++ ys) := by
  subst hn
  subst hz
  have hne : v.ownBlock ≠ some w.heap.size := fun e => by have := (h.own.lt _ e).1; omega
  have h1 : w.heap.size ≤ (W.alloc o).heap.size := by have := h.sz; simp; omega
  refine ⟨(h.box.alloc o).grown hg (fun e => hne e.symm), ho, ?_, (h.bel.alloc (by have := h.sz; omega) o).grown hg h1 (fun g e => by have := (h.own.lt g e).1; omega)⟩
  have := hg.size
  have := h.sz
  simp at *
  omega
theorem TxS.apps {w W W' : World} {f : Int} {s : ByteArray} {v v' : Value} {xs ys : List Int} {n : Nat} {zs : List Value} (h : TxS w W f s v xs) (hg : W.grownBy W' v.ownBlock) (ho : W'.ownsRow (w.heap.size + 1) 5 1 v' n zs) (hn : n = (xs ++ ys).length) (hz : zs = (xs ++ ys).map (Value.int .u8)) : TxS w W' f s v' (xs ++ ys) := by
  subst hn
  subst hz
  have hne : v.ownBlock ≠ some w.heap.size := fun e => by have := (h.own.lt _ e).1; omega
  have h1 : w.heap.size ≤ W.heap.size := by have := h.sz; omega
  exact ⟨h.box.grown hg (fun e => hne e.symm), ho, Nat.le_trans h.sz hg.size, h.bel.grown hg h1 (fun g e => by have := (h.own.lt g e).1; omega)⟩
theorem TxS.below {w W W' : World} {f : Int} {s : ByteArray} {v : Value} {xs : List Int} (h : TxS w W f s v xs) (hb : Below W.heap.size W W') : TxS w W' f s v xs :=
  ⟨h.box.below hb h.box.lt, h.own.kept (row := none) ⟨hb.os, hb.tape, hb.output, hb.size, fun k hk _ => hb.block k hk⟩ (by cases h1 : v.ownBlock; exact .inl rfl; exact .inr (by simp)), Nat.le_trans h.sz hb.size, h.bel.trans (hb.mono (by have := h.sz; omega))⟩
set_option maxRecDepth 100000 in
set_option maxHeartbeats 2000000 in
theorem textP_impl (f : Int) (s : ByteArray) (w : World) (hok : okB f s = true) : Calls Tryd.prog 165 #[bkV f s] w fun e w' => e = .returned (.string (txtB f s)) ∧ Below w.heap.size w w' := by
  obtain ⟨⟨hf0, hf1⟩, hs⟩ := (okB_iff f s).1 hok
  obtain ⟨i0, hi0, hz0, hz1, hz2⟩ := info_parts infoU8
  have hSm := hid (fun W => sumP_impl f s W hs)
  obtain ⟨m, hm, hm2⟩ := sumB_nat f.toNat s (by omega)
  rw [show ((f.toNat : Nat) : Int) = f by omega] at hm
  have hstr := hid (bytB_nums f s)
  have hz := bytB_size f s
  have hPut := hid (fun W => put_impl ⟨#[]⟩ ((s.size + 2 : Nat) : Int) W (by unfold maxLen; decide))
  rw [putV_small _ (by omega) (by omega)] at hPut
  have z2 : (strOfNums [((s.size + 2 : Nat) : Int) % 256, ((s.size + 2 : Nat) : Int) / 256]).size = 2 := strOfNums_size _
  have e : txtB f s = strOfNums [((s.size + 2 : Nat) : Int) % 256, ((s.size + 2 : Nat) : Int) / 256] ++ bytB f s := rfl
  rw [e]
  clear e
  rw [hm] at hSm hstr
  generalize bytB f s = Y at *
  generalize strOfNums [((s.size + 2 : Nat) : Int) % 256, ((s.size + 2 : Nat) : Int) / 256] = D at *
  have hle : Y.size ≤ 42 := by omega
  have hcat : ¬ 9223372036854775807 < D.size + Y.size := by omega
  have hcat2 : ¬ 9223372036854775807 < 2 + Y.size := by omega
  have hT0 := hid (TxS.start w f s)
  obtain ⟨k, hk⟩ : ∃ k : Nat, s.size = k := ⟨_, rfl⟩
  have hkl : k ≤ 40 := by omega
  have z9 : Hid (Y.size = k + 2) := (by omega : Y.size = k + 2)
  have hnl : Hid ((numS s).length = k) := (by rw [numS_len]; exact hk : (numS s).length = k)
  have hcs := hid (numS_cells s)
  clear hs hz
  go_enter Tryd.func165, Tryd.ntmps165
  go_upto_region 1 with fail
  obtain ⟨V, hV⟩ : ∃ V, w.alloc (.cells (bkA f s) 75) = V := ⟨_, rfl⟩
  rw [hV] at hT0 ⊢
  clear hV
  have x0 := hT0.out.1.cell
  have hVs := hT0.out.2.2
  go_upto_region 2 with (at_make; refine wpList_make_own _ rfl _ _ 119 rfl (w.heap.size + 1) 5 i0 (.int .u8 0) 1 Tryd.underlying119 hi0 hz0 hz1 _ _ _ (k + 2) rfl rfl (by omega) (by rw [hz2]; omega) (by unfold maxLen; omega) hVs ?_; intro wm hownm hgrm; have hT1 := hid (TxS.make hT0.out hgrm hownm); clear x0 hT0 hownm hgrm hVs)
  have x1 := hT1.out.box.cell
  have o1 := hT1.out.own
  have l1 := hT1.out.sz
  replace o1 := hid o1
  go_upto_region 3 with (at_builtin; refine wpList_append_lies _ rfl _ _ 119 rfl (w.heap.size + 1) 5 i0 _ 1 1 Tryd.underlying119 hi0 hz0 hz1 hz2 rfl (by omega) _ 0 [] rfl (o1.out.alloc _) ⟨_, 0, none⟩ 1 1 [.int .u8 f] rfl rfl (World.news_of_block (cs := #[.int .u8 f]) (t := 5) (fr := (0, 0)) (heap_alloc_new _ _)) (by simp [Value.oneCell']) (by omega) (by unfold maxLen; omega) (by omega) (by simp; omega) _ rfl ?_; intro gg cap w1 hown1 hgrow hat hlt3; have hT2 : Hid (TxS w w1 f s _ [f]) := TxS.app (ys := [f]) hT1.out hgrow hown1; clear hown1 hgrow hat hlt3 x1 o1 l1 hT1)
  have x1 := hT2.out.box.cell
  have o1 := hT2.out.own
  have l1 := hT2.out.sz
  replace o1 := hid o1
  go_upto_region 4 with (at_builtin; refine Lib.wpList_append_own_string _ rfl _ _ 119 9 rfl (w.heap.size + 1) 5 i0 Tryd.underlying119 Tryd.underlying9 hi0 hz0 hz1 hz2 _ 1 _ rfl o1.out s rfl (by unfold maxLen; omega) (by omega) l1 ?_; intro v2 w2 hown2 hgrow hnil; have hT3 := hid (TxS.apps (ys := numS s) hT2.out hgrow hown2 (by have := hnl.out; simp; omega) (by simp only [hcs.out, List.map_append])); clear hown2 hgrow hnil x1 o1 l1 hT2)
  obtain ⟨g3, c3, hv3⟩ : ∃ a c, v2 = .slice a ([f] ++ numS s).length c := by
    rcases hT3.out.own.2 with ⟨h, h0⟩ | ⟨g, cap, _, h, _⟩
    · exact ⟨none, 0, by rw [h, h0]⟩
    · exact ⟨_, _, h⟩
  rw [hv3] at hT3 ⊢
  clear hv3
  have hn4 : ([f] ++ numS s).length = k + 1 := by have := hnl.out; simp; omega
  rw [hn4] at hT3 ⊢
  have x1 := hT3.out.box.cell
  go_wp2_with fail
  refine (hSm.out _).mono ?_
  rintro e w4 ⟨rfl, hb4⟩
  have hT4 := hid (hT3.out.below hb4)
  clear hb4 x1 hT3 hSm
  have o1 := hT4.out.own
  have l1 := hT4.out.sz
  rw [hn4] at o1
  replace o1 := hid o1
  have hm3 : (m : Int) ≤ 255 := by omega
  clear hn4
  go_upto_region 5 with (at_builtin; refine wpList_append_lies _ rfl _ _ 119 rfl (w.heap.size + 1) 5 i0 _ 1 1 Tryd.underlying119 hi0 hz0 hz1 hz2 rfl (by omega) _ (k + 1) _ rfl (o1.out.alloc _) ⟨_, 0, none⟩ 1 1 [.int .u8 (m : Int)] rfl rfl (World.news_of_block (cs := #[.int .u8 (m : Int)]) (t := 5) (fr := (0, 0)) (heap_alloc_new _ _)) (by simp [Value.oneCell']) (by omega) (by unfold maxLen; omega) (by omega) (by simp; omega) _ rfl ?_; intro g5 cap5 w5 hown5 hgrow hat hlt3; have hT5 := hid (TxS.app (xs := [f] ++ numS s) (ys := [(m : Int)]) hT4.out hgrow hown5 (by have := hnl.out; simp; omega) (by simp only [List.map_append, List.map_cons, List.map_nil])); clear hown5 hgrow hat hlt3 o1 l1 hT4)
  have hput2 : Hid (∀ W, Calls Tryd.prog 178 #[.string ⟨#[]⟩, .int .i64 ((k : Int) + 2)] W fun e w' => e = .returned (.tuple #[.string D, .int .i64 0]) ∧ Below W.heap.size W w') := by
    have h := hPut.out
    rw [show ((s.size + 2 : Nat) : Int) = (k : Int) + 2 by omega] at h
    exact h
  clear hPut
  go_wp2_with fail
  refine (hput2.out _).mono ?_
  rintro e w6 ⟨rfl, hb6⟩
  have hT6 := hid (hT5.out.below hb6)
  have hcv := own_string hT6.out.own
  rw [hstr.out] at hcv
  clear hb6 hput2 hT5
  go_wp2
  go_ret
  exact ⟨rfl, hT6.out.bel⟩
end Go.Proofs.YtifcdojaocndhaaDoor

/- The pulses of a block, one by one to whoever asks for them: the program's iterator. -/
namespace Go.Proofs.YtifcdojaocndhaaDoor
open Go.ChangeShapes Go.WideShapes Go.ChangeAt Go.RowKit Go.Shelf
attribute [local go_sem] Oper.semAt_some
set_option linter.unusedVariables false
set_option linter.unusedSimpArgs false

theorem txt_tail (F : Int) (D : ByteArray) : (txtB F D).extract 2 (txtB F D).size = bytB F D := by
  have e : txtB F D = strOfNums [((D.size + 2 : Nat) : Int) % 256, ((D.size + 2 : Nat) : Int) / 256] ++ bytB F D := rfl
  obtain ⟨h, hh⟩ : ∃ h, strOfNums [((D.size + 2 : Nat) : Int) % 256, ((D.size + 2 : Nat) : Int) / 256] = h := ⟨_, rfl⟩
  have hs : h.size = 2 := by rw [← hh, strOfNums_size]; rfl
  rw [e, hh, ByteArray.size_append, hs]
  rw [ByteArray.extract_append_eq_right] <;> first | rfl | omega | (rw [ByteArray.size_append]; omega) | skip
theorem pilot_impl (F : Int) (w : World) : Calls Tryd.prog 163 #[.int .i64 F] w fun e w' => e = .returned (.int .i64 (pilN F : Nat)) ∧ w' = w := by
  by_cases h : F < 128
  · have e : pilN F = 16 := if_pos h
    rw [e]
    go_enter Tryd.func163, Tryd.ntmps163
    go_wp2
    go_ret
    exact ⟨rfl, rfl⟩
  · have e : pilN F = 8 := if_neg h
    rw [e]
    go_enter Tryd.func163, Tryd.ntmps163
    go_wp2
    go_ret
    exact ⟨rfl, rfl⟩
theorem blockPulses_impl (F : Int) (D : ByteArray) (w : World) : Calls Tryd.prog 133 #[bkV F D] w fun e w' => e = .returned (.func (.func 162) #[] #[.pointer (some ⟨w.heap.size, 0, none⟩)]) ∧ w' = w.alloc (.cells (bkA F D) 75) := by
  go_enter Tryd.func133, Tryd.ntmps133
  go_wp2
  go_ret
  exact ⟨rfl, rfl⟩
theorem Blk.ne_of_size {W : World} {b : Nat} {A : Array Value} (h : Blk W b A) : b ≠ W.heap.size := fun e => by have := h.lt; omega
set_option maxRecDepth 100000 in
set_option maxHeartbeats 4000000 in
theorem bpit_impl {base Y N : Nat} {fix : List Nat} {S : World → Value → List Int → Prop} (K : Sink base Y fix (fun _ => True) N S) (F : Int) (D : ByteArray) (hok : okB F D = true) (BB : Nat) (W : World) (v : Value) (pre : List Int) (h : S W v pre) (hq : Blk W BB (bkA F D)) (hf : BB ∉ fix) (hn : v.ownBlock ≠ some BB) (hT : Tim W) (hg : 3 < base) (hN : pre.length + 1024 ≤ N) :
    Calls Tryd.prog 162 #[.func (.yield Y) #[] #[], .pointer (some ⟨BB, 0, none⟩)] W fun e W' => e = .returned (.tuple #[]) ∧ ∃ v', S W' v' (pre ++ plsB F D) ∧ Kp fix W v W' v' := by
  obtain ⟨⟨hF0, hF1⟩, hD⟩ := (okB_iff F D).1 hok
  have hCs := bytB_size F D
  have htx := txtB_size F D
  have hPN := pilN_le F
  have hPi := hid (fun W => pilot_impl F W)
  have hTx := hid (fun W => textP_impl F D W hok)
  have hpls : Hid (plsB F D = List.replicate (pilN F) 48 ++ [12] ++ [14] ++ dbl (bitL (bytB F D) (8 * (bytB F D).size))) := by
    unfold plsB headL
    simp
    exact trivial
  have hB1 := (Below.refl W.heap.size W).alloc (Nat.le_refl _) (.cells #[.func (.yield Y) #[] #[]] 114)
  have hS1 := hid (K.below h hB1)
  have hq1 := hid (hq.below hB1 hq.lt)
  have hV1 := hid (Blk.new W #[.func (.yield Y) #[] #[]] 114)
  have hkp1 : Hid (Kp fix W v (W.alloc (.cells #[.func (.yield Y) #[] #[]] 114)) v) := Kp.below hB1
  have hlt0 := hid (K.lt h)
  have hT1 : Hid (Tim (W.alloc (.cells #[.func (.yield Y) #[] #[]] 114))) := hT.kept (hB1.block _ (Nat.lt_of_lt_of_le hg (K.lt h).2.2))
  have hVf : Hid (W.heap.size ∉ fix ∧ v.ownBlock ≠ some W.heap.size ∧ base ≤ W.heap.size) := ⟨fun hb => by have := ((K.lt h).1 _ hb).2; omega, fun e => by have := ((K.lt h).2.1 _ e).2; omega, (K.lt h).2.2⟩
  replace hf := hid hf
  replace hn := hid hn
  replace K := hid K
  have htl := txt_tail F D
  rw [htx] at htl
  clear h hq hT hB1
  refine (callsIn_wide (n := 4)).1 (callsIn_of_wp_marks Tryd.func162 rfl trivial ?_ rfl)
  simp only [Tryd.ntmps162, List.size_toArray, List.length_cons, List.length_nil, Nat.reduceAdd, Nat.reduceSub, Array.replicate_succ, Array.replicate_zero, List.push_toArray, List.append_toArray, List.nil_append, List.cons_append]
  have x1 := hq1.out.cell
  have l1 := hq1.out.lt
  gi_wp2_with fail
  refine ⟨trivial, ?_⟩
  refine (callsIn_wide.2 (hPi.out _)).mono ?_
  rintro e w' ⟨rfl, hw'⟩
  obtain rfl := hw'.symm
  obtain ⟨W1, hW1⟩ : ∃ W1, W.alloc (.cells #[.func (.yield Y) #[] #[]] 114) = W1 := ⟨_, rfl⟩
  rw [hW1] at hS1 hq1 hV1 hkp1 hT1 ⊢
  obtain ⟨V, hV⟩ : ∃ V, W.heap.size = V := ⟨_, rfl⟩
  rw [hV] at hV1 hVf ⊢
  generalize pilN F = PN at *
  clear x1 l1 hW1
  gi_wp2
  gi_loopw [8] (fun i wr => ∃ (k : Nat) (v' : Value), k ≤ PN ∧ i = .int .i64 k ∧ S wr v' (pre ++ List.replicate k 48) ∧ Kp fix W1 v wr v') (fun i _ => PN - (intOf i).toNat)
  case atStart => exact ⟨0, v, by omega, rfl, by rw [List.replicate_zero, List.append_nil]; exact hS1.out, Kp.refl _ _ _⟩
  case round =>
    obtain ⟨k, v1, hk, rfl, hS, hK⟩ := hrel
    clear hS1
    by_cases hlt : k < PN
    · have hL1 : (pre ++ List.replicate k (48 : Int)).length < N := by rw [List.length_append, List.length_replicate]; omega
      obtain ⟨fn, tmps, assign, body, hy, hR⟩ := K.out.step 3 48 hS trivial hL1
      have hqb := hK.blk hV1.out hVf.out.1 hVf.out.2.1
      have x1 := hqb.cell
      have l1 := hqb.lt
      replace hR := hid hR
      replace hK := hid hK
      clear hS hqb hL1
      gi_wp2
      refine hR.out.mono ?_
      rintro e W3 ⟨rfl, v3, hS3, hK3⟩
      have hK4 := hid (hK.out.trans hK3)
      have hS4 : Hid (S W3 v3 (pre ++ List.replicate (k + 1) 48)) := by
        rw [List.replicate_succ', ← List.append_assoc]
        exact hS3
      clear hS3 hK3 hy hR x1 hK
      gi_wp2
      go_roundw
      case rel => exact ⟨k + 1, v3, by omega, by go_num, hS4.out, hK4.out⟩
      case measure => simp [intOf] <;> omega
    · obtain rfl : k = PN := by omega
      have hL1 : (pre ++ List.replicate k (48 : Int)).length < N := by rw [List.length_append, List.length_replicate]; omega
      have hL2 : (pre ++ List.replicate k (48 : Int) ++ [12]).length < N := by rw [List.length_append, List.length_append, List.length_replicate]; show _ + 1 < N; omega
      have hL3 : (pre ++ List.replicate k (48 : Int) ++ [12] ++ [14]).length + 2 * 400 ≤ N := by rw [List.length_append, List.length_append, List.length_append, List.length_replicate]; show _ + 1 + 1 + 2 * 400 ≤ N; omega
      have hpl2 : Hid (pre ++ plsB F D = pre ++ List.replicate k (48 : Int) ++ [12] ++ [14] ++ dbl (bitL (bytB F D) (8 * (bytB F D).size))) := by
        rw [hpls.out]
        simp
        exact trivial
      clear hpls
      generalize pre ++ List.replicate k (48 : Int) = P1 at *
      obtain ⟨fn1, tm1, as1, bo1, hy1, hR1⟩ := K.out.step 3 12 hS trivial hL1
      have hqb := hK.blk hV1.out hVf.out.1 hVf.out.2.1
      have x1 := hqb.cell
      have l1 := hqb.lt
      replace hR1 := hid hR1
      replace hK := hid hK
      clear hS hqb hL1
      gi_wp2
      refine hR1.out.mono ?_
      rintro e W3 ⟨rfl, v3, hS3, hK3⟩
      have hK4 := hK.out.trans hK3
      obtain ⟨fn2, tm2, as2, bo2, hy2, hR2⟩ := K.out.step 3 14 hS3 trivial hL2
      have hqb := hK4.blk hV1.out hVf.out.1 hVf.out.2.1
      have x3 := hqb.cell
      have l3 := hqb.lt
      replace hR2 := hid hR2
      replace hK4 := hid hK4
      clear hS3 hK3 hy1 hR1 x1 l1 hK hqb hL2
      gi_wp2
      refine hR2.out.mono ?_
      rintro e W4 ⟨rfl, v4, hS4, hK3⟩
      have hK5 := hK4.out.trans hK3
      have hq4 := hK5.blk hq1.out hf.out hn.out
      have hV4 := hid (hK5.blk hV1.out hVf.out.1 hVf.out.2.1)
      have x4 := hq4.cell
      have l4 := hq4.lt
      replace hK5 := hid hK5
      replace hS4 := hid hS4
      clear hK3 hy2 hR2 x3 l3 hK4 hq4
      gi_wp2_with fail
      refine ⟨trivial, ?_⟩
      refine (callsIn_wide.2 (hTx.out _)).mono ?_
      rintro e W5 ⟨rfl, hb5⟩
      have hS5 := hid (K.out.below hS4.out hb5)
      have hV5 := hid (hV4.out.below hb5 hV4.out.lt)
      have hK6 := hid (hK5.out.trans (Kp.below hb5 (fix := fix) (v := v4)))
      clear hS4 hV4 hK5 hb5 x4 l4 hTx
      have hEB := hid (fun W => eachBit_impl (bytB F D) W)
      generalize txtB F D = TX at *
      obtain ⟨X, hX⟩ : ∃ X, bytB F D = X := ⟨_, rfl⟩
      rw [hX] at hEB hCs htl hpl2
      clear hX
      gi_wp2_with fail
      refine ⟨trivial, ?_⟩
      refine (callsIn_wide.2 (hEB.out _)).mono ?_
      rintro e W6 ⟨rfl, hw6⟩
      have hb6 : Below W5.heap.size W5 W6 := by rw [hw6]; exact (Below.refl _ _).alloc (Nat.le_refl _) _
      have hq6 : Blk W6 W5.heap.size #[.string X] := by rw [hw6]; exact Blk.new W5 _ _
      have hS6 := K.out.below hS5.out hb6
      have hV6 := hV5.out.below hb6 hV5.out.lt
      have hK7 := hK6.out.trans (Kp.below hb6 (fix := fix) (v := v4))
      have hs6 : W6.heap.size = W5.heap.size + 1 := by rw [hw6]; simp
      replace hS6 := hid hS6
      replace hV6 := hid hV6
      replace hK7 := hid hK7
      replace hq6 := hid hq6
      have hBT : Hid (W5.heap.size ∉ fix ∧ v4.ownBlock ≠ some W5.heap.size ∧ V < W5.heap.size) := ⟨fun hb => by have := ((K.out.lt hS5.out).1 _ hb).2; omega, fun e => by have := ((K.out.lt hS5.out).2.1 _ e).2; omega, hV5.out.lt⟩
      clear hb6 hw6 hS5 hV5 hK6 hEB
      gi_wp2_with fail
      refine wpIn_rangeFunc ?_
      intro fn hfn
      obtain ⟨R, hR⟩ : ∃ R : Loop, R = { state := .ready, pending := none, fn := fn, tmps := bpT (.func (.yield Y) #[] #[]) (.pointer (some ⟨BB, 0, none⟩)) undef undef (.pointer (some ⟨BB, 0, none⟩)) (.int .i64 F) (.int .i64 k) (.int .i64 k) (.bool false) u10 u11 u12 u13 (.func (.yield Y) #[] #[]) (.bool true) (.bool false) (.bool false) (.func (.yield Y) #[] #[]) (.bool true) (.bool false) (.bool false) (.agg #[.int .i64 F, .string D]) (.string TX) (.string X) (.func (.func 176) #[] #[.pointer (some ⟨W5.heap.size, 0, none⟩)]) V undef, params := #[26], assign := bpAs, body := bpBd, defers := W6.heap.size } := ⟨_, rfl⟩
      obtain ⟨p, hp⟩ : ∃ p : Pm, p = { V := V, DF := W6.heap.size, L := W6.heap.size + 1, R := R } := ⟨_, rfl⟩
      refine ⟨W6.heap.size + 1, [{ target := .collected W6.heap.size, args := #[] }], (W6.alloc (.deferred (some []))).alloc (.loop R), { target := .fn (.func 176) #[.pointer (some ⟨W5.heap.size, 0, none⟩)], args := #[.func (.yield (W6.heap.size + 1)) #[] #[]] }, (W6.alloc (.deferred (some []))).alloc (.loop R), 176, #[.func (.yield (W6.heap.size + 1)) #[] #[], .pointer (some ⟨W5.heap.size, 0, none⟩)], (W6.alloc (.deferred (some []))).alloc (.loop R), ?_, ?_, fun _ _ => trivial, ?_, fun _ => by omega, ?_⟩
      · rw [hR]
        exact run_enterLoop_outer _ _ _ _ _
      · simp [resolve, go_sem]
      · simp [invoke, go_sem, enters_of Tryd.func176 (by kernel_rfl) rfl]
      have hb7 : Below W6.heap.size W6 ((W6.alloc (.deferred (some []))).alloc (.loop R)) := ((Below.refl _ _).alloc (Nat.le_refl _) _).alloc (by simp) _
      have hL7 : ((W6.alloc (.deferred (some []))).alloc (.loop R)).heap[W6.heap.size + 1]? = some (.loop R) := by
        have := World.alloc_heap_new (W6.alloc (.deferred (some []))) (.loop R)
        rwa [World.size_alloc] at this
      have hD7 : ((W6.alloc (.deferred (some []))).alloc (.loop R)).heap[W6.heap.size]? = some (.deferred (some [])) := (Below.heap_alloc _ _ _ (by simp)).trans (World.alloc_heap_new W6 _)
      obtain ⟨W7, hW7⟩ : ∃ W7, (W6.alloc (.deferred (some []))).alloc (.loop R) = W7 := ⟨_, rfl⟩
      rw [hW7] at hb7 hL7 hD7 ⊢
      clear hW7
      obtain ⟨b1, b2, b3⟩ := hBT.out
      obtain ⟨f1, f2, f3⟩ := hVf.out
      have hlt6 := K.out.lt hS6.out
      have hpb : p.V = V ∧ p.DF = W6.heap.size ∧ p.L = W6.heap.size + 1 ∧ p.R = R := by subst hp; exact ⟨rfl, rfl, rfl, rfl⟩
      obtain ⟨k1, k2, k3, k4⟩ := hpb
      have hbs : ∀ b, b ∈ p.bs → b = V ∨ b = W6.heap.size ∨ b = W6.heap.size + 1 := fun b hb => by
        have hb' : b ∈ [p.V, p.DF, p.L] := hb
        simp only [List.mem_cons, List.not_mem_nil, or_false] at hb'
        omega
      have hSep : p.Sep base fix := by
        refine ⟨by omega, fun b hb => ?_⟩
        rcases hbs b hb with rfl | rfl | rfl
        · exact ⟨f3, f1⟩
        · exact ⟨hlt6.2.2, fun hm => by have := (hlt6.1 _ hm).2; omega⟩
        · exact ⟨by have := hlt6.2.2; omega, fun hm => by have := (hlt6.1 _ hm).2; omega⟩
      have hv4 : v4.ownBlock ≠ some V := hK7.out.ne hV1.out.lt f2
      have hT6 : Tim W6 := hT1.out.kept (hK7.out.same _ (World.block_lt_of_cell? W1 _ hT1.out.1) (fun hm => by have := (hlt6.1 _ hm).1; omega) (fun e => by have := hlt0.out.2.1 _ e; omega))
      have hSm : Sm base S Y p (P1 ++ [12] ++ [14]) W7 v4 [] := by
        refine ⟨?_, ?_, by rw [k2]; exact hD7, by rw [k3, k4]; exact hL7, fun b hb => ?_, hT6.kept (hb7.block _ (World.block_lt_of_cell? W6 _ hT6.1))⟩
        · show S W7 v4 (P1 ++ [12] ++ [14] ++ [])
          rw [List.append_nil]
          exact K.out.below hS6.out hb7
        · rw [k1]
          exact hV6.out.below hb7 hV6.out.lt
        · rcases hbs b hb with rfl | rfl | rfl
          · exact hv4
          · exact fun e => by have := (hlt6.2.1 _ e).2; omega
          · exact fun e => by have := (hlt6.2.1 _ e).2; omega
      have hpe : p.R = { state := .ready, pending := none, fn := fn, tmps := bpT (.func (.yield Y) #[] #[]) (.pointer (some ⟨BB, 0, none⟩)) undef undef (.pointer (some ⟨BB, 0, none⟩)) (.int .i64 F) (.int .i64 k) (.int .i64 k) (.bool false) u10 u11 u12 u13 (.func (.yield Y) #[] #[]) (.bool true) (.bool false) (.bool false) (.func (.yield Y) #[] #[]) (.bool true) (.bool false) (.bool false) (.agg #[.int .i64 F, .string D]) (.string TX) (.string X) (.func (.func 176) #[] #[.pointer (some ⟨W5.heap.size, 0, none⟩)]) p.V undef, params := #[26], assign := bpAs, body := bpBd, defers := p.DF } := by
        rw [k4, k1, k2]
        exact hR
      have hsk := bp_sink K.out p hSep hg (P1 ++ [12] ++ [14]) 400 hL3 fn _ _ _ _ _ _ _ _ _ _ _ _ _ _ _ _ _ _ _ _ _ _ _ _ _ hpe
      have hit := bitit_impl hsk (fun b hb => by omega) X W5.heap.size W7 v4 [] hSm (hq6.out.below hb7 hq6.out.lt) (fun hm => by
        rcases List.mem_append.1 hm with hm | hm
        · have := hbs _ hm
          omega
        · exact b1 hm) b2 (by omega) (by simp; omega) 1
      rw [k3] at hit
      refine hit.mono ?_
      rintro e W8 ⟨rfl, v8, hS8, hK8⟩
      rw [List.nil_append] at hS8
      have hl8 := hS8.lp
      have hend := run_endLoop (P := Tryd.prog) hl8 (by rw [hpe]; simp)
      have hpend : p.R.pending = none := by rw [hpe]
      obtain ⟨W9, hW9⟩ : ∃ W9, W8.putObj p.L (.loop { p.R with state := .exhausted }) = W9 := ⟨_, rfl⟩
      rw [hW9] at hend
      rw [k3] at hend
      have k9 : ∀ b, b ≠ p.L → W9.heap[b]? = W8.heap[b]? := fun b hb => by rw [← hW9, World.putObj_heap_other (by omega)]
      have hD9 : W9.heap[W6.heap.size]? = some (.deferred (some [])) := by
        rw [← k2]
        exact (k9 _ (by omega)).trans hS8.df
      have hfin : Hid (∃ v', S (W9.putObj W6.heap.size (.deferred none)) v' (pre ++ plsB F D) ∧ Kp fix W v (W9.putObj W6.heap.size (.deferred none)) v') := by
        have ke : ∀ b, b ≠ p.L → b ≠ p.DF → (W9.putObj W6.heap.size (.deferred none)).heap[b]? = W8.heap[b]? := fun b h1 h2 => by rw [World.putObj_heap_other (by omega)]; exact k9 b h1
        have se : (W9.putObj W6.heap.size (.deferred none)).heap.size = W8.heap.size := by rw [← hW9]; simp [World.putObj]
        have m1 := p.mem.2.1
        have m2 := p.mem.2.2
        refine ⟨v8, ?_, ?_⟩
        · rw [hpl2.out]
          refine K.out.cong hS8.s ⟨by rw [← hW9]; rfl, by rw [← hW9]; rfl, by rw [← hW9]; rfl, by omega, fun b hb => ke b (fun e => by have := (hSep.far _ m2).1; omega) (fun e => by have := (hSep.far _ m1).1; omega), fun b hb => ke b (fun e => (hSep.far _ m2).2 (e ▸ hb)) (fun e => (hSep.far _ m1).2 (e ▸ hb)), fun g e => ke g (fun e2 => hS8.ne _ m2 (e2 ▸ e)) (fun e2 => hS8.ne _ m1 (e2 ▸ e))⟩
        · have hKa := hkp1.out.trans (hK7.out.trans (Kp.below hb7 (fix := fix) (v := v4)))
          have hz7 := hKa.size
          have hz8 := hK8.size
          have h67 := hb7.size
          refine ⟨by omega, fun b hb hf2 ho => ?_, ?_⟩
          · have hbb : b ∉ p.bs := fun hm => by
              have := hbs _ hm
              omega
            have hbL : b ≠ p.L := fun e => hbb (e ▸ m2)
            have hbD : b ≠ p.DF := fun e => hbb (e ▸ m1)
            rw [ke b hbL hbD, hK8.same b (by omega) (fun hm => by
              rcases List.mem_append.1 hm with hm | hm
              · exact hbb hm
              · exact hf2 hm) (hKa.ne hb ho)]
            exact hKa.same b hb hf2 ho
          · rcases hK8.own with e | ⟨g, e, hl⟩
            · rw [e]
              exact hKa.own
            · exact .inr ⟨g, e, by omega⟩
      refine ⟨p.R.pending, W9, hend, ?_⟩
      rw [hpend]
      rw [hs6] at hD9 hfin
      replace hD9 := hid hD9
      clear hend hpend hl8 hS8 hK8 hit hsk hpe hSm hSep hW9 k9 hT6 hv4 k1 k2 k3 k4 hlt6 hL7 hD7 hb7 hR hp
      gi_wp2
      refine ⟨by simp, .inl ⟨_, _, rfl, run_takeDeferred hD9.out, ?_⟩⟩
      refine ⟨.tuple #[], ?_, rfl, hfin.out⟩
      simp [results, Tryd.results162]
end Go.Proofs.YtifcdojaocndhaaDoor
