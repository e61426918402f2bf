/- A snapshot is read: the specification. -/
import Derived.Test.YtghcagibdcblnaaDoorR26
namespace Go.Proofs.YtghcagibdcblnaaDoor
open Go.ChangeShapes Go.WideShapes Go.ChangeAt Go.RowKit
set_option linter.unusedVariables false
set_option linter.unusedSimpArgs false

theorem bts_getD (t : ByteArray) {k : Nat} (h : k < t.size) : (bts t).getD k 0 = byt t k := by
  rw [List.getD_eq_getElem?_getD, bts_at t h]
  rfl
abbrev z64 : List Int := List.replicate 64 0
def ramK (B : List (List Int)) (Z : List Int) (i k : Nat) : List (List Int) := B ++ ((Z.take k ++ List.replicate (64 - k) 0) :: List.replicate (3 - i) z64)
theorem ramK_start (B : List (List Int)) (Z : List Int) {i : Nat} (hi : i < 4) : ramK B Z i 0 = B ++ List.replicate (4 - i) z64 := by
  unfold ramK
  have e : 4 - i = (3 - i) + 1 := by omega
  rw [e, List.replicate_succ]
  rfl
theorem ramK_end (B : List (List Int)) {Z : List Int} {i : Nat} (hi : i < 4) (hZ : Z.length = 64) : ramK B Z i 64 = (B ++ [Z]) ++ List.replicate (4 - (i + 1)) z64 := by
  unfold ramK
  have e : 4 - (i + 1) = 3 - i := by omega
  rw [e, List.take_of_length_le (by omega)]
  simp
theorem ramK_row {B : List (List Int)} {Z : List Int} {i k : Nat} (hB : B.length = i) (hZ : Z.length = 64) (hk : k ≤ 64) : i < (ramK B Z i k).length ∧ (ramK B Z i k).length = i + 1 + (3 - i) ∧ (ramK B Z i k).getD i [] = Z.take k ++ List.replicate (64 - k) 0 ∧ ((ramK B Z i k).getD i []).length = 64 := by
  unfold ramK
  have e : (B ++ ((Z.take k ++ List.replicate (64 - k) 0) :: List.replicate (3 - i) z64)).getD i [] = Z.take k ++ List.replicate (64 - k) 0 := by
    rw [List.getD_eq_getElem?_getD, List.getElem?_append_right (by omega), hB, Nat.sub_self]
    rfl
  refine ⟨by simp; omega, by simp; omega, e, ?_⟩
  rw [e]
  simp
  omega
theorem ramK_set {B : List (List Int)} {Z : List Int} {i k : Nat} (hB : B.length = i) (hZ : Z.length = 64) (hk : k < 64) : (ramK B Z i k).set i (((ramK B Z i k).getD i []).set k (Z.getD k 0)) = ramK B Z i (k + 1) := by
  rw [(ramK_row hB hZ (by omega)).2.2.1]
  unfold ramK
  rw [List.set_append_right _ _ (by omega), hB, Nat.sub_self, List.set_cons_zero]
  congr 2
  have e1 : (Z.take k).length = k := by rw [List.length_take]; omega
  rw [List.set_append_right _ _ (by omega), e1, Nat.sub_self]
  have e2 : 64 - k = (64 - (k + 1)) + 1 := by omega
  rw [e2, List.replicate_succ, List.set_cons_zero]
  have e3 : Z.take (k + 1) = Z.take k ++ [Z.getD k 0] := (take_getE (by omega)).symm
  rw [e3, List.append_assoc]
  rfl
theorem take_okS {s : ByteArray} {a n : Nat} (h : a + n ≤ s.size) (hs : s.size ≤ 65536) : takeV s a n = ((s, ((a + n : Nat) : Int)), s.extract a (a + n), 0) := by
  have hst : stB s (a : Int) = true := by unfold stB; simp; omega
  unfold takeV
  rw [if_neg (by rw [hst]; simp), if_neg (by omega), if_neg (by omega)]
  have e : ((a : Int) + (n : Int)) = ((a + n : Nat) : Int) := by omega
  rw [e, Int.toNat_natCast, Int.toNat_natCast]
theorem take_cutS {s : ByteArray} {a n : Nat} (h : s.size < a + n) (ha : a ≤ s.size) (hs : s.size ≤ 65536) (hn : n ≤ 65536) : takeV s a n = ((s, (a : Int)), ByteArray.empty, 9) := by
  have hst : stB s (a : Int) = true := by unfold stB; simp; omega
  unfold takeV
  rw [if_neg (by rw [hst]; simp), if_neg (by omega), if_pos (by omega)]
theorem Rd.drew {w W : World} {SB lo mh : Nat} {vr vm : Value} {S : Sn} (h : Rd w W SB lo mh vr vm S) : Rd w W.drew SB lo mh vr vm S := ⟨h.res, h.box, h.mem.kept (fun _ _ _ => rfl), h.ord, h.bel.drew⟩
theorem Rd.other {w W : World} {SB lo mh b j : Nat} {vr vm : Value} {S : Sn} (h : Rd w W SB lo mh vr vm S) (hb : mh ≤ b) (hs : b ≠ SB) (u : Value) : Rd w (W.setCell ⟨b, j, none⟩ u) SB lo mh vr vm S := by
  have ho := h.ord
  exact ⟨h.res.other (by simp; omega) u, h.box.other (by simp; omega) u, h.mem.kept (fun y _ hy => Below.heap_setCell _ _ _ _ (by show y ≠ b; omega)), by rw [sizeSet]; exact ho, h.bel.setCell (p := ⟨b, j, none⟩) (by simp; omega) u⟩
set_option maxRecDepth 100000 in
set_option maxHeartbeats 4000000 in
theorem lread_short (t rom : ByteArray) (w : World) (h : t.size < 15) : Calls Tryd.prog 9 #[.string t, .string rom] w (RdOut w (rdS (romL rom) (bts t))) := by
  have e : rdS (romL rom) (bts t) = (sn0, 9) := by unfold rdS; rw [if_pos (by rw [bts_len]; exact h)]
  rw [e]
  have q := hid (Blk.new w zS 32)
  have hb := hid ((Below.refl w.heap.size w).alloc (Nat.le_refl _) (.cells zS 32))
  clear e
  have hc : (t.size : Int) < 15 := by omega
  go_enter Tryd.func9, Tryd.ntmps9
  go_upto_region 1 with fail
  obtain ⟨V, hV⟩ : ∃ V, w.alloc (.cells zS 32) = V := ⟨_, rfl⟩
  rw [hV] at q hb ⊢
  clear hV
  rw [zS_eq] at q
  have hth := hid (blk_there q.out (o := 0) (n := (snA sn0 nl nl).size) (by show 0 + 31 ≤ 31; omega))
  obtain ⟨wF, hwF⟩ : ∃ X, (V).setCells w.heap.size 0 (snA sn0 nl nl).toList = X := ⟨_, rfl⟩
  have hRF : Hid (Blk wF w.heap.size (snA sn0 nl nl)) := by
    rw [← hwF]
    have := layE_blk w.heap.size (snA sn0 nl nl).toList _ 0 _ q.out
    rw [sn_layA] at this
    exact this
  have hBF : Hid (Below w.heap.size w wF) := by rw [← hwF]; exact layE_below _ 0 _ (Nat.le_refl _) hb.out
  replace hwF := hid hwF
  clear q hb
  go_upto_region 2 with fail
  go_wp2_with (guard_target = wpList _ _ _ (Oper.mk _ (Op.store _ _ _) _ _ _ _ :: _) _ _; refine wpList_store_mid rfl 32 _ _ rfl w.heap.size 0 (snA sn0 nl nl) rfl rfl hth.out (szS2 _ _ _) (sn_one _ rfl rfl) ?_; rw [hwF.out])
  obtain ⟨tt, htt⟩ := hRF.out
  exact bodyPost_ret (v := .tuple #[.agg (snA sn0 nl nl), .int .i64 9]) (results_cell_tmpS Tryd.results9 _ _ w.heap.size tt (snA sn0 nl nl) (0, 0) _ _ rfl rfl htt Tryd.underlying32 rfl (szS2 _ _ _)) rfl ⟨nl, nl, rfl, MemO.zero _ _ _, hBF.out⟩
set_option maxRecDepth 100000 in
set_option maxHeartbeats 4000000 in
theorem lread_model (t rom : ByteArray) (w : World) (h : ¬ t.size < 15) (ht : t.size ≤ 65536) (h0 : byt t 0 ≠ 3) : Calls Tryd.prog 9 #[.string t, .string rom] w (RdOut w (rdS (romL rom) (bts t))) := by
  have e : rdS (romL rom) (bts t) = (sn0, 18) := by unfold rdS; rw [if_neg (by rw [bts_len]; exact h), if_pos (by rw [bts_getD t (by omega)]; exact h0)]
  rw [e]
  have q := hid (Blk.new w zS 32)
  have hb := hid ((Below.refl w.heap.size w).alloc (Nat.le_refl _) (.cells zS 32))
  clear e
  have hc : ¬ (t.size : Int) < 15 := by omega
  have hx := run_idx t 0 0 rfl (by omega)
  have hd : (byt t 0 == 3) = false := by rw [beq_eq_false_iff_ne]; exact h0
  generalize byt t 0 = B0 at *
  clear h0
  go_enter Tryd.func9, Tryd.ntmps9
  go_upto_region 1 with fail
  obtain ⟨V, hV⟩ : ∃ V, w.alloc (.cells zS 32) = V := ⟨_, rfl⟩
  rw [hV] at q hb ⊢
  clear hV
  rw [zS_eq] at q
  have hth := hid (blk_there q.out (o := 0) (n := (snA sn0 nl nl).size) (by show 0 + 31 ≤ 31; omega))
  obtain ⟨wF, hwF⟩ : ∃ X, (V).setCells w.heap.size 0 (snA sn0 nl nl).toList = X := ⟨_, rfl⟩
  have hRF : Hid (Blk wF w.heap.size (snA sn0 nl nl)) := by
    rw [← hwF]
    have := layE_blk w.heap.size (snA sn0 nl nl).toList _ 0 _ q.out
    rw [sn_layA] at this
    exact this
  have hBF : Hid (Below w.heap.size w wF) := by rw [← hwF]; exact layE_below _ 0 _ (Nat.le_refl _) hb.out
  replace hwF := hid hwF
  clear q hb
  go_upto_region 4 with fail
  go_wp2_with (guard_target = wpList _ _ _ (Oper.mk _ (Op.store _ _ _) _ _ _ _ :: _) _ _; refine wpList_store_mid rfl 32 _ _ rfl w.heap.size 0 (snA sn0 nl nl) rfl rfl hth.out (szS2 _ _ _) (sn_one _ rfl rfl) ?_; rw [hwF.out])
  obtain ⟨tt, htt⟩ := hRF.out
  exact bodyPost_ret (v := .tuple #[.agg (snA sn0 nl nl), .int .i64 18]) (results_cell_tmpS Tryd.results9 _ _ w.heap.size tt (snA sn0 nl nl) (0, 0) _ _ rfl rfl htt Tryd.underlying32 rfl (szS2 _ _ _)) rfl ⟨nl, nl, rfl, MemO.zero _ _ _, hBF.out⟩
/-- the processor while its registers are read -/
abbrev cuK (t : ByteArray) (F SP PC : Int) (k : Nat) : Cu := ⟨if 0 < k then byt t 1 else 0, if 1 < k then byt t 2 else 0, if 2 < k then byt t 3 else 0, if 3 < k then byt t 4 else 0, if 4 < k then byt t 5 else 0, if 5 < k then byt t 6 else 0, if 6 < k then byt t 7 else 0, if 7 < k then byt t 8 else 0, F, SP, PC, false, false, false⟩
theorem cuK_set (t : ByteArray) (F SP PC : Int) {k : Nat} (hk : k < 8) (M : Mem) (p : Po) (vr vm : Value) : (snA ⟨cuK t F SP PC k, M, p⟩ vr vm).setIfInBounds k (.int .i64 (byt t (1 + k))) = snA ⟨cuK t F SP PC (k + 1), M, p⟩ vr vm := by
  rcases eight hk with rfl | rfl | rfl | rfl | rfl | rfl | rfl | rfl
  all_goals simp
theorem sn_setA (c : Cu) (M : Mem) (p : Po) (vr vm : Value) (a b d : Bool) (l : Bool) (sc pg : Int) : ((((((snA ⟨c, M, p⟩ vr vm).setIfInBounds 11 (.bool a)).setIfInBounds 12 (.bool b)).setIfInBounds 13 (.bool d)).setIfInBounds 18 (.bool l)).setIfInBounds 17 (.int .i64 sc)).setIfInBounds 16 (.int .i64 pg) = snA ⟨{ c with iff := a, ei := b, halt := d }, { M with locked := l, screen := sc, page := pg }, p⟩ vr vm := by
  simp only [List.setIfInBounds_toArray, List.set_cons_zero, List.set_cons_succ]
theorem Rd.six {w W : World} {SB lo mh : Nat} {vr vm : Value} {S : Sn} (h : Rd w W SB lo mh vr vm S) (a b d l : Bool) (sc pg : Int) : Rd w ((((((W.setCell ⟨SB, 11, none⟩ (.bool a)).setCell ⟨SB, 12, none⟩ (.bool b)).setCell ⟨SB, 13, none⟩ (.bool d)).setCell ⟨SB, 18, none⟩ (.bool l)).setCell ⟨SB, 17, none⟩ (.int .i64 sc)).setCell ⟨SB, 16, none⟩ (.int .i64 pg)) SB lo mh vr vm ⟨{ S.c with iff := a, ei := b, halt := d }, { S.m with locked := l, screen := sc, page := pg }, S.p⟩ := by
  have h1 := h.cell 11 (.bool a) ⟨{ S.c with iff := a }, S.m, S.p⟩ (by simp only [List.setIfInBounds_toArray, List.set_cons_zero, List.set_cons_succ]) rfl rfl
  have h2 := h1.cell 12 (.bool b) ⟨{ S.c with iff := a, ei := b }, S.m, S.p⟩ (by simp only [List.setIfInBounds_toArray, List.set_cons_zero, List.set_cons_succ]) rfl rfl
  have h3 := h2.cell 13 (.bool d) ⟨{ S.c with iff := a, ei := b, halt := d }, S.m, S.p⟩ (by simp only [List.setIfInBounds_toArray, List.set_cons_zero, List.set_cons_succ]) rfl rfl
  have h4 := h3.cell 18 (.bool l) ⟨{ S.c with iff := a, ei := b, halt := d }, { S.m with locked := l }, S.p⟩ (by simp only [List.setIfInBounds_toArray, List.set_cons_zero, List.set_cons_succ]) rfl rfl
  have h5 := h4.cell 17 (.int .i64 sc) ⟨{ S.c with iff := a, ei := b, halt := d }, { S.m with locked := l, screen := sc }, S.p⟩ (by simp only [List.setIfInBounds_toArray, List.set_cons_zero, List.set_cons_succ]) rfl rfl
  exact h5.cell 16 (.int .i64 pg) ⟨{ S.c with iff := a, ei := b, halt := d }, { S.m with locked := l, screen := sc, page := pg }, S.p⟩ (by simp only [List.setIfInBounds_toArray, List.set_cons_zero, List.set_cons_succ]) rfl rfl
set_option maxRecDepth 100000 in
set_option maxHeartbeats 8000000 in
theorem lread_go (t rom : ByteArray) (w : World) (h : ¬ t.size < 15) (ht : t.size ≤ 65536) (h0 : byt t 0 = 3) (hr : rom.size = 64) : Calls Tryd.prog 9 #[.string t, .string rom] w (RdOut w (rdS (romL rom) (bts t))) := by
  have hN := hid (fun W => new_spec rom W (by unfold maxLen; omega))
  have eC : newC rom = 0 := by unfold newC; rw [if_neg (by omega), if_pos hr]
  have eM : newM rom = ⟨romL rom, List.replicate 4 (List.replicate 64 0), 0, 1, false⟩ := by unfold newM; rw [if_pos hr]
  rw [eC, eM] at hN
  clear eC eM
  have hc : ¬ (t.size : Int) < 15 := by omega
  have hx0 := run_idx t 0 0 rfl (by omega)
  rw [h0] at hx0
  have i9 := hid (run_idx t 9 9 rfl (by omega))
  have i10 := hid (run_idx t 10 10 rfl (by omega))
  have i11 := hid (run_idx t 11 11 rfl (by omega))
  have i12 := run_idx t 12 12 rfl (by omega)
  have i13 := run_idx t 13 13 rfl (by omega)
  have i14 := run_idx t 14 14 rfl (by omega)
  have b9 := byt_bd t 9
  have b10 := byt_bd t 10
  have b11 := byt_bd t 11
  have b12 := byt_bd t 12
  have b13 := byt_bd t 13
  have b14 := byt_bd t 14
  obtain ⟨n12, e12⟩ : ∃ n : Nat, byt t 12 = (n : Int) := ⟨(byt t 12).toNat, by omega⟩
  obtain ⟨n14, e14⟩ : ∃ n : Nat, byt t 14 = (n : Int) := ⟨(byt t 14).toNat, by omega⟩
  rw [e12] at i12 b12
  rw [e14] at i14 b14
  have hCS : Hid ({ cuK t (byt t 9) (byt t 10) (byt t 11) 8 with iff := bitAt n12 1, ei := bitAt n12 2, halt := bitAt n12 4 } = cuS (bts t)) := by
    unfold Hid cuS
    rw [bts_getD t (show 1 < t.size by omega), bts_getD t (show 2 < t.size by omega), bts_getD t (show 3 < t.size by omega), bts_getD t (show 4 < t.size by omega), bts_getD t (show 5 < t.size by omega), bts_getD t (show 6 < t.size by omega), bts_getD t (show 7 < t.size by omega), bts_getD t (show 8 < t.size by omega), bts_getD t (show 9 < t.size by omega), bts_getD t (show 10 < t.size by omega), bts_getD t (show 11 < t.size by omega), bts_getD t (show 12 < t.size by omega), e12]
    rfl
  have hMe : Hid (∀ B, meS (romL rom) (bts t) B = ⟨romL rom, B, byt t 13, 1 + 2 * ((n12 : Int) / 16 % 2), bitAt n12 8⟩) := by
    intro B
    unfold meS
    rw [bts_getD t (show 12 < t.size by omega), bts_getD t (show 13 < t.size by omega), e12]
  have hHead : rdS (romL rom) (bts t) = if 31 < (n12 : Int) ∨ 31 < (n14 : Int) ∨ 3 < byt t 13 ∨ okC (cuS (bts t)) = false then (sn0, 3)
      else if (rdB 4 ((bts t).drop 15)).2.2 ≠ 0 then (sn0, (rdB 4 ((bts t).drop 15)).2.2) else if (rdB 4 ((bts t).drop 15)).2.1 ≠ [] then (sn0, 8)
      else (⟨cuS (bts t), meS (romL rom) (bts t) (rdB 4 ((bts t).drop 15)).1, poS (n14 : Int)⟩, 0) := by
    unfold rdS
    rw [if_neg (by rw [bts_len]; exact h), if_neg (by rw [bts_getD t (by omega)]; exact fun hh => hh h0), bts_getD t (show 12 < t.size by omega), bts_getD t (show 13 < t.size by omega), bts_getD t (show 14 < t.size by omega), e12, e14]
  generalize rdS (romL rom) (bts t) = RES at hHead ⊢
  replace hHead := hid hHead
  have q := hid (Blk.new w zS 32)
  have hb := hid ((Below.refl w.heap.size w).alloc (Nat.le_refl _) (.cells zS 32))
  go_enter Tryd.func9, Tryd.ntmps9
  go_upto_region 1 with fail
  obtain ⟨V, hV⟩ : ∃ V, w.alloc (.cells zS 32) = V := ⟨_, rfl⟩
  have hVs : Hid (V.heap.size = w.heap.size + 1) := by unfold Hid; rw [← hV]; simp
  rw [hV] at q hb ⊢
  clear hV
  rw [zS_eq] at q
  go_wp2_with fail
  refine (hN.out V).mono ?_
  rintro e w1 ⟨u, rfl, hO, hb1⟩
  obtain ⟨vr, vm, rfl, o1, o2⟩ := memO_form hO
  have q1 := q.out.below hb1 q.out.lt
  have hB1 := new_trans hb.out hb1
  have qz := Blk.new w1 (mC nl nl mem0) 28
  have hthM := hid (blk_there qz (o := 0) (n := (mC vr vm ⟨romL rom, List.replicate 4 (List.replicate 64 0), 0, 1, false⟩).size) (by show 0 + 5 ≤ 5; omega))
  have hMo := mC_one ⟨romL rom, List.replicate 4 (List.replicate 64 0), 0, 1, false⟩ o1 o2
  obtain ⟨w2, hw2⟩ : ∃ X, (w1.alloc (.cells (mC nl nl mem0) 28)).setCells w1.heap.size 0 (mC vr vm ⟨romL rom, List.replicate 4 (List.replicate 64 0), 0, 1, false⟩).toList = X := ⟨_, rfl⟩
  have hb2 : Below w1.heap.size w1 w2 := by rw [← hw2]; exact layE_below _ 0 _ (Nat.le_refl _) ((Below.refl _ _).alloc (Nat.le_refl _) _)
  have qM : Hid (Blk w2 w1.heap.size (mC vr vm ⟨romL rom, List.replicate 4 (List.replicate 64 0), 0, 1, false⟩)) := by rw [← hw2]; exact layE_blk w1.heap.size _ _ 0 _ qz
  obtain ⟨V2, hV2⟩ : ∃ X, w1.alloc (.cells (mC nl nl mem0) 28) = X := ⟨_, rfl⟩
  rw [hV2] at hthM hw2
  have hV3 : w1.alloc (.cells #[.slice none 0 0, .slice none 0 0, .int .i64 0, .int .i64 0, .bool false] 28) = V2 := hV2
  clear qz hV2
  have hRes : Hid (Blk w2 w.heap.size (snA sn0 nl nl) ∧ MemO w2 V.heap.size w1.heap.size (memV vr vm 0 1 false) ⟨romL rom, List.replicate 4 (List.replicate 64 0), 0, 1, false⟩ ∧ Below w.heap.size w w2 ∧ V.heap.size ≤ w1.heap.size ∧ w1.heap.size < w2.heap.size) := ⟨q1.below hb2 q1.lt, hO.below hb2 (Nat.le_refl _), new_trans hB1 hb2, hb1.size, qM.out.lt⟩
  replace hw2 := hid hw2
  clear q hb hO hb1 q1 hB1 hb2 hN
  go_upto_region 6 with (guard_target = wpList _ _ _ (Oper.mk _ (Op.store _ _ _) _ _ _ _ :: _) _ _; refine wpList_store_mid rfl 28 _ _ rfl w1.heap.size 0 (mC vr vm ⟨romL rom, List.replicate 4 (List.replicate 64 0), 0, 1, false⟩) rfl rfl hthM.out (szM2 _ _ _) hMo ?_; rw [hw2.out])
  clear hw2 hthM hMo hV3
  refine ep_reg _ w2 _ t (byt t 9) (byt t 10) (byt t 11) ⟨romL rom, List.replicate 4 (List.replicate 64 0), 0, 1, false⟩ vr vm w1.heap.size rfl rfl i9.out i10.out i11.out b9 b10 b11 qM.out o1 o2 (by simp) ?_
  rintro w3 SB ⟨hb3, hSB, qS⟩
  simp only [putsA, Act.put, List.setIfInBounds_toArray, List.set_cons_zero, List.set_cons_succ]
  obtain ⟨k1, k2, k3, k4, k5⟩ := hRes.out
  have hRd0 : Rd w w3 SB V.heap.size w1.heap.size vr vm ⟨cuK t (byt t 9) (byt t 10) (byt t 11) 0, ⟨romL rom, List.replicate 4 (List.replicate 64 0), 0, 1, false⟩, neP⟩ := by
    have hs3 := hb3.size
    have hv := hVs.out
    exact ⟨k1.below hb3 k1.lt, qS, k2.below hb3 (by omega), ⟨by omega, k4, by omega, by omega⟩, new_trans k3 hb3⟩
  clear k1 k2 k3 k4 k5 hRes qM hb3 hSB qS hVs
  have hx1 : Hid (∀ k, k < 8 → ∀ W, (Instr.index 9 (.string t) (.int .i64 ((1 + k : Nat) : Int))).run Tryd.prog W = .ok (.int .u8 (byt t (1 + k))) W) := fun k hk => run_idx t _ (1 + k) rfl (by omega)
  have hbx := hid (fun k => byt_bd t k)
  have hcs := hid (fun k (hk : k < 8) => cuK_set t (byt t 9) (byt t 10) (byt t 11) hk ⟨romL rom, List.replicate 4 (List.replicate 64 0), 0, 1, false⟩ neP vr vm)
  generalize romL rom = RM at *
  generalize V.heap.size = lo at *
  generalize w1.heap.size = mh at *
  generalize byt t 9 = F9 at *
  generalize byt t 10 = F10 at *
  generalize byt t 11 = F11 at *
  replace hRd0 := hid hRd0
  clear i9 i10 i11
  go_wp2
  go_loopw [9] (fun i wr => ∃ k : Nat, k ≤ 8 ∧ i = .int .i64 (k : Int) ∧ Rd w wr SB lo mh vr vm ⟨cuK t F9 F10 F11 k, ⟨RM, List.replicate 4 (List.replicate 64 0), 0, 1, false⟩, neP⟩) (fun i _ => 8 - (intOf i).toNat)
  case atStart => exact ⟨0, by omega, rfl, hRd0.out⟩
  case round =>
    obtain ⟨k, hk, rfl, hR⟩ := hrel
    clear hRd0
    have x8 := hR.box.cell
    have f8 := hR.box.frozen
    have l8 := hR.box.lt
    by_cases hlt : k < 8
    · have hn := hid (hR.cell k (.int .i64 (byt t (1 + k))) _ (hcs.out k hlt) rfl rfl)
      have hxk := hx1.out k hlt
      have hbk := hbx.out (1 + k)
      have xk : ∃ z, wr.cell? ⟨SB, k, none⟩ = some (.int .i64 z) := by
        rw [x8]
        rcases eight hlt with rfl | rfl | rfl | rfl | rfl | rfl | rfl | rfl
        all_goals exact ⟨_, rfl⟩
      obtain ⟨z, xk⟩ := xk
      have fk := f8 k
      have hkI : (1 : Int) + (k : Int) = ((1 + k : Nat) : Int) := by omega
      obtain ⟨k1, hk1⟩ : ∃ k1, 1 + k = k1 := ⟨_, rfl⟩
      rw [hk1] at hxk hbk hkI hn
      generalize byt t k1 = BB at *
      have hlI : (k : Int) < 8 := by omega
      replace hR := hid hR
      clear x8 f8 hk1
      go_wp2
      go_roundw
      case rel => exact ⟨k + 1, by omega, by go_num, hn.out⟩
      case measure => simp [intOf]; omega
    · obtain rfl : k = 8 := by omega
      clear hlt hx1 hbx hcs hk
      obtain ⟨a1, a2, a4, a8, a16⟩ := bits_all ⟨n12, by omega⟩
      dsimp only at a1 a2 a4 a8 a16
      have hd16 : 0 ≤ (n12 : Int) / 16 % 2 ∧ (n12 : Int) / 16 % 2 ≤ 1 := by omega
      obtain ⟨D2, hD2⟩ : ∃ D2, (n12 : Int) / 16 % 2 = D2 := ⟨_, rfl⟩
      obtain ⟨SC, hSC⟩ : ∃ SC, 1 + 2 * D2 = SC := ⟨_, rfl⟩
      rw [hD2] at a16 hd16 hMe
      rw [hSC] at hMe
      have w1' : IntKind.i64.wrap (2 * D2) = 2 * D2 := by rw [IntKind.wrap_i64]; omega
      have w2' : IntKind.i64.wrap SC = SC := by rw [IntKind.wrap_i64]; omega
      have hn := hid (hR.six (bitAt n12 1) (bitAt n12 2) (bitAt n12 4) (bitAt n12 8) SC (byt t 13))
      dsimp only at hn
      have hp14 := hid (ula_pos (u := n14) (by omega))
      generalize bitAt (n12 : Int) 1 = p1 at *
      generalize bitAt (n12 : Int) 2 = p2 at *
      generalize bitAt (n12 : Int) 4 = p4 at *
      generalize bitAt (n12 : Int) 8 = p8 at *
      generalize byt t 13 = P13 at *
      have hkn : ¬ ((8 : Nat) : Int) < 8 := by omega
      have w12 : IntKind.i64.wrap (n12 : Int) = (n12 : Int) := by rw [IntKind.wrap_i64]; omega
      have w13 : IntKind.i64.wrap P13 = P13 := by rw [IntKind.wrap_i64]; omega
      replace hR := hid hR
      clear hD2
      go_upto_region 18 with fail
      obtain ⟨W1, hW1⟩ : ∃ X, (((((wr.setCell ⟨SB, 11, none⟩ (.bool p1)).setCell ⟨SB, 12, none⟩ (.bool p2)).setCell ⟨SB, 13, none⟩ (.bool p4)).setCell ⟨SB, 18, none⟩ (.bool p8)).setCell ⟨SB, 17, none⟩ (.int .i64 SC)).setCell ⟨SB, 16, none⟩ (.int .i64 P13) = X := ⟨_, rfl⟩
      rw [hW1] at hn ⊢
      clear hW1 hR x8 f8 l8 a1 a2 a4 a8 a16 w1' w2'
      refine eq_reg _ W1 _ t n14 _ vr vm SB rfl rfl i14 (by omega) hn.out.box (by simp) ?_
      rintro w5 e5 ⟨wa, hba, rfl⟩
      simp only [putsA, Act.put, List.setIfInBounds_toArray, List.set_cons_zero, List.set_cons_succ]
      have hR5 : Hid (Rd w (wa.setCells SB 19 (poA (neP.ula n14)).toList) SB lo mh vr vm ⟨cuS (bts t), ⟨RM, List.replicate 4 (List.replicate 64 0), P13, SC, p8⟩, poS n14⟩) := by
        have h5 := (hn.out.below hba).ports (neP.ula n14)
        rw [hp14.out] at h5 ⊢
        rw [← hCS.out]
        exact h5
      generalize wa.setCells SB 19 (poA (neP.ula n14)).toList = w5 at *
      clear hn hba hCS hp14
      have hOC := hid (fun W => cpuok_spec (cuS (bts t)) W)
      generalize cuS (bts t) = C at *
      have x16 : w5.cell? ⟨SB, 16, none⟩ = some (.int .i64 P13) := hR5.out.box.cell 16
      have l16 := hR5.out.box.lt
      by_cases c1 : 31 < (n12 : Int)
      · clear hOC
        have hRs : Hid (RES = (sn0, 3)) := by unfold Hid; rw [hHead.out, if_pos (.inl c1)]
        have hth := hid (blk_there hR5.out.res (o := 0) (n := (snA sn0 nl nl).size) (by show 0 + 31 ≤ 31; omega))
        obtain ⟨wF, hwF⟩ : ∃ X, (w5).setCells w.heap.size 0 (snA sn0 nl nl).toList = X := ⟨_, rfl⟩
        have hRF : Hid (Blk wF w.heap.size (snA sn0 nl nl)) := by
          rw [← hwF]
          have := layE_blk w.heap.size (snA sn0 nl nl).toList _ 0 _ hR5.out.res
          rw [sn_layA] at this
          exact this
        have hBF : Hid (Below w.heap.size w wF) := by rw [← hwF]; exact layE_below _ 0 _ (Nat.le_refl _) hR5.out.bel
        replace hwF := hid hwF
        obtain rfl := hRs.out
        clear hRs hR5
        go_upto_region 20 with fail
        go_wp2_with (guard_target = wpList _ _ _ (Oper.mk _ (Op.store _ _ _) _ _ _ _ :: _) _ _; refine wpList_store_mid rfl 32 _ _ rfl w.heap.size 0 (snA sn0 nl nl) rfl rfl hth.out (szS2 _ _ _) (sn_one _ rfl rfl) ?_; rw [hwF.out])
        obtain ⟨tt, htt⟩ := hRF.out
        exact bodyPost_ret (v := .tuple #[.agg (snA sn0 nl nl), .int .i64 3]) (results_cell_tmpS Tryd.results9 _ _ w.heap.size tt (snA sn0 nl nl) (0, 0) _ _ rfl rfl htt Tryd.underlying32 rfl (szS2 _ _ _)) rfl ⟨nl, nl, rfl, MemO.zero _ _ _, hBF.out⟩
      by_cases c2 : 31 < (n14 : Int)
      · clear hOC
        have hRs : Hid (RES = (sn0, 3)) := by unfold Hid; rw [hHead.out, if_pos (.inr (.inl c2))]
        have hth := hid (blk_there hR5.out.res (o := 0) (n := (snA sn0 nl nl).size) (by show 0 + 31 ≤ 31; omega))
        obtain ⟨wF, hwF⟩ : ∃ X, (w5).setCells w.heap.size 0 (snA sn0 nl nl).toList = X := ⟨_, rfl⟩
        have hRF : Hid (Blk wF w.heap.size (snA sn0 nl nl)) := by
          rw [← hwF]
          have := layE_blk w.heap.size (snA sn0 nl nl).toList _ 0 _ hR5.out.res
          rw [sn_layA] at this
          exact this
        have hBF : Hid (Below w.heap.size w wF) := by rw [← hwF]; exact layE_below _ 0 _ (Nat.le_refl _) hR5.out.bel
        replace hwF := hid hwF
        obtain rfl := hRs.out
        clear hRs hR5
        go_upto_region 20 with fail
        go_wp2_with (guard_target = wpList _ _ _ (Oper.mk _ (Op.store _ _ _) _ _ _ _ :: _) _ _; refine wpList_store_mid rfl 32 _ _ rfl w.heap.size 0 (snA sn0 nl nl) rfl rfl hth.out (szS2 _ _ _) (sn_one _ rfl rfl) ?_; rw [hwF.out])
        obtain ⟨tt, htt⟩ := hRF.out
        exact bodyPost_ret (v := .tuple #[.agg (snA sn0 nl nl), .int .i64 3]) (results_cell_tmpS Tryd.results9 _ _ w.heap.size tt (snA sn0 nl nl) (0, 0) _ _ rfl rfl htt Tryd.underlying32 rfl (szS2 _ _ _)) rfl ⟨nl, nl, rfl, MemO.zero _ _ _, hBF.out⟩
      by_cases c3 : 3 < P13
      · clear hOC
        have hRs : Hid (RES = (sn0, 3)) := by unfold Hid; rw [hHead.out, if_pos (.inr (.inr (.inl c3)))]
        have hth := hid (blk_there hR5.out.res (o := 0) (n := (snA sn0 nl nl).size) (by show 0 + 31 ≤ 31; omega))
        obtain ⟨wF, hwF⟩ : ∃ X, (w5).setCells w.heap.size 0 (snA sn0 nl nl).toList = X := ⟨_, rfl⟩
        have hRF : Hid (Blk wF w.heap.size (snA sn0 nl nl)) := by
          rw [← hwF]
          have := layE_blk w.heap.size (snA sn0 nl nl).toList _ 0 _ hR5.out.res
          rw [sn_layA] at this
          exact this
        have hBF : Hid (Below w.heap.size w wF) := by rw [← hwF]; exact layE_below _ 0 _ (Nat.le_refl _) hR5.out.bel
        replace hwF := hid hwF
        obtain rfl := hRs.out
        clear hRs hR5
        go_upto_region 20 with fail
        go_wp2_with (guard_target = wpList _ _ _ (Oper.mk _ (Op.store _ _ _) _ _ _ _ :: _) _ _; refine wpList_store_mid rfl 32 _ _ rfl w.heap.size 0 (snA sn0 nl nl) rfl rfl hth.out (szS2 _ _ _) (sn_one _ rfl rfl) ?_; rw [hwF.out])
        obtain ⟨tt, htt⟩ := hRF.out
        exact bodyPost_ret (v := .tuple #[.agg (snA sn0 nl nl), .int .i64 3]) (results_cell_tmpS Tryd.results9 _ _ w.heap.size tt (snA sn0 nl nl) (0, 0) _ _ rfl rfl htt Tryd.underlying32 rfl (szS2 _ _ _)) rfl ⟨nl, nl, rfl, MemO.zero _ _ _, hBF.out⟩
      have xC := hid (sn_cpu hR5.out.box)
      go_wp2_with (guard_target = wpList _ _ _ (Oper.mk _ (Op.load 24 _) _ _ _ (some _) :: _) _ _; refine ld_want 24 _ rfl SB 0 rfl (by kernel_rfl) (cuA C).toList _ xC.out Tryd.underlying24 rfl (szC C) ?_; simp only [Act.put, List.setIfInBounds_toArray, List.set_cons_zero, List.set_cons_succ])
      refine (hOC.out _).mono ?_
      rintro e w6 ⟨rfl, hb6⟩
      have hR6 := hid (hR5.out.below hb6)
      clear hR5 hb6 xC x16 l16 hOC
      cases c4 : okC C
      · have hRs : Hid (RES = (sn0, 3)) := by unfold Hid; rw [hHead.out, if_pos (.inr (.inr (.inr c4)))]
        have hth := hid (blk_there hR6.out.res (o := 0) (n := (snA sn0 nl nl).size) (by show 0 + 31 ≤ 31; omega))
        obtain ⟨wF, hwF⟩ : ∃ X, (w6).setCells w.heap.size 0 (snA sn0 nl nl).toList = X := ⟨_, rfl⟩
        have hRF : Hid (Blk wF w.heap.size (snA sn0 nl nl)) := by
          rw [← hwF]
          have := layE_blk w.heap.size (snA sn0 nl nl).toList _ 0 _ hR6.out.res
          rw [sn_layA] at this
          exact this
        have hBF : Hid (Below w.heap.size w wF) := by rw [← hwF]; exact layE_below _ 0 _ (Nat.le_refl _) hR6.out.bel
        replace hwF := hid hwF
        obtain rfl := hRs.out
        clear hRs hR6
        go_upto_region 20 with fail
        go_wp2_with (guard_target = wpList _ _ _ (Oper.mk _ (Op.store _ _ _) _ _ _ _ :: _) _ _; refine wpList_store_mid rfl 32 _ _ rfl w.heap.size 0 (snA sn0 nl nl) rfl rfl hth.out (szS2 _ _ _) (sn_one _ rfl rfl) ?_; rw [hwF.out])
        obtain ⟨tt, htt⟩ := hRF.out
        exact bodyPost_ret (v := .tuple #[.agg (snA sn0 nl nl), .int .i64 3]) (results_cell_tmpS Tryd.results9 _ _ w.heap.size tt (snA sn0 nl nl) (0, 0) _ _ rfl rfl htt Tryd.underlying32 rfl (szS2 _ _ _)) rfl ⟨nl, nl, rfl, MemO.zero _ _ _, hBF.out⟩
      have hGo : Hid (RES = if (rdB 4 ((bts t).drop 15)).2.2 ≠ 0 then (sn0, (rdB 4 ((bts t).drop 15)).2.2) else if (rdB 4 ((bts t).drop 15)).2.1 ≠ [] then (sn0, 8) else (⟨C, meS RM (bts t) (rdB 4 ((bts t).drop 15)).1, poS (n14 : Int)⟩, 0)) := by
        unfold Hid
        rw [hHead.out, if_neg (by rintro (h1 | h1 | h1 | h1); omega; omega; omega; rw [c4] at h1; cases h1)]
      clear hHead c4 i12 i13 i14 hx0
      have qC := Blk.new w6 #[.string t, .int .i64 15] 40
      have hb7 : Below w6.heap.size w6 (w6.alloc (.cells #[.string t, .int .i64 15] 40)) := (Below.refl _ _).alloc (Nat.le_refl _) _
      have hR7 := hid (hR6.out.below hb7)
      have hCB : Hid (mh ≤ w6.heap.size ∧ SB < w6.heap.size) := ⟨hR6.out.ord.2.2.2, hR6.out.box.lt⟩
      replace qC := hid qC
      clear hb7 hR6
      go_wp2
      generalize hW7 : w6.alloc (.cells #[.string t, .int .i64 15] 40) = w7 at *
      generalize hCBn : w6.heap.size = CB at *
      clear hW7 hCBn
      go_loopw [12] (fun iv wr => ∃ (i p : Nat) (B : List (List Int)), i ≤ 4 ∧ iv = .int .i64 (i : Int) ∧ p ≤ t.size ∧ Bk t i p B ∧ Blk wr CB #[.string t, .int .i64 (p : Int)] ∧ Rd w wr SB lo mh vr vm ⟨C, ⟨RM, B ++ List.replicate (4 - i) z64, P13, SC, p8⟩, poS n14⟩) (fun iv _ => 4 - (intOf iv).toNat)
      case atStart => exact ⟨0, 15, [], by omega, rfl, by omega, Bk.start t, qC.out, hR7.out⟩
      case round =>
        obtain ⟨i, p, B, hi, rfl, hp, hBk, qC2, hR⟩ := hrel
        clear qC hR7
        replace hBk := hid hBk
        replace hR := hid hR
        have x11 := qC2.cell
        have l11 := qC2.lt
        by_cases hlt : i < 4
        · have hltI : (i : Int) < 4 := by omega
          by_cases hp2 : p + 1 < t.size
          · obtain ⟨n, hn⟩ : ∃ n : Nat, byt t p + 256 * byt t (p + 1) = (n : Int) := ⟨(byt t p + 256 * byt t (p + 1)).toNat, by have := byt_bd t p; have := byt_bd t (p + 1); omega⟩
            have hn2 : n ≤ 65535 := by have := byt_bd t p; have := byt_bd t (p + 1); omega
            obtain ⟨q, hq⟩ : ∃ q, p + 2 = q := ⟨_, rfl⟩
            have hTW : Hid (∀ W, Calls Tryd.prog 20 #[cur t (p : Int)] W fun e w' => e = .returned (.tuple #[cur t (q : Int), .int .i64 (n : Int), .int .i64 0]) ∧ Below W.heap.size W w') := fun W => by
              have h9 := takeWord_spec t p W (by unfold maxLen; omega)
              have e9 : twV ((t, ((p + 2 : Nat) : Int)), t.extract p (p + 2), 0) = .tuple #[cur t (q : Int), .int .i64 (n : Int), .int .i64 0] := by
                unfold twV
                dsimp only
                rw [if_pos rfl, byt_extract t (by omega) (by omega), byt_extract t (by omega) (by omega)]
                simp only [Nat.add_zero]
                rw [hn, hq]
              rw [show ((2 : Int)) = ((2 : Nat) : Int) from rfl, take_okS (by omega) ht, e9] at h9
              exact h9
            replace hn := hid hn
            replace hq := hid hq
            go_wp2_with fail
            refine (hTW.out _).mono ?_
            rintro e w8 ⟨rfl, hb8⟩
            have hb9 : Below w8.heap.size w8 ((w8).alloc (.cells #[.string t, .int .i64 (q : Int)] 40)) := (Below.refl _ _).alloc (Nat.le_refl _) _
            have hR9 := hid ((hR.out.below hb8).below hb9)
            have qC4 := hid ((qC2.below hb8 qC2.lt).below hb9 (qC2.below hb8 qC2.lt).lt)
            clear hR hb8 hb9 hTW x11 l11 qC2
            by_cases hc : t.size < q + n
            · have hTK : Hid (∀ W, Calls Tryd.prog 21 #[cur t (q : Int), .int .i64 (n : Int)] W fun e w' => e = .returned (.tuple #[cur t (q : Int), .string ByteArray.empty, .int .i64 9]) ∧ Below W.heap.size W w') := fun W => by
                have h9 := take_spec t q n W (by unfold maxLen; omega)
                have hql := hq.out
                rw [take_cutS hc (by omega) ht (by omega)] at h9
                exact h9
              go_wp2_with fail
              refine (hTK.out _).mono ?_
              rintro e w10 ⟨rfl, hb10⟩
              have hR10 := hid ((hR9.out.below hb10).below ((Below.refl _ _).alloc (Nat.le_refl _) (.cells #[.string t, .int .i64 (q : Int)] 40)))
              clear hR9 hb10 hTK qC4
              go_upto_region 30 with fail
              generalize w10.alloc (.cells #[.string t, .int .i64 (q : Int)] 40) = w11 at *
              have hcd : (rdB 4 ((bts t).drop 15)).2.2 = 9 := hBk.out.cut hlt hp2 hn.out (by have := hq.out; omega)
              have hRs : Hid (RES = (sn0, 9)) := by unfold Hid; rw [hGo.out, if_pos (by rw [hcd]; decide), hcd]
              have hth := hid (blk_there hR10.out.res (o := 0) (n := (snA sn0 nl nl).size) (by show 0 + 31 ≤ 31; omega))
              obtain ⟨wF, hwF⟩ : ∃ X, (w11).setCells w.heap.size 0 (snA sn0 nl nl).toList = X := ⟨_, rfl⟩
              have hRF : Hid (Blk wF w.heap.size (snA sn0 nl nl)) := by
                rw [← hwF]
                have := layE_blk w.heap.size (snA sn0 nl nl).toList _ 0 _ hR10.out.res
                rw [sn_layA] at this
                exact this
              have hBF : Hid (Below w.heap.size w wF) := by rw [← hwF]; exact layE_below _ 0 _ (Nat.le_refl _) hR10.out.bel
              replace hwF := hid hwF
              obtain rfl := hRs.out
              clear hRs hR10 hcd hBk
              go_wp2_with (guard_target = wpList _ _ _ (Oper.mk _ (Op.store _ _ _) _ _ _ _ :: _) _ _; refine wpList_store_mid rfl 32 _ _ rfl w.heap.size 0 (snA sn0 nl nl) rfl rfl hth.out (szS2 _ _ _) (sn_one _ rfl rfl) ?_; rw [hwF.out])
              obtain ⟨tt, htt⟩ := hRF.out
              exact bodyPost_ret (v := .tuple #[.agg (snA sn0 nl nl), .int .i64 9]) (results_cell_tmpS Tryd.results9 _ _ w.heap.size tt (snA sn0 nl nl) (0, 0) _ _ rfl rfl htt Tryd.underlying32 rfl (szS2 _ _ _)) rfl ⟨nl, nl, rfl, MemO.zero _ _ _, hBF.out⟩
            obtain ⟨p2, hpp⟩ : ∃ p2, q + n = p2 := ⟨_, rfl⟩
            have hTK : Hid (∀ W, Calls Tryd.prog 21 #[cur t (q : Int), .int .i64 (n : Int)] W fun e w' => e = .returned (.tuple #[cur t (p2 : Int), .string (t.extract q p2), .int .i64 0]) ∧ Below W.heap.size W w') := fun W => by
              have h9 := take_spec t q n W (by unfold maxLen; omega)
              rw [take_okS (by omega) ht, hpp] at h9
              exact h9
            have hEX := hid (fun W => lexp_spec (t.extract q p2) 64 W (by simp [ByteArray.size_extract]; omega) (by omega))
            have hbad : Hid ((expE 64 (bts (t.extract q p2)) []).2 ≠ 0 → (rdB 4 ((bts t).drop 15)).2.2 = (expE 64 (bts (t.extract q p2)) []).2) := fun hx => by
              have hqq := hq.out
              subst hqq hpp
              exact hBk.out.bad hlt hp2 hn.out (by omega) hx
            have hnxt : Hid ((expE 64 (bts (t.extract q p2)) []).2 = 0 → Bk t (i + 1) p2 (B ++ [(expE 64 (bts (t.extract q p2)) []).1])) := fun hx => by
              have hqq := hq.out
              subst hqq hpp
              exact hBk.out.next hlt hp2 hn.out (by omega) hx
            have hbk := hid (fun hx => bank_ok (p := t.extract q p2) hx)
            have hp2t : Hid (p2 ≤ t.size) := by unfold Hid; omega
            have hBl := hid hBk.out.len
            clear hBk hpp hc
            go_wp2_with fail
            refine (hTK.out _).mono ?_
            rintro e w10 ⟨rfl, hb10⟩
            have hb11 : Below w10.heap.size w10 ((w10).alloc (.cells #[.string t, .int .i64 (p2 : Int)] 40)) := (Below.refl _ _).alloc (Nat.le_refl _) _
            have hR11 := hid ((hR9.out.below hb10).below hb11)
            have qC6 := hid ((qC4.out.below hb10 qC4.out.lt).below hb11 (qC4.out.below hb10 qC4.out.lt).lt)
            have qY := hid (Blk.new w10 #[.string t, .int .i64 (p2 : Int)] 40)
            have hYB : Hid (CB < w10.heap.size) := (qC4.out.below hb10 qC4.out.lt).lt
            clear hR9 hb10 hTK qC4 hb11
            go_wp2_with fail
            refine (hEX.out _).mono ?_
            rintro e w12 ⟨rfl, hb12⟩
            have hR12 := hid (hR11.out.below hb12)
            have qC7 := hid (qC6.out.below hb12 qC6.out.lt)
            have qY7 := hid (qY.out.below hb12 qY.out.lt)
            clear hR11 qC6 qY hb12 hEX
            dsimp only [exS]
            generalize hPK : expE 64 (bts (t.extract q p2)) [] = PX at *
            obtain ⟨Z, X⟩ := PX
            dsimp only at *
            clear hPK
            by_cases hx : X = 0
            · have hZ := hbk.out hx
              have hnx := hid (hnxt.out hx)
              have hZ64 : Z.length = 64 := by
                have h1 := hZ.1
                rw [strOfNums_size] at h1
                exact h1
              have hBL := hBl.out
              have hrow := hid (fun k (hk : k ≤ 64) => ramK_row (B := B) (Z := Z) (i := i) (k := k) hBL hZ64 hk)
              have hset := hid (fun k (hk : k < 64) => ramK_set (B := B) (Z := Z) (i := i) (k := k) hBL hZ64 hk)
              have hgd : Hid (∀ k : Nat, k < 64 → byt (strOfNums Z) k = Z.getD k 0) := fun k hk => by
                rw [← bts_getD (strOfNums Z) (by rw [hZ.1]; exact hk), hZ.2]
              have hrst : Hid (B ++ List.replicate (4 - i) z64 = ramK B Z i 0) := (ramK_start B Z hlt).symm
              have hren := hid (ramK_end B hlt hZ64)
              have hixB : Hid (∀ k : Nat, k < 64 → ∀ W, (Instr.index 9 (.string (strOfNums Z)) (.int .i64 (k : Int))).run Tryd.prog W = .ok (.int .u8 (byt (strOfNums Z) k)) W) := fun k hk => run_idx _ _ k rfl (by rw [hZ.1]; exact hk)
              have hbyB := hid (fun k : Nat => byt_bd (strOfNums Z) k)
              rw [hrst.out] at hR12
              generalize strOfNums Z = BKS at *
              clear hZ hnxt hbad hbk hBl hZ64 hBL hrst
              subst hx
              go_wp2
              generalize w10.heap.size = YB at *
              go_loopw [19] (fun kv wr2 => ∃ k : Nat, k ≤ 64 ∧ kv = .int .i64 (k : Int) ∧ Blk wr2 CB #[.string t, .int .i64 (p : Int)] ∧ Blk wr2 YB #[.string t, .int .i64 (p2 : Int)] ∧ Rd w wr2 SB lo mh vr vm ⟨C, ⟨RM, ramK B Z i k, P13, SC, p8⟩, poS n14⟩) (fun kv _ => 64 - (intOf kv).toNat)
              case atStart => exact ⟨0, by omega, rfl, qC7.out, qY7.out, hR12.out⟩
              case round =>
                obtain ⟨k, hk, rfl, qCk, qYk, hRk⟩ := hrel
                clear qC7 qY7 hR12
                by_cases hk64 : k < 64
                · obtain ⟨r1, r2, r3, r4⟩ := hrow.out k hk
                  have r2' : (ramK B Z i k).length = 4 := by omega
                  obtain ⟨s, c, g, cg, e1, e2, ⟨u, e3⟩, e4, e5, e6, e7⟩ := hRk.poke (i := i) (k := k) r1 (by rw [r4]; exact hk64)
                  have x15 : wr.cell? ⟨SB, 15, none⟩ = some vm := hRk.box.cell 15
                  have l15 := hRk.box.lt
                  rw [e1] at x15
                  dsimp only at x15 e2
                  rw [r2'] at x15
                  rw [r4] at e2
                  have hnew := e7 (byt BKS k)
                  dsimp only at hnew
                  rw [hgd.out k hk64, hset.out k hk64, ← hgd.out k hk64] at hnew
                  have hxk := hixB.out k hk64
                  have hbk2 := hbyB.out k
                  generalize byt BKS k = BB at *
                  have wB : IntKind.i64.wrap BB = BB := by rw [IntKind.wrap_i64]; omega
                  have hkI : (k : Int) < 64 := by omega
                  have hcb := hCB.out
                  have hyb := hYB.out
                  have qC8 := hid (qCk.other (p := ⟨g, k, none⟩) (by simp; omega) (.int .i64 BB))
                  have qY8 := hid (qYk.other (p := ⟨g, k, none⟩) (by simp; omega) (.int .i64 BB))
                  replace hnew := hid hnew
                  clear r1 r2 r3 r4 r2' e1 e6 e7 hRk qCk qYk hcb hyb
                  go_wp2
                  go_region
                  go_wp2
                  go_roundw
                  case rel => exact ⟨k + 1, by omega, by go_num, qC8.out, qY8.out, hnew.out.drew⟩
                  case measure => simp [intOf]; omega
                · obtain rfl : k = 64 := by omega
                  have hkI : ¬ ((64 : Nat) : Int) < 64 := by omega
                  have xC := qCk.cell
                  have fC := qCk.frozen
                  have lC := qCk.lt
                  have xY := qYk.cell
                  have lY := qYk.lt
                  have hcb := hCB.out
                  have hyb := hYB.out
                  have hne1 : ¬ CB = YB := by omega
                  have hne2 : ¬ YB = CB := by omega
                  rw [hren.out] at hRk
                  have hnew := hid ((hRk.other (b := CB) (j := 0) (by omega) (by omega) (.string t)).other (b := CB) (j := 1) (by omega) (by omega) (.int .i64 (p2 : Int)))
                  have qC8 := hid ((qCk.set 0 (.string t)).set 1 (.int .i64 (p2 : Int)))
                  clear hRk qCk qYk hcb hyb
                  go_wp2
                  go_roundw
                  case rel => exact ⟨i + 1, p2, B ++ [Z], by omega, by go_num, hp2t.out, hnx.out, qC8.out, hnew.out⟩
                  case measure => simp [intOf]; omega
            · have hX0 : (X == 0) = false := by rw [beq_eq_false_iff_ne]; exact hx
              generalize strOfNums Z = BKS at *
              go_upto_region 33 with fail
              have hcd : (rdB 4 ((bts t).drop 15)).2.2 = X := hbad.out hx
              have hRs : Hid (RES = (sn0, X)) := by unfold Hid; rw [hGo.out, if_pos (by rw [hcd]; exact hx), hcd]
              have hth := hid (blk_there hR12.out.res (o := 0) (n := (snA sn0 nl nl).size) (by show 0 + 31 ≤ 31; omega))
              obtain ⟨wF, hwF⟩ : ∃ X, (w12).setCells w.heap.size 0 (snA sn0 nl nl).toList = X := ⟨_, rfl⟩
              have hRF : Hid (Blk wF w.heap.size (snA sn0 nl nl)) := by
                rw [← hwF]
                have := layE_blk w.heap.size (snA sn0 nl nl).toList _ 0 _ hR12.out.res
                rw [sn_layA] at this
                exact this
              have hBF : Hid (Below w.heap.size w wF) := by rw [← hwF]; exact layE_below _ 0 _ (Nat.le_refl _) hR12.out.bel
              replace hwF := hid hwF
              obtain rfl := hRs.out
              clear hRs hR12 hcd hbad hnxt hbk
              go_wp2_with (guard_target = wpList _ _ _ (Oper.mk _ (Op.store _ _ _) _ _ _ _ :: _) _ _; refine wpList_store_mid rfl 32 _ _ rfl w.heap.size 0 (snA sn0 nl nl) rfl rfl hth.out (szS2 _ _ _) (sn_one _ rfl rfl) ?_; rw [hwF.out])
              obtain ⟨tt, htt⟩ := hRF.out
              exact bodyPost_ret (v := .tuple #[.agg (snA sn0 nl nl), .int .i64 X]) (results_cell_tmpS Tryd.results9 _ _ w.heap.size tt (snA sn0 nl nl) (0, 0) _ _ rfl rfl htt Tryd.underlying32 rfl (szS2 _ _ _)) rfl ⟨nl, nl, rfl, MemO.zero _ _ _, hBF.out⟩
          · have hTW : Hid (∀ W, Calls Tryd.prog 20 #[cur t (p : Int)] W fun e w' => e = .returned (.tuple #[cur t (p : Int), .int .i64 0, .int .i64 9]) ∧ Below W.heap.size W w') := fun W => by
              have h9 := takeWord_spec t p W (by unfold maxLen; omega)
              rw [show ((2 : Int)) = ((2 : Nat) : Int) from rfl, take_cutS (by omega) hp ht (by omega)] at h9
              exact h9
            go_wp2_with fail
            refine (hTW.out _).mono ?_
            rintro e w8 ⟨rfl, hb8⟩
            have hR8 := hid ((hR.out.below hb8).below ((Below.refl _ _).alloc (Nat.le_refl _) (.cells #[.string t, .int .i64 (p : Int)] 40)))
            clear hR hb8 hTW x11 l11 qC2
            go_upto_region 27 with fail
            generalize w8.alloc (.cells #[.string t, .int .i64 (p : Int)] 40) = w9 at *
            have hcd : (rdB 4 ((bts t).drop 15)).2.2 = 9 := hBk.out.none hlt hp2
            have hRs : Hid (RES = (sn0, 9)) := by unfold Hid; rw [hGo.out, if_pos (by rw [hcd]; decide), hcd]
            have hth := hid (blk_there hR8.out.res (o := 0) (n := (snA sn0 nl nl).size) (by show 0 + 31 ≤ 31; omega))
            obtain ⟨wF, hwF⟩ : ∃ X, (w9).setCells w.heap.size 0 (snA sn0 nl nl).toList = X := ⟨_, rfl⟩
            have hRF : Hid (Blk wF w.heap.size (snA sn0 nl nl)) := by
              rw [← hwF]
              have := layE_blk w.heap.size (snA sn0 nl nl).toList _ 0 _ hR8.out.res
              rw [sn_layA] at this
              exact this
            have hBF : Hid (Below w.heap.size w wF) := by rw [← hwF]; exact layE_below _ 0 _ (Nat.le_refl _) hR8.out.bel
            replace hwF := hid hwF
            obtain rfl := hRs.out
            clear hRs hR8 hcd hBk
            go_wp2_with (guard_target = wpList _ _ _ (Oper.mk _ (Op.store _ _ _) _ _ _ _ :: _) _ _; refine wpList_store_mid rfl 32 _ _ rfl w.heap.size 0 (snA sn0 nl nl) rfl rfl hth.out (szS2 _ _ _) (sn_one _ rfl rfl) ?_; rw [hwF.out])
            obtain ⟨tt, htt⟩ := hRF.out
            exact bodyPost_ret (v := .tuple #[.agg (snA sn0 nl nl), .int .i64 9]) (results_cell_tmpS Tryd.results9 _ _ w.heap.size tt (snA sn0 nl nl) (0, 0) _ _ rfl rfl htt Tryd.underlying32 rfl (szS2 _ _ _)) rfl ⟨nl, nl, rfl, MemO.zero _ _ _, hBF.out⟩
        · obtain rfl : i = 4 := by omega
          have hltI : ¬ ((4 : Nat) : Int) < 4 := by omega
          have e0 : (rdB (4 - 4) ((bts t).drop p)) = ([], (bts t).drop p, 0) := rfl
          have hcd : (rdB 4 ((bts t).drop 15)).2.2 = 0 := by rw [hBk.out.code, e0]
          obtain ⟨hrs, hbn⟩ := hBk.out.rest (by rw [e0])
          rw [e0] at hrs hbn
          dsimp only at hrs hbn
          rw [List.append_nil] at hbn
          by_cases hpt : p < t.size
          · have hptI : (p : Int) < (t.size : Int) := by omega
            have hRs : Hid (RES = (sn0, 8)) := by
              unfold Hid
              rw [hGo.out, if_neg (by rw [hcd]; decide), if_pos (by rw [hrs, bts_drop t hpt]; exact fun h => (by cases h))]
            have hth := hid (blk_there hR.out.res (o := 0) (n := (snA sn0 nl nl).size) (by show 0 + 31 ≤ 31; omega))
            obtain ⟨wF, hwF⟩ : ∃ X, (wr).setCells w.heap.size 0 (snA sn0 nl nl).toList = X := ⟨_, rfl⟩
            have hRF : Hid (Blk wF w.heap.size (snA sn0 nl nl)) := by
              rw [← hwF]
              have := layE_blk w.heap.size (snA sn0 nl nl).toList _ 0 _ hR.out.res
              rw [sn_layA] at this
              exact this
            have hBF : Hid (Below w.heap.size w wF) := by rw [← hwF]; exact layE_below _ 0 _ (Nat.le_refl _) hR.out.bel
            replace hwF := hid hwF
            obtain rfl := hRs.out
            clear hRs hR hcd hrs hbn e0 hBk
            go_upto_region 40 with fail
            go_wp2_with (guard_target = wpList _ _ _ (Oper.mk _ (Op.store _ _ _) _ _ _ _ :: _) _ _; refine wpList_store_mid rfl 32 _ _ rfl w.heap.size 0 (snA sn0 nl nl) rfl rfl hth.out (szS2 _ _ _) (sn_one _ rfl rfl) ?_; rw [hwF.out])
            obtain ⟨tt, htt⟩ := hRF.out
            exact bodyPost_ret (v := .tuple #[.agg (snA sn0 nl nl), .int .i64 8]) (results_cell_tmpS Tryd.results9 _ _ w.heap.size tt (snA sn0 nl nl) (0, 0) _ _ rfl rfl htt Tryd.underlying32 rfl (szS2 _ _ _)) rfl ⟨nl, nl, rfl, MemO.zero _ _ _, hBF.out⟩
          · have hptI : ¬ (p : Int) < (t.size : Int) := by omega
            have hRs : Hid (RES = (⟨C, ⟨RM, B, P13, SC, p8⟩, poS n14⟩, 0)) := by
              unfold Hid
              rw [hGo.out, if_neg (by rw [hcd]; decide), if_neg (by rw [hrs, List.drop_eq_nil_of_le (by rw [bts_len]; omega)]; exact fun h => h rfl), hbn, hMe.out]
            have hR4 : Rd w wr SB lo mh vr vm ⟨C, ⟨RM, B, P13, SC, p8⟩, poS n14⟩ := by
              have := hR.out
              rw [show 4 - 4 = 0 from rfl, List.replicate_zero, List.append_nil] at this
              exact this
            generalize hS4 : (⟨C, ⟨RM, B, P13, SC, p8⟩, poS n14⟩ : Sn) = S4 at *
            have xS := hid (sn_all hR4.box)
            have hth := hid (blk_there hR4.res (o := 0) (n := (snA S4 vr vm).size) (by show 0 + 31 ≤ 31; omega))
            have hso := sn_one S4 o1 o2
            obtain ⟨wF, hwF⟩ : ∃ X, wr.setCells w.heap.size 0 (snA S4 vr vm).toList = X := ⟨_, rfl⟩
            have hRF : Hid (Blk wF w.heap.size (snA S4 vr vm)) := by
              rw [← hwF]
              have := layE_blk w.heap.size (snA S4 vr vm).toList _ 0 _ hR4.res
              rw [sn_layA] at this
              exact this
            have hBF : Hid (Below w.heap.size w wF) := by rw [← hwF]; exact layE_below _ 0 _ (Nat.le_refl _) hR4.bel
            have hOF : Hid (MemO wF w.heap.size wF.heap.size (memV vr vm S4.m.page S4.m.screen S4.m.locked) S4.m) := by
              have ho := hR4.ord
              have hsF : wF.heap.size = wr.heap.size := by rw [← hwF, size_cells]
              exact (hR4.mem.kept (w' := wF) (fun b hb1 hb2 => by rw [← hwF]; exact layE_heap _ _ _ _ (by omega))).mono (by omega) (by omega)
            replace hwF := hid hwF
            obtain rfl := hRs.out
            clear hRs hR hcd hrs hbn e0 hBk hR4 hS4 hGo hMe
            go_wp2_with (first | (guard_target = wpList _ _ _ (Oper.mk _ (Op.store _ _ _) _ _ _ _ :: _) _ _; refine wpList_store_mid rfl 32 _ _ rfl w.heap.size 0 (snA S4 vr vm) rfl rfl hth.out (szS2 _ _ _) hso ?_; rw [hwF.out]) | (refine wpList_load_mid rfl 32 _ rfl SB 0 rfl (snA S4 vr vm).toList _ xS.out Tryd.underlying32 rfl (szS S4 vr vm) ?_))
            obtain ⟨tt, htt⟩ := hRF.out
            exact bodyPost_ret (v := .tuple #[.agg (snA S4 vr vm), .int .i64 0]) (results_cell_tmpS Tryd.results9 _ _ w.heap.size tt (snA S4 vr vm) (0, 0) _ _ rfl rfl htt Tryd.underlying32 rfl (szS2 _ _ _)) rfl ⟨vr, vm, rfl, hOF.out, hBF.out⟩
set_option maxRecDepth 100000 in
set_option maxHeartbeats 4000000 in
theorem lread_spec (t rom : ByteArray) (w : World) (ht : t.size ≤ 65536) (hr : rom.size = 64) : Calls Tryd.prog 9 #[.string t, .string rom] w (RdOut w (rdS (romL rom) (bts t))) := by
  by_cases h : t.size < 15
  · exact lread_short t rom w h
  · by_cases h0 : byt t 0 = 3
    · exact lread_go t rom w h ht h0 hr
    · exact lread_model t rom w h ht h0
end Go.Proofs.YtghcagibdcblnaaDoor
