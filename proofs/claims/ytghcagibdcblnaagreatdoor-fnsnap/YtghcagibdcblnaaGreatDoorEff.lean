/- The text of a snapshot: the specification. -/
import Derived.Test.YtghcagibdcblnaaGreatDoorEef
import Derived.Test.YtghcagibdcblnaaGreatDoorF12
import Derived.Test.YtghcagibdcblnaaGreatDoorF09
namespace Go.Proofs.YtghcagibdcblnaaGreatDoor
open Go.ChangeShapes Go.WideShapes Go.ChangeAt Go.RowKit
set_option linter.unusedVariables false
set_option linter.unusedSimpArgs false

theorem cuA_at (c : Cu) (k : Nat) (hk : k < 8) : (cuA c)[k]? = some (.int .i64 (c.reg k)) := by
  rcases (by omega : k = 0 ∨ k = 1 ∨ k = 2 ∨ k = 3 ∨ k = 4 ∨ k = 5 ∨ k = 6 ∨ k = 7) with rfl | rfl | rfl | rfl | rfl | rfl | rfl | rfl
  all_goals rfl
abbrev cu0 : Cu := ⟨0, 0, 0, 0, 0, 0, 0, 0, 0, 0, 0, false, false, false⟩
theorem cu_there {W : World} {b : Nat} {z : Cu} (h : Blk W b (cuA z)) (c : Cu) : W.there b 0 (cuA c).size := fun j hj => by
  rw [Nat.zero_add]
  refine ⟨?_, h.frozen j⟩
  rw [h.cell j]
  have : j < (cuA z).size := hj
  rw [Array.getElem?_eq_getElem this]
  rfl
def layE : Nat → List Value → Array Value → Array Value
  | _, [], A => A
  | i, u :: t, A => layE (i + 1) t (A.setIfInBounds i u)
theorem layE_blk (b : Nat) (l : List Value) : ∀ (W : World) (i : Nat) (A : Array Value), Blk W b A → Blk (W.setCells b i l) b (layE i l A) := by
  induction l with
  | nil => exact fun _ _ _ h => h
  | cons u t ih => exact fun W i A h => ih _ _ _ (h.set i u)
theorem layE_below {lo b : Nat} {w : World} (vs : List Value) : ∀ (o : Nat) (W : World), lo ≤ b → Below lo w W → Below lo w (W.setCells b o vs) := by
  induction vs with
  | nil => exact fun o W _ h => h
  | cons u t ih => exact fun o W hb h => ih _ _ hb (h.setCell (p := ⟨b, o, none⟩) hb u)
theorem layE_other {b g : Nat} {A : Array Value} (hne : g ≠ b) (vs : List Value) : ∀ (o : Nat) (W : World), Blk W g A → Blk (W.setCells b o vs) g A := by
  induction vs with
  | nil => exact fun o W h => h
  | cons u t ih => exact fun o W h => ih _ _ (h.other (by simpa using hne) u)
theorem cu_laid {W : World} {b : Nat} {z : Cu} (h : Blk W b (cuA z)) (c : Cu) : Blk (W.setCells b 0 (cuA c).toList) b (cuA c) := by
  have q := layE_blk b (cuA c).toList W 0 (cuA z) h
  have e : layE 0 (cuA c).toList (cuA z) = cuA c := by
    simp only [layE, List.setIfInBounds_toArray, List.set_cons_zero, List.set_cons_succ, Nat.zero_add, Nat.reduceAdd]
  rw [e] at q
  exact q
theorem cu_one (c : Cu) : (cuA c).all (·.oneCell') = true := by simp [Value.oneCell']
abbrev fF (s : Sn) : Nat → Bool := fun i => [s.c.iff, s.c.ei, s.c.halt, s.m.locked, s.m.screen == 3].getD i false
abbrev fT (s : Sn) : Nat → Bool := fun i => [s.p.mic, s.p.beep].getD i false
theorem five_bits (s : Sn) : ((bitsN (fF s) 5 : Nat) : Int) = bitsS s.c s.m := by
  have e : (s.m.screen == 3) = decide (s.m.screen = 3) := rfl
  unfold bitsS fF
  rw [e]
  generalize decide (s.m.screen = 3) = x
  generalize s.c.iff = a, s.c.ei = b, s.c.halt = c, s.m.locked = d
  cases a <;> cases b <;> cases c <;> cases d <;> cases x <;> rfl
theorem two_bits (s : Sn) : ((bitsN (fT s) 2 : Nat) : Int) = b1 s.p.mic + 2 * b1 s.p.beep := by
  unfold fT
  generalize s.p.mic = a, s.p.beep = b
  cases a <;> cases b <;> rfl
theorem ula_or (p : Po) (h0 : 0 ≤ p.border) (h1 : p.border ≤ 7) : bits .or .i64 p.border ((b1 p.mic + 2 * b1 p.beep) * 8) = ulaS p := by
  unfold ulaS
  generalize p.border = n, p.mic = a, p.beep = b at *
  rcases (by omega : n = 0 ∨ n = 1 ∨ n = 2 ∨ n = 3 ∨ n = 4 ∨ n = 5 ∨ n = 6 ∨ n = 7) with rfl | rfl | rfl | rfl | rfl | rfl | rfl | rfl
  all_goals (cases a <;> cases b <;> decide)
theorem bitsS_bd (c : Cu) (M : Mem) : 0 ≤ bitsS c M ∧ bitsS c M ≤ 255 := by
  have h1 := b1_bd c.iff; have h2 := b1_bd c.ei; have h3 := b1_bd c.halt; have h4 := b1_bd M.locked; have h5 := b1_bd (decide (M.screen = 3))
  unfold bitsS
  omega
theorem ulaS_bd (p : Po) (h0 : 0 ≤ p.border) (h1 : p.border ≤ 7) : 0 ≤ ulaS p ∧ ulaS p ≤ 255 := by
  have h1 := b1_bd p.mic; have h2 := b1_bd p.beep
  unfold ulaS
  omega
theorem bytes13 {zs : List Int} (h : bytesB zs 64 = true) : zs.length = 64 ∧ ∀ k, k < 64 → 0 ≤ zs.getD k 0 ∧ zs.getD k 0 ≤ 255 := by
  unfold bytesB at h
  simp only [Bool.and_eq_true, decide_eq_true_eq, List.all_eq_true] at h
  obtain ⟨h1, h2⟩ := h
  refine ⟨h2, fun k hk => ?_⟩
  have hm : zs.getD k 0 ∈ zs := by
    rw [List.getD_eq_getElem?_getD, List.getElem?_eq_getElem (by omega)]
    exact List.getElem_mem _
  have := h1 _ hm
  unfold inB at this
  simp only [Bool.and_eq_true, decide_eq_true_eq] at this
  exact this
theorem sN_app (a b : List Int) : strOfNums (a ++ b) = strOfNums a ++ strOfNums b := by
  apply ByteArray.ext
  rw [ByteArray.data_append]
  unfold strOfNums
  simp
theorem take_getE {Z : List Int} {k : Nat} (h : k < Z.length) : Z.take k ++ [Z.getD k 0] = Z.take (k + 1) := by
  rw [List.take_succ_eq_append_getElem h, List.getD_eq_getElem?_getD, List.getElem?_eq_getElem h]
  rfl
theorem bnksL_app (A B : List (List Int)) : bnksL (A ++ B) = bnksL A ++ bnksL B := by
  induction A with
  | nil => rfl
  | cons a A ih =>
    show bnkL a ++ bnksL (A ++ B) = (bnkL a ++ bnksL A) ++ bnksL B
    rw [ih, List.append_assoc]
theorem bnks_take {R : List (List Int)} {i : Nat} (h : i < R.length) : bnksL (R.take (i + 1)) = bnksL (R.take i) ++ bnkL (R.getD i []) := by
  rw [List.take_succ_eq_append_getElem h, bnksL_app, List.getD_eq_getElem?_getD, List.getElem?_eq_getElem h]
  show _ ++ (bnkL _ ++ []) = _
  rw [List.append_nil]
  rfl
theorem bnks_len {R : List (List Int)} (h : ∀ b ∈ R, b.length = 64) : (bnksL R).length ≤ 130 * R.length := by
  induction R with
  | nil => exact Nat.le_refl _
  | cons b R ih =>
    have h1 := ih (fun x hx => h x (List.mem_cons_of_mem _ hx))
    have h2 := cmpE_len b
    rw [h b (List.mem_cons_self ..)] at h2
    show (bnkL b ++ bnksL R).length ≤ _
    unfold bnkL
    simp only [List.length_append, List.length_cons, List.length_nil]
    omega
theorem po_border {p : Po} (h : okPo p = true) : 0 ≤ p.border ∧ p.border ≤ 7 := by
  unfold okPo at h
  simp [inB] at h
  omega
theorem szC2 (c : Cu) : (Tryz.prog.info? 25).map (·.size) = some (cuA c).size := by
  show _ = some 14
  kernel_rfl
set_option maxRecDepth 100000 in
set_option maxHeartbeats 4000000 in
theorem ltext13_spec (v : Value) (s : Sn) (w : World) (h : SnR w v s) (hk : okSn s = true) : Calls Tryz.prog 18 #[v] w fun e w' => e = .returned (.string (strOfNums (snapL s.c s.m s.p))) ∧ Below w.heap.size w w' := by
  obtain ⟨vr, vm, rfl, hv⟩ := h
  obtain ⟨i0, hi0, hz0, hz1, hz2⟩ := info_parts infoU8
  have hkk : okC s.c = true ∧ okM s.m = true ∧ okPo s.p = true := by
    unfold okSn at hk
    simp only [Bool.and_eq_true] at hk
    exact ⟨hk.1.1, hk.1.2, hk.2⟩
  have hreg := hid (okC_parts hkk.1).1
  have hP := hid hkk
  clear hkk hk
  have hs := hid (two_in (w := w) (snA s vr vm) (cuA cu0) 33 25)
  have hr := hid (sn_cpu (Blk.new w (snA s vr vm) 33))
  have hth := hid (cu_there hs.out.2.1 s.c)
  obtain ⟨W0, hW0⟩ : ∃ W0, (((w.alloc (.cells (snA s vr vm) 33)).alloc (.cells (cuA cu0) 25)).setCells (w.heap.size + 1) 0 (cuA s.c).toList) = W0 := ⟨_, rfl⟩
  have q0 : Hid (Blk W0 w.heap.size (snA s vr vm)) := by rw [← hW0]; exact layE_other (by omega) _ _ _ hs.out.1
  have q1 : Hid (Blk W0 (w.heap.size + 1) (cuA s.c)) := by rw [← hW0]; exact cu_laid hs.out.2.1 s.c
  have hB0 : Hid (Below w.heap.size w W0) := by rw [← hW0]; exact layE_below _ _ _ (by omega) hs.out.2.2
  clear hs
  go_enter Tryz.func18, Tryz.ntmps18
  go_upto_region 2 with (first | (refine wpList_load_mid rfl 25 _ rfl w.heap.size 0 rfl (cuA s.c).toList _ hr.out Tryz.underlying25 rfl (szC s.c) ?_) | (guard_target = wpList _ _ _ (Oper.mk _ (Op.store _ _ _) _ _ _ _ :: _) _ _; refine wpList_store_mid rfl 25 _ _ rfl (w.heap.size + 1) 0 (cuA s.c) rfl rfl hth.out (szC2 s.c) (cu_one s.c) ?_))
  rw [hW0]
  clear hW0 hr hth
  have hG0 : Hid (GrowB W0 (W0.alloc (.cells #[.int .u8 3] 5)) (.slice (some ⟨W0.heap.size, 0, none⟩) 1 1) [3]) := ⟨World.ownsRow_lit W0 #[.int .u8 3] 1 (Nat.le_refl _) (by decide) rfl, (Below.refl _ _).alloc (Nat.le_refl _) _⟩
  go_upto_region 3 with fail
  obtain ⟨W1, hW1⟩ : ∃ W1, W0.alloc (.cells #[.int .u8 3] 5) = W1 := ⟨_, rfl⟩
  rw [hW1] at hG0 ⊢
  clear hW1
  go_wp2
  go_loopw [4, 5] (fun v iv wr => ∃ k : Nat, k ≤ 8 ∧ iv = .int .i64 (k : Int) ∧ GrowB W0 wr v (3 :: (List.range k).map s.c.reg)) (fun _ iv _ => 8 - (intOf iv).toNat)
  case atStart => exact ⟨0, by omega, rfl, hG0.out⟩
  case round =>
    obtain ⟨k, hk8, rfl, hG⟩ := hrel
    clear hG0
    have hba := hG.bel.size
    have hqb := hid (q0.out.below hG.bel q0.out.lt)
    have hqd := hid (q1.out.below hG.bel q1.out.lt)
    by_cases hlt : k < 8
    · have x1 : wr.cell? ⟨w.heap.size + 1, k, none⟩ = some (.int .i64 (s.c.reg k)) := by
        rw [hqd.out.cell k]
        exact cuA_at _ _ hlt
      obtain ⟨hb0, hb1⟩ := hreg.out k hlt
      have hE : Hid ((3 :: (List.range k).map s.c.reg) ++ [s.c.reg k] = 3 :: (List.range (k + 1)).map s.c.reg) := by
        unfold Hid
        rw [List.range_succ, List.map_append]
        rfl
      have hn : (3 :: (List.range k).map s.c.reg).length = k + 1 := by simp
      obtain ⟨A, hA⟩ : ∃ A, 3 :: (List.range k).map s.c.reg = A := ⟨_, rfl⟩
      rw [hA] at hG hE hn
      obtain ⟨oa, ocap, rfl⟩ := hG.form
      rw [hn] at hG ⊢
      have own1 := hid hG.own
      rw [hn] at own1
      obtain ⟨B, hB⟩ : ∃ B, s.c.reg k = B := ⟨_, rfl⟩
      rw [hB] at x1 hb0 hb1 hE
      have happ : Hid (∀ (v' : Value) (w1 : World), w1.ownsRow W0.heap.size 5 1 v' (k + 1 + 1) (A.map (Value.int .u8) ++ [.int .u8 B]) → (wr.alloc (.cells #[.int .u8 B] 5)).grownBy w1 (Value.slice oa (k + 1 : Nat) ocap).ownBlock → GrowB W0 w1 v' (3 :: (List.range (k + 1)).map s.c.reg)) := fun v' w1 ho hg => by
        rw [← hE.out]
        exact hG.app [B] (by rw [hn]; exact ho) hg
      have hw1 : IntKind.u8.wrap B = B := by simp [IntKind.wrap, IntKind.signed, IntKind.bits]; omega
      have hw2 : B % 256 = B := by omega
      clear hA hB hE hG hqb hqd hreg q0 q1 hB0 hP hv
      go_wp2_with (at_builtin; refine wpList_append_lies _ rfl _ _ 22 rfl W0.heap.size 5 i0 _ 1 1 Tryz.underlying22 hi0 hz0 hz1 hz2 rfl (by omega) _ (k + 1) (A.map (Value.int .u8)) rfl (own1.out.alloc _) ⟨_, 0, none⟩ 1 1 [.int .u8 B] rfl rfl (World.news_of_block (cs := #[.int .u8 B]) (t := 5) (fr := (0, 0)) (heap_alloc_new _ _)) (by simp [Value.oneCell']) (by omega) (by unfold maxLen; omega) (by omega) (by simp; omega) _ rfl ?_; intro gg cap2 w1 ho hg hat hlt3; have hG2 := hid (happ.out _ _ ho hg); clear ho hg hat hlt3 happ own1)
      go_roundw
      case rel => exact ⟨k + 1, by omega, by go_num, hG2.out⟩
      case measure => simp [intOf]; omega
    · obtain rfl : k = 8 := by omega
      have hn : (3 :: (List.range 8).map s.c.reg).length = 9 := rfl
      obtain ⟨oa, ocap, rfl⟩ := hG.form
      rw [hn] at hG ⊢
      have own1 := hid hG.own
      rw [hn] at own1
      have nb : Hid (some w.heap.size ≠ (Value.slice oa 9 ocap).ownBlock) := fun e => by
        have := (own1.out.lt _ e.symm).1
        have := q0.out.lt
        omega
      have nd : Hid (some (w.heap.size + 1) ≠ (Value.slice oa 9 ocap).ownBlock) := fun e => by
        have := (own1.out.lt _ e.symm).1
        have := q1.out.lt
        omega
      have hF1 : Hid (∀ W g, Blk W g #[.bool s.c.iff, .bool s.c.ei, .bool s.c.halt, .bool s.m.locked, .bool (s.m.screen == 3)] → Calls Tryz.prog 37 #[.slice (some ⟨g, 0, none⟩) 5 5] W fun r w' => r = .returned (.int .i64 (bitsS s.c s.m)) ∧ w' = W) := fun W g hb => by
        have := bits13_spec (fF s) 5 g W (by omega) (fun i hi => by
          rw [hb.cell i]
          rcases (by omega : i = 0 ∨ i = 1 ∨ i = 2 ∨ i = 3 ∨ i = 4) with rfl | rfl | rfl | rfl | rfl
          all_goals rfl)
        rw [five_bits] at this
        exact this
      have hF2 : Hid (∀ W g, Blk W g #[.bool s.p.mic, .bool s.p.beep] → Calls Tryz.prog 37 #[.slice (some ⟨g, 0, none⟩) 2 2] W fun r w' => r = .returned (.int .i64 (b1 s.p.mic + 2 * b1 s.p.beep)) ∧ w' = W) := fun W g hb => by
        have := bits13_spec (fT s) 2 g W (by omega) (fun i hi => by
          rw [hb.cell i]
          rcases (by omega : i = 0 ∨ i = 1) with rfl | rfl
          all_goals rfl)
        rw [two_bits] at this
        exact this
      have hbb := po_border hP.out.2.2
      obtain ⟨-, -, hcf, hcs, hcp, -⟩ := okC_parts hP.out.1
      obtain ⟨hm1, hm2, hm3, -, hm5⟩ := ok_parts hP.out.2.1
      have hbx : Hid ((0 ≤ s.c.f ∧ s.c.f ≤ 255) ∧ (0 ≤ s.c.sp ∧ s.c.sp ≤ 255) ∧ (0 ≤ s.c.pc ∧ s.c.pc ≤ 255) ∧ (0 ≤ bitsS s.c s.m ∧ bitsS s.c s.m ≤ 255) ∧ (0 ≤ s.m.page ∧ s.m.page ≤ 255) ∧ (0 ≤ ulaS s.p ∧ ulaS s.p ≤ 255)) := ⟨hcf, hcs, hcp, bitsS_bd _ _, ⟨by omega, by omega⟩, ulaS_bd _ hbb.1 hbb.2⟩
      have hbm : Hid (0 ≤ b1 s.p.mic + 2 * b1 s.p.beep ∧ b1 s.p.mic + 2 * b1 s.p.beep ≤ 3) := by
        have h1 := b1_bd s.p.mic; have h2 := b1_bd s.p.beep
        exact ⟨by omega, by omega⟩
      have huu := hid (ula_or s.p hbb.1 hbb.2)
      have hbel := hid hG.bel
      have hown0 := hid hG.own
      clear hG hreg hbb hcf hcs hcp hlt hk8
      go_upto_region 7 with fail
      refine ee_reg _ _ _ w.heap.size (w.heap.size + 1) 9 ocap W0.heap.size oa _ s vr vm (bitsS s.c s.m) (b1 s.p.mic + 2 * b1 s.p.beep) (ulaS s.p) rfl rfl rfl hqb.out hqd.out nb.out nd.out own1.out hba (by omega) hbx.out hbm.out huu.out hF1.out hF2.out (Nat.le_of_ble_eq_true rfl) ?_
      rintro W2 e ⟨hgr, hown⟩
      have hG2 : Hid (GrowB W0 W2 e.2.2.2 (headS s.c s.m s.p)) := ⟨hown, hbel.out.grown hgr hba (fun g hg => (own1.out.lt g hg).1)⟩
      have hB2 : Hid (Below w.heap.size w W2) := new_trans hB0.out hG2.out.bel
      have hq2 : Hid (Blk W2 w.heap.size (snA s vr vm)) := q0.out.below hG2.out.bel q0.out.lt
      have hcv := own_string (xs := headS s.c s.m s.p) hG2.out.own
      have hsl : ∃ oa cap, e.2.2.2 = .slice oa 15 cap := hG2.out.form
      simp only [putsA, Act.put, List.setIfInBounds_toArray, List.set_cons_zero, List.set_cons_succ]
      rw [show ((8 : Nat) : Int) = (8 : Int) from rfl]
      generalize (b1 s.p.mic + 2 * b1 s.p.beep) * 8 = g5
      generalize (s.m.screen == 3) = g1
      generalize b1 s.p.mic + 2 * b1 s.p.beep = g2
      generalize bitsS s.c s.m = g3
      generalize ulaS s.p = g4
      generalize e.2.2.2 = ve at *
      obtain ⟨ob, bcap, rfl⟩ := hsl
      clear hgr hown hG2 hbel hown0 own1 nb nd hF1 hF2 hbx hbm huu hqb hqd q0 q1 hB0 hba hn
      go_upto_region 9 with fail
      have hrow : RowsR w vm s.m.ram := by
        obtain ⟨x1, x2, e1, _, h2⟩ := hv
        simp only [memV, Value.agg.injEq, Array.mk.injEq, List.cons.injEq, and_true, true_and] at e1
        rw [e1.2]
        exact h2
      have hsn : Hid (snapL s.c s.m s.p = headS s.c s.m s.p ++ bnksL s.m.ram) := rfl
      have hHl : (headS s.c s.m s.p).length = 15 := rfl
      obtain ⟨ra, rc, rfl, hrow | ⟨rb, ro, rfl, hrow⟩⟩ := hrow
      · rw [hrow] at hm2; cases hm2
      have hban : ∀ i, i < 4 → ∃ zb zo zc, w.cell? ⟨rb, ro + i, none⟩ = some (.slice (some ⟨zb, zo, none⟩) 64 zc) ∧ (s.m.ram.getD i []).length = 64 ∧ ∀ k, k < 64 → w.cell? ⟨zb, zo + k, none⟩ = some (.int .i64 ((s.m.ram.getD i []).getD k 0)) ∧ 0 ≤ (s.m.ram.getD i []).getD k 0 ∧ (s.m.ram.getD i []).getD k 0 ≤ 255 := fun i hi => by
        obtain ⟨uu, c1, a3, c3, rfl, h3⟩ := hrow i (by omega)
        obtain ⟨hl, hb⟩ := bytes13 (hm5 i (by omega))
        rcases h3 with h3 | ⟨zb, zo, rfl, h3⟩
        · rw [h3] at hl; cases hl
        · rw [hl] at c1
          exact ⟨zb, zo, c3, c1, hl, fun k hk => ⟨h3 k (by omega), hb k (by omega)⟩⟩
      replace hban := hid hban
      have hall := hid hm2
      have x0 : W2.cell? ⟨w.heap.size, 15, none⟩ = some (.slice (some ⟨rb, ro, none⟩) s.m.ram.length rc) := hq2.out.cell 15
      rw [hm2] at x0
      replace x0 := hid x0
      clear hm1 hm2 hm3 hm5 hrow hv hP hq2
      obtain ⟨H, hH⟩ : ∃ H, headS s.c s.m s.p = H := ⟨_, rfl⟩
      obtain ⟨R, hR⟩ : ∃ R, s.m.ram = R := ⟨_, rfl⟩
      rw [hH] at hsn hHl ⊢
      rw [hR] at hsn hban hall
      clear hH hR hcv
      go_wp2
      go_loopw [6, 7] (fun tv iv wr => ∃ i : Nat, i ≤ 4 ∧ iv = .int .i64 (i : Int) ∧ tv = .string (strOfNums (H ++ bnksL (R.take i))) ∧ Below W2.heap.size W2 wr) (fun _ iv _ => 4 - (intOf iv).toNat)
      case atStart => exact ⟨0, by omega, rfl, by rw [List.take_zero]; show _ = Value.string (strOfNums (H ++ [])); rw [List.append_nil], Below.refl _ _⟩
      case round =>
        obtain ⟨i, hi4, rfl, rfl, hbw⟩ := hrel
        by_cases hlt : i < 4
        · obtain ⟨zb, zo, zc, c1, hzl, hzk⟩ := hban.out i hlt
          have hbw2 := new_trans hB2.out hbw
          have c4 : (i : Int) < 4 := by omega
          have y0 := cell_kept hbw x0.out
          have y1 := cell_kept hbw2 c1
          have htk := hid (bnks_take (R := R) (i := i) (by rw [hall.out]; exact hlt))
          obtain ⟨Z, hZ⟩ : ∃ Z, R.getD i [] = Z := ⟨_, rfl⟩
          rw [hZ] at hzl hzk htk
          have yk : Hid (∀ k, k < 64 → wr.cell? ⟨zb, zo + k, none⟩ = some (.int .i64 (Z.getD k 0)) ∧ 0 ≤ Z.getD k 0 ∧ Z.getD k 0 ≤ 255) := fun k hk => ⟨cell_kept hbw2 (hzk k hk).1, (hzk k hk).2⟩
          have hsz1 : (strOfNums (H ++ bnksL (R.take i))).size ≤ 1000 := by
            rw [strOfNums_size, List.length_append, hHl]
            have := bnks_len (R := R.take i) (fun b hb => by
              obtain ⟨j, hj, rfl⟩ := List.getElem_of_mem (List.mem_of_mem_take hb)
              obtain ⟨_, _, _, _, hl, _⟩ := hban.out j (by rw [← hall.out]; exact hj)
              rw [List.getD_eq_getElem?_getD, List.getElem?_eq_getElem hj] at hl
              exact hl)
            rw [List.length_take] at this
            omega
          have hE3 : Hid (strOfNums (H ++ bnksL (R.take i)) ++ (strOfNums [((cmpE Z).length : Int) % 256, ((cmpE Z).length : Int) / 256] ++ strOfNums (cmpE Z)) = strOfNums (H ++ bnksL (R.take (i + 1)))) := by
            unfold Hid
            rw [htk.out, ← sN_app, ← sN_app, List.append_assoc]
            rfl
          have hG0 := hid (GrowB.nil wr)
          replace hbw := hid hbw
          obtain ⟨T, hT⟩ : ∃ T, strOfNums (H ++ bnksL (R.take i)) = T := ⟨_, rfl⟩
          rw [hT] at hsz1 hE3 ⊢
          clear hban c1 hzk hZ x0 hbw2 hT htk hall hsn hHl
          go_upto_region 13 with fail
          obtain ⟨W4, hW4⟩ : ∃ W4, wr.alloc (.cells #[] 5) = W4 := ⟨_, rfl⟩
          rw [hW4] at hG0 ⊢
          clear hW4
          obtain ⟨Wi, rfl⟩ : ∃ Wi, Wi = wr := ⟨_, rfl⟩
          go_wp2
          go_loopw [8, 9] (fun v kv wx => ∃ k : Nat, k ≤ 64 ∧ kv = .int .i64 (k : Int) ∧ GrowB Wi wx v (Z.take k)) (fun _ kv _ => 64 - (intOf kv).toNat)
          case atStart => exact ⟨0, by omega, rfl, hG0.out⟩
          case round =>
            obtain ⟨k, hk64, rfl, hG⟩ := hrel
            clear hG0
            have hba := hG.bel.size
            have hn : (Z.take k).length = k := by rw [List.length_take]; omega
            by_cases hl2 : k < 64
            · obtain ⟨zx, hb0, hb1⟩ := yk.out k hl2
              have z0 := cell_kept hG.bel y0
              have z1 := cell_kept hG.bel y1
              have z2 := cell_kept hG.bel zx
              have hE := hid (take_getE (Z := Z) (k := k) (by omega))
              obtain ⟨A, hA⟩ : ∃ A, Z.take k = A := ⟨_, rfl⟩
              rw [hA] at hG hE hn
              obtain ⟨oa, ocap, rfl⟩ := hG.form
              rw [hn] at hG ⊢
              have own1 := hid hG.own
              rw [hn] at own1
              obtain ⟨B, hB⟩ : ∃ B, Z.getD k 0 = B := ⟨_, rfl⟩
              rw [hB] at z2 hb0 hb1 hE
              have happ : Hid (∀ (v' : Value) (w1 : World), w1.ownsRow Wi.heap.size 5 1 v' (k + 1) (A.map (Value.int .u8) ++ [.int .u8 B]) → (wr.alloc (.cells #[.int .u8 B] 5)).grownBy w1 (Value.slice oa (k : Nat) ocap).ownBlock → GrowB Wi w1 v' (Z.take (k + 1))) := fun v' w1 ho hg => by
                rw [← hE.out]
                exact hG.app [B] (by rw [hn]; exact ho) hg
              have hw1 : IntKind.u8.wrap B = B := by simp [IntKind.wrap, IntKind.signed, IntKind.bits]; omega
              have hw2 : B % 256 = B := by omega
              clear hA hB hE hG hE3 y0 y1 yk zx hbw
              go_wp2_with (at_builtin; refine wpList_append_lies _ rfl _ _ 22 rfl Wi.heap.size 5 i0 _ 1 1 Tryz.underlying22 hi0 hz0 hz1 hz2 rfl (by omega) _ k (A.map (Value.int .u8)) rfl (own1.out.alloc _) ⟨_, 0, none⟩ 1 1 [.int .u8 B] rfl rfl (World.news_of_block (cs := #[.int .u8 B]) (t := 5) (fr := (0, 0)) (heap_alloc_new _ _)) (by simp [Value.oneCell']) (by omega) (by unfold maxLen; omega) (by omega) (by simp; omega) _ rfl ?_; intro gg cap2 w1 ho hg hat hlt3; have hG2 := hid (happ.out _ _ ho hg); clear ho hg hat hlt3 happ own1)
              go_roundw
              case rel => exact ⟨k + 1, by omega, by go_num, hG2.out⟩
              case measure => simp [intOf]; omega
            · obtain rfl : k = 64 := by omega
              have hZt : Z.take 64 = Z := List.take_of_length_le (by omega)
              rw [hZt] at hG
              obtain ⟨oa, ocap, rfl⟩ := hG.form
              have hcv := own_string (xs := Z) hG.own
              rw [hzl] at hcv ⊢
              have hbs : bts (strOfNums Z) = Z := bts_str (fun x hx => by
                obtain ⟨j, hj, rfl⟩ := List.getElem_of_mem hx
                have := (yk.out j (by omega)).2
                rw [List.getD_eq_getElem?_getD, List.getElem?_eq_getElem hj] at this
                exact this)
              have hCm : Hid (∀ W, Calls Tryz.prog 38 #[.string (strOfNums Z)] W fun e w' => e = .returned (.string (strOfNums (cmpE Z))) ∧ Below W.heap.size W w') := fun W => by
                have := lcmp_spec (strOfNums Z) W (by rw [strOfNums_size]; omega)
                rw [hbs] at this
                exact this
              have hxl : (strOfNums (cmpE Z)).size = (cmpE Z).length := strOfNums_size _
              have hc2 : (cmpE Z).length ≤ 128 := by have := cmpE_len Z; omega
              obtain ⟨m, hm⟩ : ∃ m, (cmpE Z).length = m := ⟨_, rfl⟩
              rw [hm] at hxl hc2 hE3
              obtain ⟨X, hX⟩ : ∃ X, strOfNums (cmpE Z) = X := ⟨_, rfl⟩
              rw [hX] at hxl hCm hE3
              obtain ⟨S, hS⟩ : ∃ S, strOfNums Z = S := ⟨_, rfl⟩
              rw [hS] at hcv hCm
              have hWd := hid (fun W => wordU_spec (m : Int) W (by omega) (by omega))
              have hx2 : (strOfNums [(m : Int) % 256, (m : Int) / 256]).size = 2 := strOfNums_size _
              obtain ⟨Y, hY⟩ : ∃ Y, strOfNums [(m : Int) % 256, (m : Int) / 256] = Y := ⟨_, rfl⟩
              rw [hY] at hWd hx2 hE3
              have hBx := hid (new_trans hbw.out hG.bel)
              clear hbw hG yk y0 y1 hbs hm hX hS hY hZt hn hba hl2 hzl
              go_wp2_with fail
              refine (hCm.out _).mono ?_
              rintro e w5 ⟨rfl, hb⟩
              have hBy := hid (new_trans hBx.out hb)
              clear hb hBx hcv hCm
              go_wp2_with fail
              refine (hWd.out _).mono ?_
              rintro e w6 ⟨rfl, hb⟩
              have hBz := hid (new_trans hBy.out hb)
              clear hb hBy hWd
              go_wp2_with fail
              go_roundw
              case rel => exact ⟨i + 1, by omega, by go_num, by rw [hE3.out], hBz.out⟩
              case measure => simp [intOf]; omega
        · obtain rfl : i = 4 := by omega
          have hE : Hid (R.take 4 = R) := List.take_of_length_le (by rw [hall.out]; omega)
          have hBe := hid (new_trans hB2.out hbw)
          have hE2 : Hid (H ++ bnksL (R.take 4) = snapL s.c s.m s.p) := by unfold Hid; rw [hE.out]; exact hsn.out.symm
          rw [hE2.out]
          clear hban x0 hbw hB2 hsn
          go_wp2
          go_ret
          exact ⟨rfl, hBe.out⟩
end Go.Proofs.YtghcagibdcblnaaGreatDoor
