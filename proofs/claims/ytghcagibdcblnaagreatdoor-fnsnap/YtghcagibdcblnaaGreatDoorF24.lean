/- A drawn snapshot; what the law of snapshots asks of it. -/
import Derived.Test.YtghcagibdcblnaaGreatDoorF23
import Derived.Test.YtghcagibdcblnaaGreatDoorF14
import Derived.Test.YtghcagibdcblnaaGreatDoorF04
import Derived.Test.YtghcagibdcblnaaGreatDoorF09
namespace Go.Proofs.YtghcagibdcblnaaGreatDoor
open Go.ChangeShapes Go.WideShapes Go.ChangeAt Go.RowKit
set_option linter.unusedVariables false
set_option linter.unusedSimpArgs false

def reread (s : Sn) (rom : ByteArray) : Sn := ⟨s.c, ⟨romL rom, s.m.ram, s.m.page, s.m.screen, s.m.locked⟩, ⟨31, 31, 31, 31, 31, 31, 31, 31, 0, s.p.border, s.p.mic, s.p.beep⟩⟩
abbrev snT (s : Sn) : ByteArray := strOfNums (snapL s.c s.m s.p)
theorem reread_list (s : Sn) (rom : ByteArray) : snapL (reread s rom).c (reread s rom).m (reread s rom).p = snapL s.c s.m s.p := rfl
theorem reread_ok {s : Sn} {rom : ByteArray} (h : okSn s = true) (hr : rom.size = 64) : okSn (reread s rom) = true := by
  obtain ⟨h1, h2, h3⟩ := sn_parts h
  have hb := po_border h3
  unfold okSn
  simp only [Bool.and_eq_true]
  refine ⟨⟨h1, ?_⟩, ?_⟩
  · unfold okM at h2 ⊢
    simp only [Bool.and_eq_true] at h2 ⊢
    refine ⟨⟨⟨⟨?_, h2.1.1.1.2⟩, h2.1.1.2⟩, h2.1.2⟩, h2.2⟩
    unfold bytesB
    simp only [Bool.and_eq_true, List.all_eq_true, decide_eq_true_eq]
    refine ⟨fun z hz => ?_, by show (romL rom).length = 64; rw [romL_len, hr]⟩
    have hz' : z ∈ romL rom := hz
    unfold romL at hz'
    obtain ⟨i, _, rfl⟩ := List.mem_map.1 hz'
    have := byt_bd rom i
    unfold inB
    simp only [Bool.and_eq_true, decide_eq_true_eq]
    exact this
  · unfold okPo at h3 ⊢
    simp only [Bool.and_eq_true] at h3 ⊢
    exact ⟨⟨by rfl, by rfl⟩, h3.2⟩
theorem snT_bts {s : Sn} (h : okSn s = true) : bts (snT s) = snapL s.c s.m s.p := bts_str (snapL_bytes h)
theorem bnks_most : ∀ (R : List (List Int)), (∀ b ∈ R, b.length = 64) → (bnksL R).length ≤ 1000 * R.length
  | [], _ => by simp [bnksL]
  | b :: R, hb => by
    have h1 : bnksL (b :: R) = bnkL b ++ bnksL R := rfl
    have h2 := bnks_most R (fun c hc => hb c (List.mem_cons_of_mem _ hc))
    have h3 := hb b (List.mem_cons_self ..)
    have h4 := cmpE_len b
    have h5 : (bnkL b).length = 2 + (cmpE b).length := by unfold bnkL; simp; omega
    rw [h1, List.length_append, List.length_cons]
    omega
theorem snT_size {s : Sn} (h : okSn s = true) : 15 ≤ (snT s).size ∧ (snT s).size ≤ 5000 := by
  have h1 := bts_len (snT s)
  rw [snT_bts h] at h1
  have hr := right_of h
  have h2 := bnks_most s.m.ram hr.bank
  rw [hr.ram] at h2
  unfold snapL at h1
  rw [List.length_append, headS_len] at h1
  omega
theorem sn_facts {s : Sn} {rom : ByteArray} (h : okSn s = true) (hr : rom.size = 64) :
    sntext2 s = (snT s, 0) ∧ read2 (snT s) rom = (reread s rom, 0) ∧ sntext2 (reread s rom) = (snT s, 0) ∧ okSn (reread s rom) = true ∧ sameSn (reread s rom) s = true := by
  have hk := reread_ok h hr
  have hz := snT_size h
  refine ⟨by unfold sntext2; rw [if_pos h], ?_, by unfold sntext2; rw [if_pos hk]; rfl, hk, ?_⟩
  · unfold read2
    rw [if_neg (by omega), if_pos hr, snT_bts h, snap_back (right_of h)]
    rfl
  · unfold sameSn
    rw [h, hk, reread_list]
    simp
theorem sn_cut {s : Sn} {rom : ByteArray} (h : okSn s = true) (hr : rom.size = 64) {j : Nat} (hj : j < (snT s).size) : (read2 ((snT s).extract 0 j) rom).2 = 9 := by
  have hz := snT_size h
  have hl := bts_len (snT s)
  unfold read2
  have he : ((snT s).extract 0 j).size ≤ 5000 := by rw [ByteArray.size_extract]; omega
  rw [if_neg (by omega), if_pos hr, bts_extract, snT_bts h, List.drop_zero, Nat.sub_zero]
  rw [snT_bts h] at hl
  exact snap_cut (right_of h) _ (by omega)
theorem sn_more {s : Sn} {rom : ByteArray} (h : okSn s = true) (hr : rom.size = 64) {x : Int} (hx : 0 ≤ x ∧ x ≤ 255) : (read2 (snT s ++ strOfNums [x]) rom).2 = 8 := by
  have hz := snT_size h
  have e1 : snT s ++ strOfNums [x] = strOfNums (snapL s.c s.m s.p ++ [x]) := (sN_app _ _).symm
  have e2 : bts (strOfNums (snapL s.c s.m s.p ++ [x])) = snapL s.c s.m s.p ++ [x] := bts_str (fun y hy => by
    rcases List.mem_append.1 hy with hy | hy
    · exact snapL_bytes h y hy
    · rw [List.mem_singleton.1 hy]; exact hx)
  have hl := bts_len (snT s)
  rw [snT_bts h] at hl
  have h3 := bts_len (strOfNums (snapL s.c s.m s.p ++ [x]))
  rw [e2, List.length_append, List.length_singleton] at h3
  rw [e1]
  unfold read2
  rw [if_neg (by omega), if_pos hr, e2]
  exact snap_more (right_of h) _ x []
theorem sn_bent {s : Sn} {rom t : ByteArray} (hr : rom.size = 64) (ht : 15 ≤ t.size) (ht2 : t.size ≤ 65536) (h0 : byt t 0 ≠ 3) : (read2 t rom).2 = 18 := by
  unfold read2
  rw [if_neg (by omega), if_pos hr]
  refine snap_bent _ (by rw [bts_len]; exact ht) ?_
  rw [List.getD_eq_getElem?_getD, bts_at t (by omega)]
  exact h0
set_option maxRecDepth 100000 in
set_option maxHeartbeats 1000000 in
theorem snapdrawn_any (a : Option Addr) (len cap : Nat) (w : World) (hc : CodeAt w w.heap.size a len) (hl : len ≤ 1048576) :
    Calls Tryz.prog 4 #[.slice a len cap] w fun e w' => ∃ (s : Sn) (vr vm : Value), e = .returned (.agg (snA s vr vm)) ∧ okSn s = true ∧ (∃ lo hi, w.heap.size ≤ lo ∧ hi ≤ w'.heap.size ∧ MemO w' lo hi (memV vr vm s.m.page s.m.screen s.m.locked) s.m) ∧ Below w.heap.size w w' := by
  have hc1 : Hid (∀ o, CodeAt (w.alloc o) (w.alloc o).heap.size a len) := fun o => hc.below ((Below.refl _ _).alloc (Nat.le_refl _) o) (by simp)
  clear hc
  go_enter Tryz.func4, Tryz.ntmps4
  go_wp2_with fail
  refine (source_any a len cap _ (hc1.out _) hl).mono ?_
  rintro e w1 ⟨rfl, hs1, hg1⟩
  rw [World.size_alloc] at hs1 ⊢
  have q1 := (Blk.new w zS 33).grown hg1 (by simp)
  have hB1 : Below w.heap.size w w1 := ((Below.refl _ _).alloc (Nat.le_refl _) _).grown hg1 (by simp) (fun k e => by cases e)
  have hl1 := hs1.lt
  rw [zS_eq] at q1
  replace hs1 := hid hs1
  replace q1 := hid q1
  replace hB1 := hid hB1
  clear hg1 hc1
  go_wp2_with fail
  refine (snap_any _ a len cap 0 _ hs1.out (by omega)).mono ?_
  rintro e w2 ⟨s, vr, vm, rfl, hok, ⟨lo, hi, hlo, hhi, hO⟩, _, hg2⟩
  obtain ⟨o1, o2⟩ := memO_form2 hO
  have q2 := q1.out.grown hg2 (by simp)
  have hB2 := hB1.out.grown hg2 (by omega) (fun k e => by cases e; omega)
  have hth := hid (blk_there q2 (o := 0) (n := (snA s vr vm).size) (by show 0 + 31 ≤ 31; omega))
  have hso := sn_one s o1 o2
  obtain ⟨wF, hwF⟩ : ∃ X, w2.setCells w.heap.size 0 (snA s vr vm).toList = X := ⟨_, rfl⟩
  have hsF : wF.heap.size = w2.heap.size := by rw [← hwF, size_cells]
  have hkF : ∀ b, b ≠ w.heap.size → wF.heap[b]? = w2.heap[b]? := fun b hb => by rw [← hwF]; exact layE_heap _ _ _ _ hb
  have hRF : Hid (Blk wF w.heap.size (snA s vr vm)) := by
    rw [← hwF]
    have := layE_blk w.heap.size (snA s vr vm).toList _ 0 _ q2
    rw [sn_layA] at this
    exact this
  have hfin : Hid ((∃ lo hi, w.heap.size ≤ lo ∧ hi ≤ wF.heap.size ∧ MemO wF lo hi (memV vr vm s.m.page s.m.screen s.m.locked) s.m) ∧ Below w.heap.size w wF) := by
    refine ⟨⟨lo, hi, by omega, by omega, hO.kept (fun b h1 h2 => hkF b (by omega))⟩, ?_⟩
    rw [← hwF]
    exact layE_below _ 0 _ (Nat.le_refl _) hB2
  replace hok := hid hok
  replace hwF := hid hwF
  clear hg2 hkF hsF hO q2 q1 hs1 hB1 hB2
  go_wp2_with (guard_target = wpList _ _ _ (Oper.mk _ (Op.store _ _ _) _ _ _ _ :: _) _ _; refine wpList_store_mid rfl 33 _ _ rfl w.heap.size 0 (snA s vr vm) rfl rfl hth.out (szS2 _ _ _) hso ?_; rw [hwF.out])
  obtain ⟨tt, htt⟩ := hRF.out
  exact bodyPost_ret (v := .agg (snA s vr vm)) (results_cell_row Tryz.results4 _ _ w.heap.size tt (snA s vr vm) (0, 0) _ rfl htt Tryz.underlying33 rfl (szS2 _ _ _)) rfl ⟨s, vr, vm, rfl, hok.out, hfin.out⟩
end Go.Proofs.YtghcagibdcblnaaGreatDoor

/- What the program says of a processor that is right. -/
namespace Go.Proofs.YtghcagibdcblnaaGreatDoor
open Go.ChangeShapes Go.WideShapes Go.ChangeAt Go.RowKit
set_option linter.unusedVariables false
set_option linter.unusedSimpArgs false

theorem isbC_impl (n : Int) (w : World) : Calls Tryz.prog 52 #[.int .i64 n] w fun e w' => e = .returned (.bool (inB n 0 255)) ∧ w' = w := by
  go_enter Tryz.func52, Tryz.ntmps52
  go_wp2
  all_goals go_ret
  all_goals exact ⟨ret_bool (by rw [Bool.eq_iff_iff]; simp [inB]; try omega), rfl⟩
theorem aresC_impl (a b : Int) (w : World) : Calls Tryz.prog 53 #[.int .i64 a, .int .i64 b] w fun e w' => e = .returned (.bool (inB a 0 255 && inB b 0 255)) ∧ w' = w := by
  cases h1 : inB a 0 255
  all_goals
    go_enter Tryz.func53, Tryz.ntmps53
    go_wp2_with (go_at_call 52; refine (isbC_impl _ _).mono ?_; rintro e w' ⟨rfl, rfl⟩)
    go_ret
    exact ⟨ret_bool (by simp), rfl⟩
theorem rgC_at (c : Cu) (k : Nat) (hk : k < 8) (w : World) : (Instr.index 23 (.agg #[.int .i64 c.r0, .int .i64 c.r1, .int .i64 c.r2, .int .i64 c.r3, .int .i64 c.r4, .int .i64 c.r5, .int .i64 c.r6, .int .i64 c.r7]) (.int .i64 (k : Int))).run Tryz.prog w = .ok (.int .i64 (c.reg k)) w := by
  rcases (by omega : k = 0 ∨ k = 1 ∨ k = 2 ∨ k = 3 ∨ k = 4 ∨ k = 5 ∨ k = 6 ∨ k = 7) with rfl | rfl | rfl | rfl | rfl | rfl | rfl | rfl <;> kernel_rfl
set_option maxRecDepth 100000 in
set_option maxHeartbeats 1000000 in
theorem cpuok_impl (c : Cu) (w : World) : Calls Tryz.prog 27 #[cuV c] w fun e w' => e = .returned (.bool (okC c)) ∧ Below w.heap.size w w' := by
  have hno : Hid (∀ k, k < 8 → inB (c.reg k) 0 255 = false → okC c = false) := fun k hk => regs_no hk
  have hall : Hid ((∀ i, i < 8 → inB (c.reg i) 0 255 = true) → okC c = (decide (c.r6 = 0) && inB c.f 0 255 && inB c.sp 0 255 && inB c.pc 0 255 && (!c.ei || c.iff))) := fun h => by unfold okC; rw [regs_all h, Bool.true_and]
  have hB := hid ((Below.refl w.heap.size w).alloc (Nat.le_refl _) (.cells (cuA c) 25))
  have q1 := (Blk.new w (cuA c) 25).cell
  have hix := hid (rgC_at c)
  obtain ⟨Q, hQ⟩ : ∃ Q, okC c = Q := ⟨_, rfl⟩
  rw [hQ] at hno hall ⊢
  clear hQ
  go_enter Tryz.func27, Tryz.ntmps27
  go_upto_region 1 with fail
  obtain ⟨V, hV⟩ : ∃ V, w.alloc (Obj.cells (cuA c) 25) = V := ⟨_, rfl⟩
  rw [hV] at hB q1 ⊢
  clear hV
  go_wp2
  go_loop [7] (fun i => ∃ k : Nat, k ≤ 8 ∧ i = .int .i64 k ∧ ∀ j, j < k → inB (c.reg j) 0 255 = true) (fun i => 8 - (intOf i).toNat)
  case atStart => exact ⟨0, by omega, rfl, fun j hj => by omega⟩
  case round =>
    obtain ⟨k, hk, rfl, hj⟩ := hrel
    by_cases hlt : k < 8
    · have i1 := hix.out k hlt
      cases hb : inB (c.reg k) 0 255
      · have hE := hid (hno.out k hlt hb)
        clear hj hno hall hk
        generalize c.reg k = y at *
        go_wp2_with (go_at_call 52; refine (isbC_impl _ _).mono ?_; rintro e w' ⟨rfl, rfl⟩; rw [hb])
        go_ret
        exact ⟨ret_bool hE.out.symm, hB.out⟩
      · have hj2 : Hid (∀ j, j < k + 1 → inB (c.reg j) 0 255 = true) := fun j hj1 => by
          by_cases e : j = k
          · rw [e]; exact hb
          · exact hj j (by omega)
        clear hj hno hall hk
        generalize c.reg k = y at *
        go_wp2_with (go_at_call 52; refine (isbC_impl _ _).mono ?_; rintro e w' ⟨rfl, rfl⟩; rw [hb])
        go_round
        case rel => exact ⟨k + 1, by omega, by go_num, hj2.out⟩
        case measure => simp [intOf]; omega
    · obtain rfl : k = 8 := by omega
      have hE := hall.out hj
      clear hj hno hall hk hlt hix
      by_cases h6 : c.r6 = 0
      · have h62 : (c.r6 == 0) = true := by simp [h6]
        rw [decide_eq_true h6, Bool.true_and] at hE
        clear h6
        cases h1 : inB c.f 0 255 && inB c.sp 0 255
        · rw [h1] at hE
          replace hE := hid hE
          go_wp2_with (first | (go_at_call 53; refine (aresC_impl _ _ _).mono ?_; rintro e w' ⟨rfl, rfl⟩; rw [h1]) | (go_at_call 52; refine (isbC_impl _ _).mono ?_; rintro e w' ⟨rfl, rfl⟩))
          go_ret
          exact ⟨ret_bool (by rw [hE.out]; rfl), hB.out⟩
        · rw [h1] at hE
          cases h3 : inB c.pc 0 255
          · rw [h3] at hE
            replace hE := hid hE
            go_wp2_with (first | (go_at_call 53; refine (aresC_impl _ _ _).mono ?_; rintro e w' ⟨rfl, rfl⟩; rw [h1]) | (go_at_call 52; refine (isbC_impl _ _).mono ?_; rintro e w' ⟨rfl, rfl⟩; rw [h3]))
            go_ret
            exact ⟨ret_bool (by rw [hE.out]; rfl), hB.out⟩
          · rw [h3] at hE
            cases h4 : c.iff
            · rw [h4] at hE
              replace hE := hid hE
              go_wp2_with (first | (go_at_call 53; refine (aresC_impl _ _ _).mono ?_; rintro e w' ⟨rfl, rfl⟩; rw [h1]) | (go_at_call 52; refine (isbC_impl _ _).mono ?_; rintro e w' ⟨rfl, rfl⟩; rw [h3]))
              go_ret
              exact ⟨ret_bool (by rw [hE.out]; simp), hB.out⟩
            · rw [h4] at hE
              replace hE := hid hE
              go_wp2_with (first | (go_at_call 53; refine (aresC_impl _ _ _).mono ?_; rintro e w' ⟨rfl, rfl⟩; rw [h1]) | (go_at_call 52; refine (isbC_impl _ _).mono ?_; rintro e w' ⟨rfl, rfl⟩; rw [h3]))
              go_ret
              exact ⟨ret_bool (by rw [hE.out]; simp), hB.out⟩
      · have h62 : (c.r6 == 0) = false := by simp [h6]
        rw [decide_eq_false h6, Bool.false_and, Bool.false_and, Bool.false_and, Bool.false_and] at hE
        replace hE := hid hE
        clear h6
        go_wp2
        go_ret
        exact ⟨ret_bool (by rw [hE.out]), hB.out⟩
end Go.Proofs.YtghcagibdcblnaaGreatDoor

/- What the program's banks answer: a bank of numbers, whether it is whole, what is shown. -/
namespace Go.Proofs.YtghcagibdcblnaaGreatDoor
open Go.ChangeShapes Go.WideShapes Go.ChangeAt Go.RowKit
set_option linter.unusedVariables false
set_option linter.unusedSimpArgs false

theorem byte_impl (v : Int) (w : World) : Calls Tryz.prog 52 #[.int .i64 v] w fun e w' => e = .returned (.bool (inB v 0 255)) ∧ w' = w := by
  go_enter Tryz.func52, Tryz.ntmps52
  go_wp2
  all_goals go_ret
  all_goals exact ⟨ret_bool (by rw [Bool.eq_iff_iff]; simp [inB]; try omega), rfl⟩
theorem within_impl (n a b : Int) (w : World) : Calls Tryz.prog 56 #[.int .i64 n, .int .i64 a, .int .i64 b] w fun e w' => e = .returned (.bool (inB n a b)) ∧ w' = w := by
  go_enter Tryz.func56, Tryz.ntmps56
  go_wp2
  all_goals go_ret
  all_goals exact ⟨ret_bool (by rw [Bool.eq_iff_iff]; simp [inB]; try omega), rfl⟩
theorem screen_impl (n : Int) (w : World) : Calls Tryz.prog 57 #[.int .i64 n] w fun e w' => e = .returned (.bool (decide (n = 1 ∨ n = 3))) ∧ w' = w := by
  go_enter Tryz.func57, Tryz.ntmps57
  go_wp2
  all_goals go_ret
  all_goals exact ⟨ret_bool (by rw [Bool.eq_iff_iff]; simp; try omega), rfl⟩
theorem bankOf_impl (a : Option Addr) (n c : Nat) (w : World) : Calls Tryz.prog 54 #[.slice a n c] w fun e w' => e = .returned (.pointer (some ⟨w.heap.size, 0, none⟩)) ∧ w' = w.alloc (.cells #[.slice a n c] 117) := by
  go_enter Tryz.func54, Tryz.ntmps54
  go_wp2
  go_ret
  exact ⟨rfl, rfl⟩
set_option maxRecDepth 100000 in
theorem whole_impl (p : Nat) (a : Option Addr) (cap : Nat) (zs : List Int) (n : Nat) (w : World) (hp : w.cell? ⟨p, 0, none⟩ = some (.slice a zs.length cap)) (h : RowR w (.slice a zs.length cap) zs) (hl : zs.length ≤ 1000000000) (hn : n ≤ 1000000000) :
    Calls Tryz.prog 55 #[.pointer (some ⟨p, 0, none⟩), .int .i64 n] w fun e w' => e = .returned (.bool (bytesB zs n)) ∧ w' = w := by
  replace h := hid h.disj
  by_cases hne : zs.length = n
  · have hno : Hid (∀ k, k < zs.length → inB (zs.getD k 0) 0 255 = false → bytesB zs n = false) := fun k hk => bytes_no hk
    have hall : Hid ((∀ i, i < zs.length → inB (zs.getD i 0) 0 255 = true) → bytesB zs n = true) := fun h => by rw [bytes_all h]; exact decide_eq_true hne
    have hne2 : ((zs.length : Int) != (n : Int)) = false := by simp; omega
    replace hne := hid hne
    go_enter Tryz.func55, Tryz.ntmps55
    go_wp2
    go_loop [19] (fun i => ∃ k : Nat, k ≤ zs.length ∧ i = .int .i64 k ∧ ∀ j, j < k → inB (zs.getD j 0) 0 255 = true) (fun i => zs.length - (intOf i).toNat)
    case atStart => exact ⟨0, by omega, rfl, fun j hj => by omega⟩
    case round =>
      obtain ⟨k, hk, rfl, hj⟩ := hrel
      by_cases hlt : k < zs.length
      · obtain ⟨b, off, rfl, c1⟩ := row_some h.out hlt
        cases hb : inB (zs.getD k 0) 0 255
        · have hE := hid (hno.out k hlt hb)
          clear h hj hno hall
          generalize zs.getD k 0 = z at *
          go_wp2_with (go_at_call 52; refine (byte_impl _ _).mono ?_; rintro e w' ⟨rfl, rfl⟩; rw [hb])
          go_ret
          exact ⟨ret_bool hE.out.symm, rfl⟩
        · have hj2 : Hid (∀ j, j < k + 1 → inB (zs.getD j 0) 0 255 = true) := fun j hj1 => by
            by_cases e : j = k
            · rw [e]; exact hb
            · exact hj j (by omega)
          clear h hj hno hall
          generalize zs.getD k 0 = z at *
          go_wp2_with (go_at_call 52; refine (byte_impl _ _).mono ?_; rintro e w' ⟨rfl, rfl⟩; rw [hb])
          go_round
          case rel => exact ⟨k + 1, by omega, by go_num, hj2.out⟩
          case measure => simp [intOf]; omega
      · obtain rfl : k = zs.length := by omega
        have hE := hid (hall.out hj)
        clear hj h hno hall
        go_wp2
        go_ret
        exact ⟨ret_bool hE.out.symm, rfl⟩
  · have e : bytesB zs n = false := by unfold bytesB; rw [decide_eq_false hne, Bool.and_false]
    have hne2 : ((zs.length : Int) != (n : Int)) = true := by simp; omega
    rw [e]
    clear e hne
    go_enter Tryz.func55, Tryz.ntmps55
    go_wp2
    go_ret
    exact ⟨rfl, rfl⟩
end Go.Proofs.YtghcagibdcblnaaGreatDoor
