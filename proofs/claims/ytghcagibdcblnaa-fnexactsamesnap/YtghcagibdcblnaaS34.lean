/- Whether a snapshot is right: the program. -/
import Derived.Test.YtghcagibdcblnaaEhs
import Derived.Test.YtghcagibdcblnaaS32
import Derived.Test.YtghcagibdcblnaaBbs
import Derived.Test.YtghcagibdcblnaaLcs
namespace Go.Proofs.Ytghcagibdcblnaa
open Go.ChangeShapes Go.WideShapes Go.ChangeAt Go.RowKit
set_option linter.unusedVariables false
set_option linter.unusedSimpArgs false

set_option maxRecDepth 100000 in
theorem isright_impl (v : Value) (s : Sn) (w : World) (h : SnR w v s) (hl : s.m.rom.length ≤ 1000000000) (hm : s.m.ram.length ≤ 1000000000) (hr : ∀ i, i < s.m.ram.length → (s.m.ram.getD i []).length ≤ 1000000000) :
    Calls Try.prog 22 #[v] w fun e w' => e = .returned (.bool (okSn s)) ∧ Below w.heap.size w w' := by
  obtain ⟨vr, vm, rfl, hv⟩ := h
  have hB := hid ((Below.refl w.heap.size w).alloc (Nat.le_refl _) (.cells (snA s vr vm) 39))
  have q := hid (Blk.new w (snA s vr vm) 39)
  have hE : okSn s = (okC s.c && okM s.m && okPo s.p) := rfl
  have hC := hid (fun w1 => cpuok_impl s.c w1)
  have hM := hid (fun w1 (b1 : Below w.heap.size w w1) => ok_impl (memV vr vm s.m.page s.m.screen s.m.locked) s.m w1 (hv.below b1) hl hm hr)
  have hP := hid (fun w1 => pok_impl s.p w1)
  rw [hE]
  cases h1 : okC s.c
  · rw [h1] at hC
    go_enter Try.func22, Try.ntmps22
    go_upto_region 1 with fail
    obtain ⟨V, hV⟩ : ∃ V, w.alloc (Obj.cells (snA s vr vm) 39) = V := ⟨_, rfl⟩
    rw [hV] at hB q ⊢
    clear hV hM hP hE hv
    have x1 := hid (sn_cpu q.out)
    go_wp2_with (refine wpList_load_mid rfl 35 _ rfl w.heap.size 0 rfl (cuA s.c).toList _ x1.out Try.underlying35 rfl (szC s.c) ?_)
    refine (hC.out _).mono ?_
    rintro e w1 ⟨rfl, hb⟩
    have hB1 := hid (new_trans hB.out hb)
    clear hb hB q x1
    go_wp2_with fail
    go_ret
    exact ⟨rfl, hB1.out⟩
  · rw [h1] at hC
    cases h2 : okM s.m
    · rw [h2] at hM
      go_enter Try.func22, Try.ntmps22
      go_upto_region 1 with fail
      obtain ⟨V, hV⟩ : ∃ V, w.alloc (Obj.cells (snA s vr vm) 39) = V := ⟨_, rfl⟩
      rw [hV] at hB q ⊢
      clear hV hE hv hP
      have x1 := hid (sn_cpu q.out)
      go_wp2_with (refine wpList_load_mid rfl 35 _ rfl w.heap.size 0 rfl (cuA s.c).toList _ x1.out Try.underlying35 rfl (szC s.c) ?_)
      refine (hC.out _).mono ?_
      rintro e w1 ⟨rfl, hb⟩
      have hB1 := hid (new_trans hB.out hb)
      have q1 := hid (q.out.below hb q.out.lt)
      clear hb hB q x1
      have x2 := hid (sn_mem q1.out)
      go_wp2_with (first | (guard_target = wpList _ _ _ (Oper.mk _ (Op.load 36 _) _ _ _ (some _) :: _) _ _; refine ld_want 36 _ rfl w.heap.size 14 rfl (by kernel_rfl) [vr, vm, .int .i64 s.m.page, .int .i64 s.m.screen, .bool s.m.locked] _ x2.out Try.underlying36 rfl (szM _ _ _ _ _) ?_; simp only [Act.put, List.setIfInBounds_toArray, List.set_cons_zero, List.set_cons_succ]) | (guard_target = wpList _ _ _ (Oper.mk _ _ _ _ _ (some _) :: _) _ _; refine wpList_step (fun _ _ => ?_); rw [if_pos (by kernel_rfl)]; go_simp))
      refine (hM.out _ hB1.out).mono ?_
      rintro e w2 ⟨rfl, hb⟩
      have hB2 := hid (new_trans hB1.out hb)
      have q2 := hid (q1.out.below hb q1.out.lt)
      clear hb hB1 q1 x2
      clear q2
      go_wp2_with fail
      go_ret
      exact ⟨rfl, hB2.out⟩
    · rw [h2] at hM
      generalize okPo s.p = Q at *
      go_enter Try.func22, Try.ntmps22
      go_upto_region 1 with fail
      obtain ⟨V, hV⟩ : ∃ V, w.alloc (Obj.cells (snA s vr vm) 39) = V := ⟨_, rfl⟩
      rw [hV] at hB q ⊢
      clear hV hE hv 
      have x1 := hid (sn_cpu q.out)
      go_wp2_with (refine wpList_load_mid rfl 35 _ rfl w.heap.size 0 rfl (cuA s.c).toList _ x1.out Try.underlying35 rfl (szC s.c) ?_)
      refine (hC.out _).mono ?_
      rintro e w1 ⟨rfl, hb⟩
      have hB1 := hid (new_trans hB.out hb)
      have q1 := hid (q.out.below hb q.out.lt)
      clear hb hB q x1
      have x2 := hid (sn_mem q1.out)
      go_wp2_with (first | (guard_target = wpList _ _ _ (Oper.mk _ (Op.load 36 _) _ _ _ (some _) :: _) _ _; refine ld_want 36 _ rfl w.heap.size 14 rfl (by kernel_rfl) [vr, vm, .int .i64 s.m.page, .int .i64 s.m.screen, .bool s.m.locked] _ x2.out Try.underlying36 rfl (szM _ _ _ _ _) ?_; simp only [Act.put, List.setIfInBounds_toArray, List.set_cons_zero, List.set_cons_succ]) | (guard_target = wpList _ _ _ (Oper.mk _ _ _ _ _ (some _) :: _) _ _; refine wpList_step (fun _ _ => ?_); rw [if_pos (by kernel_rfl)]; go_simp))
      refine (hM.out _ hB1.out).mono ?_
      rintro e w2 ⟨rfl, hb⟩
      have hB2 := hid (new_trans hB1.out hb)
      have q2 := hid (q1.out.below hb q1.out.lt)
      clear hb hB1 q1 x2
      have x3 := hid (sn_po q2.out)
      go_wp2_with (first | (guard_target = wpList _ _ _ (Oper.mk _ (Op.load 37 _) _ _ _ (some _) :: _) _ _; refine ld_want 37 _ rfl w.heap.size 19 rfl (by kernel_rfl) (poA s.p).toList _ x3.out Try.underlying37 rfl (szP s.p) ?_; simp only [Act.put, List.setIfInBounds_toArray, List.set_cons_zero, List.set_cons_succ]) | (guard_target = wpList _ _ _ (Oper.mk _ _ _ _ _ (some _) :: _) _ _; refine wpList_step (fun _ _ => ?_); rw [if_pos (by kernel_rfl)]; go_simp))
      refine (hP.out _).mono ?_
      rintro e w3 ⟨rfl, hb⟩
      have hB3 := hid (new_trans hB2.out hb)
      clear hb hB2 q2 x3
      go_wp2_with fail
      go_ret
      exact ⟨rfl, hB3.out⟩
set_option maxRecDepth 100000 in
theorem snok_impl (v : Value) (s : Sn) (w : World) (h : SnR w v s) (hs : SmallS s) : Calls Try.prog 9 #[v] w fun e w' => e = .returned (.bool (okSn s)) ∧ Below w.heap.size w w' := by
  have hS := h
  obtain ⟨vr, vm, rfl, hv⟩ := h
  have hB := hid ((Below.refl w.heap.size w).alloc (Nat.le_refl _) (.cells (snA s vr vm) 39))
  have q := hid (Blk.new w (snA s vr vm) 39)
  have hO := hid (fun w1 (hb : Below w.heap.size w w1) => isright_impl (.agg (snA s vr vm)) s w1 (hS.below hb) hs.1 hs.2.1 hs.2.2)
  clear hS hv
  go_enter Try.func9, Try.ntmps9
  go_upto_region 1 with fail
  obtain ⟨V, hV⟩ : ∃ V, w.alloc (Obj.cells (snA s vr vm) 39) = V := ⟨_, rfl⟩
  rw [hV] at hB q ⊢
  clear hV
  have x1 := hid (sn_all q.out)
  go_wp2_with (refine wpList_load_mid rfl 39 _ rfl w.heap.size 0 rfl (snA s vr vm).toList _ x1.out Try.underlying39 rfl (szS s vr vm) ?_)
  refine (hO.out _ hB.out).mono ?_
  rintro e w1 ⟨rfl, hb⟩
  have hB1 := hid (new_trans hB.out hb)
  clear hb hB q x1
  go_wp2_with fail
  go_ret
  exact ⟨rfl, hB1.out⟩
end Go.Proofs.Ytghcagibdcblnaa

/- Runs expanded: the specification. -/
namespace Go.Proofs.Ytghcagibdcblnaa
open Go.ChangeShapes Go.WideShapes Go.ChangeAt Go.RowKit
set_option linter.unusedVariables false
set_option linter.unusedSimpArgs false

theorem drop_head {t : ByteArray} {k : Nat} (h : k < t.size) : ((bts t).drop k).head? = some (byt t k) := by rw [bts_drop t h]; rfl
theorem drop_head_no {t : ByteArray} {k : Nat} (h : ¬ k < t.size) : ((bts t).drop k).head? = none := by rw [List.drop_eq_nil_of_le (by rw [bts_len]; omega)]; rfl
theorem expT_run {t : ByteArray} {n i : Nat} {A : List Int} (h : i + 3 < t.size) (h0 : byt t i = 237) (h1 : byt t (i + 1) = 237) :
    expE n ((bts t).drop i) A = if n < A.length + (byt t (i + 2)).toNat then ([], 8) else expE n ((bts t).drop (i + 4)) (A ++ List.replicate (byt t (i + 2)).toNat (byt t (i + 3))) := by
  rw [bts_drop t (show i < t.size by omega), bts_drop t (show i + 1 < t.size by omega), bts_drop t (show i + 1 + 1 < t.size by omega), bts_drop t (show i + 1 + 1 + 1 < t.size by omega), h0, h1, expE_run]
theorem expT_cut {t : ByteArray} {n i : Nat} {A : List Int} (h : i + 1 < t.size) (h3 : ¬ i + 3 < t.size) (h0 : byt t i = 237) (h1 : byt t (i + 1) = 237) : expE n ((bts t).drop i) A = ([], 9) := by
  rw [bts_drop t (show i < t.size by omega), bts_drop t h, h0, h1]
  exact expE_cut n _ A (by rw [List.length_drop, bts_len]; omega)
theorem expT_one {t : ByteArray} {n i : Nat} {A : List Int} (h : i < t.size) (hn : ¬ (i + 1 < t.size ∧ byt t i = 237 ∧ byt t (i + 1) = 237)) :
    expE n ((bts t).drop i) A = if n < A.length + 1 then ([], 8) else expE n ((bts t).drop (i + 1)) (A ++ [byt t i]) := by
  rw [bts_drop t h]
  refine expE_cons n _ _ A (fun hh => hn ?_)
  by_cases h1 : i + 1 < t.size
  · rw [drop_head h1] at hh
    exact ⟨h1, hh.1, Option.some.inj hh.2⟩
  · rw [drop_head_no h1] at hh
    cases hh.2
theorem expT_end {t : ByteArray} {n : Nat} {A : List Int} : expE n ((bts t).drop t.size) A = if A.length = n then (A, 0) else ([], 8) := by
  rw [List.drop_eq_nil_of_le (by rw [bts_len]; exact Nat.le_refl _)]
  rfl
abbrev exS (r : List Int × Int) : Value := .tuple #[.string (strOfNums r.1), .int .i64 r.2]
theorem exS_no (c : Int) : exS ([], c) = .tuple #[.string ⟨#[]⟩, .int .i64 c] := rfl
end Go.Proofs.Ytghcagibdcblnaa

/- Compress, Expand, RunAt: the specification; the plain facts of the law of runs. -/
namespace Go.Proofs.Ytghcagibdcblnaa
open Go.ChangeShapes Go.WideShapes Go.ChangeAt Go.RowKit
set_option linter.unusedVariables false
set_option linter.unusedSimpArgs false

abbrev eS0 : ByteArray := ⟨#[]⟩
def cmp2 (t : ByteArray) : ByteArray × Int := if 65536 < t.size then (eS0, 2) else if 4096 < t.size then (eS0, 8) else (strOfNums (cmpE (bts t)), 0)
def exp2 (t : ByteArray) (n : Int) : ByteArray × Int := if 65536 < t.size then (eS0, 2) else if inB n 0 4096 = true then (strOfNums (expE n.toNat (bts t) []).1, (expE n.toNat (bts t) []).2) else (eS0, 4)
def rat2 (t : ByteArray) (i : Int) : Int × Int := if 65536 < t.size then (0, 2) else if inB i 0 ((t.size : Int) - 1) = true then ((runT t i.toNat : Nat), 0) else (0, 4)
theorem cmpL_all : ∀ (f : Nat) (L : List Int), (∀ x ∈ L, 0 ≤ x ∧ x ≤ 255) → ∀ x ∈ cmpL f L, 0 ≤ x ∧ x ≤ 255
  | 0, L, _, x, h => by cases h
  | f + 1, [], _, x, h => by cases h
  | f + 1, b :: L, hL, x, h => by
    have hb := hL b (List.mem_cons_self ..)
    have hLL : ∀ y ∈ L, 0 ≤ y ∧ y ≤ 255 := fun y hy => hL y (List.mem_cons_of_mem _ hy)
    have hle := runH_le 255 b (b :: L)
    rw [cmpL_cons] at h
    by_cases hr : 5 ≤ runH 255 b (b :: L) ∨ (b = 237 ∧ 2 ≤ runH 255 b (b :: L))
    · rw [if_pos hr] at h
      rcases List.mem_append.1 h with h | h
      · simp at h
        omega
      · exact cmpL_all f _ (fun y hy => hL y (List.mem_of_mem_drop hy)) x h
    · rw [if_neg hr] at h
      by_cases hb2 : b = 237
      · rw [if_pos hb2] at h
        match L, hLL, h with
        | [], _, h =>
          simp at h
          omega
        | c :: M, hLL, h =>
          rcases List.mem_cons.1 h with rfl | h
          · exact hb
          rcases List.mem_cons.1 h with rfl | h
          · exact hLL _ (List.mem_cons_self ..)
          · exact cmpL_all f M (fun y hy => hLL y (List.mem_cons_of_mem _ hy)) x h
      · rw [if_neg hb2] at h
        rcases List.mem_cons.1 h with rfl | h
        · exact hb
        · exact cmpL_all f L hLL x h
theorem get_dropL (s : ByteArray) (i : Nat) (h : i < s.size) : s.data.toList.drop i = s.get! i :: s.data.toList.drop (i + 1) := by
  have hl : i < s.data.toList.length := by simpa using h
  rw [List.drop_eq_getElem_cons hl]
  congr 1
  have : s.get! i = s.data[i]! := rfl
  rw [this, getElem!_pos s.data i (by simpa using h)]
  simp
theorem loop_listL (s : ByteArray) : ∀ n i r, s.size - i = n → ByteArray.toList.loop s i r = r.reverse ++ s.data.toList.drop i
  | 0, i, r, h => by
    rw [ByteArray.toList.loop, if_neg (by omega), List.drop_eq_nil_of_le (by simp; omega), List.append_nil]
  | n + 1, i, r, h => by
    rw [ByteArray.toList.loop, if_pos (by omega), loop_listL s n (i + 1) _ (by omega), get_dropL s i (by omega)]
    simp
theorem bl_listL (s : ByteArray) : s.toList = s.data.toList := by
  unfold ByteArray.toList
  rw [loop_listL s _ 0 [] rfl]
  simp
/-- what the law of runs asks of a text -/
theorem rle_facts {t : ByteArray} (ht : t.size ≤ 4000) : ∃ x, cmp2 t = (x, 0) ∧ x.size ≤ 2 * t.size ∧ exp2 x (t.size : Int) = (t, 0) ∧ ∃ y, exp2 x ((t.size : Int) + 1) = (y, 8) := by
  have hall := cmpL_all (bts t).length (bts t) (bts_all t)
  have hb : bts (strOfNums (cmpE (bts t))) = cmpE (bts t) := bts_str hall
  have hlen : (strOfNums (cmpE (bts t))).size ≤ 2 * t.size := by
    rw [strOfNums_size]
    have := cmpE_len (bts t)
    rw [bts_len] at this
    exact this
  refine ⟨strOfNums (cmpE (bts t)), by unfold cmp2; rw [if_neg (by omega), if_neg (by omega)], hlen, ?_, eS0, ?_⟩
  · unfold exp2
    rw [if_neg (by omega), if_pos (in_yes (by omega) (by omega)), hb, Int.toNat_natCast]
    have h := exp_cmp t.size (bts t).length (bts t) [] (Nat.le_refl _) (by rw [bts_len]; simp)
    have h2 : expE t.size (cmpE (bts t)) [] = (bts t, 0) := by
      unfold cmpE
      rw [h, if_pos (by rw [List.nil_append, bts_len]), List.nil_append]
    rw [h2]
    show (strOfNums (bts t), (0 : Int)) = _
    rw [str_bts]
  · unfold exp2
    have e1 : ((t.size : Int) + 1).toNat = t.size + 1 := by omega
    rw [if_neg (by omega), if_pos (in_yes (by omega) (by omega)), hb, e1]
    have h := exp_cmp (t.size + 1) (bts t).length (bts t) [] (Nat.le_refl _) (by rw [bts_len]; simp)
    have h2 : expE (t.size + 1) (cmpE (bts t)) [] = ([], 8) := by
      unfold cmpE
      rw [h, if_neg (by rw [List.nil_append, bts_len]; omega)]
    rw [h2]
    rfl
theorem rat_facts {t : ByteArray} {k : Nat} (ht : t.size ≤ 4000) (hk : k < t.size) : ∃ n : Nat, rat2 t (k : Int) = ((n : Int), 0) ∧ 1 ≤ n ∧ n ≤ 255 ∧ k + n ≤ t.size ∧ byt t (k + n - 1) = byt t k := by
  obtain ⟨h1, h2, h3⟩ := runT_bd t k hk
  refine ⟨runT t k, by unfold rat2; rw [if_neg (by omega), if_pos (in_yes (by omega) (by omega)), Int.toNat_natCast], h1, h2, h3, ?_⟩
  have hr := runH_rep 255 (byt t k) ((bts t).drop k)
  have hg : ((bts t).drop k)[runT t k - 1]? = some (byt t k) := by
    rw [hr]
    show (List.replicate (runT t k) (byt t k) ++ _)[runT t k - 1]? = _
    rw [List.getElem?_append_left (by rw [List.length_replicate]; omega), List.getElem?_replicate, if_pos (by omega)]
  rw [List.getElem?_drop] at hg
  have e : k + (runT t k - 1) = k + runT t k - 1 := by omega
  rw [e, bts_at t (by omega)] at hg
  exact Option.some.inj hg
end Go.Proofs.Ytghcagibdcblnaa
