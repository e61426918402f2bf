/- What the cursor's own method take answers, and TakeBytes, TakeByte, TakeWord over it. -/
import Derived.Test.YtghcagibdcblnaaGreatDoorF20
import Derived.Test.YtghcagibdcblnaaGreatDoorLcf
namespace Go.Proofs.YtghcagibdcblnaaGreatDoor
open Go.ChangeShapes Go.WideShapes Go.ChangeAt Go.RowKit
set_option linter.unusedVariables false
set_option linter.unusedSimpArgs false

set_option maxRecDepth 100000 in
theorem take_impl (s : ByteArray) (a n : Int) (e0 e1 e2 : Addr) (w : World) (hs : s.size ≤ maxLen) (hE : Errs w e0 e1 e2) :
    Calls Tryz.prog 86 #[cur s a, .int .i64 n] w fun e w' => e = .returned (takeE e0 e1 e2 (takeV s a n)) ∧ Below w.heap.size w w' := by
  have g0 := hE.c0
  have g1 := hE.c1
  have g2 := hE.c2
  have z2 := World.block_lt_of_cell? w _ g2
  have z1 := World.block_lt_of_cell? w _ g1
  have z0 := World.block_lt_of_cell? w _ g0
  simp only at z0 z1 z2
  have hEh : Hid (Errs w e0 e1 e2) := hE
  clear hE
  cases hst : stB s a
  · have e : takeV s a n = ((ByteArray.empty, 0), ByteArray.empty, 1) := by unfold takeV; rw [if_pos hst]
    rw [e]
    go_enter Tryz.func86, Tryz.ntmps86
    go_wp2_with fail
    refine (stands_any _ _ _ hs).mono ?_
    rintro e w1 ⟨rfl, hb1⟩
    obtain ⟨hc1, hf1⟩ := bcell hb1
    have hz1 := hb1.size
    simp only [World.size_alloc] at hz1
    have HB : Hid (Below _ _ w1) := hb1
    clear hb1
    have hE1 := hEh.out.below ((((Below.refl _ _).alloc (Nat.le_refl _) _).alloc (by simp) _).trans (HB.out.mono (by simp; omega)) : Below w.heap.size w w1)
    have u0 := hE1.c0
    have u1 := hE1.c1
    have u2 := hE1.c2
    clear hE1
    go_wp2
    go_region
    go_wp2
    have B1 : Below w.heap.size w w1 := (((Below.refl _ _).alloc (Nat.le_refl _) _).alloc (by simp) _).trans (HB.out.mono (by simp; omega))
    exact bodyPost_ret (v := takeE e0 e1 e2 ((ByteArray.empty, 0), ByteArray.empty, 1)) (by simp [results, Tryz.results86, go_sem, takeE, errV, hz1, hc1]; rfl) rfl ⟨rfl, by repeat (first | exact B1 | refine Below.setCell ?_ (by simp) _ | refine Below.drew ?_)⟩
  · obtain ⟨hs1, ha0, ha1⟩ := stB_yes hst
    by_cases hn : n < 0 ∨ 65536 < n
    · have e : takeV s a n = ((ByteArray.empty, 0), ByteArray.empty, 4) := by unfold takeV; rw [if_neg (by rw [hst]; simp), if_pos hn]
      rw [e]
      rcases hn with hn | hn
      all_goals
        go_enter Tryz.func86, Tryz.ntmps86
        go_wp2_with fail
        refine (stands_any _ _ _ hs).mono ?_
        rintro e w1 ⟨rfl, hb1⟩
        obtain ⟨hc1, hf1⟩ := bcell hb1
        have hz1 := hb1.size
        simp only [World.size_alloc] at hz1
        have HB : Hid (Below _ _ w1) := hb1
        clear hb1
        have hE1 := hEh.out.below ((((Below.refl _ _).alloc (Nat.le_refl _) _).alloc (by simp) _).trans (HB.out.mono (by simp; omega)) : Below w.heap.size w w1)
        have u0 := hE1.c0
        have u1 := hE1.c1
        have u2 := hE1.c2
        clear hE1
        go_wp2
        go_region
        go_wp2
        have B1 : Below w.heap.size w w1 := (((Below.refl _ _).alloc (Nat.le_refl _) _).alloc (by simp) _).trans (HB.out.mono (by simp; omega))
        exact bodyPost_ret (v := takeE e0 e1 e2 ((ByteArray.empty, 0), ByteArray.empty, 4)) (by simp [results, Tryz.results86, go_sem, takeE, errV, hz1, hc1]; rfl) rfl ⟨rfl, by repeat (first | exact B1 | refine Below.setCell ?_ (by simp) _ | refine Below.drew ?_)⟩
    · by_cases hlt : (s.size : Int) < a + n
      · have e : takeV s a n = ((s, a), ByteArray.empty, 9) := by unfold takeV; rw [if_neg (by rw [hst]; simp), if_neg hn, if_pos hlt]
        rw [e]
        have hn0 : 0 ≤ n := by omega
        have hn1 : n ≤ 65536 := by omega
        go_enter Tryz.func86, Tryz.ntmps86
        go_wp2_with fail
        refine (stands_any _ _ _ hs).mono ?_
        rintro e w1 ⟨rfl, hb1⟩
        obtain ⟨hc1, hf1⟩ := bcell hb1
        have hz1 := hb1.size
        simp only [World.size_alloc] at hz1
        have HB : Hid (Below _ _ w1) := hb1
        clear hb1
        have hE1 := hEh.out.below ((((Below.refl _ _).alloc (Nat.le_refl _) _).alloc (by simp) _).trans (HB.out.mono (by simp; omega)) : Below w.heap.size w w1)
        have u0 := hE1.c0
        have u1 := hE1.c1
        have u2 := hE1.c2
        clear hE1
        go_wp2
        go_region
        go_wp2
        have B1 : Below w.heap.size w w1 := (((Below.refl _ _).alloc (Nat.le_refl _) _).alloc (by simp) _).trans (HB.out.mono (by simp; omega))
        exact bodyPost_ret (v := takeE e0 e1 e2 ((s, a), ByteArray.empty, 9)) (by simp [results, Tryz.results86, go_sem, takeE, errV, hz1, hc1]; rfl) rfl ⟨rfl, by repeat (first | exact B1 | refine Below.setCell ?_ (by simp) _ | refine Below.drew ?_)⟩
      · have e : takeV s a n = ((s, a + n), s.extract a.toNat (a + n).toNat, 0) := by unfold takeV; rw [if_neg (by rw [hst]; simp), if_neg hn, if_neg hlt]
        rw [e]
        have hn0 : 0 ≤ n := by omega
        have hn1 : n ≤ 65536 := by omega
        have hlt3 : a + n ≤ (s.size : Int) := by omega
        go_enter Tryz.func86, Tryz.ntmps86
        go_wp2_with fail
        refine (stands_any _ _ _ hs).mono ?_
        rintro e w1 ⟨rfl, hb1⟩
        obtain ⟨hc1, hf1⟩ := bcell hb1
        have hz1 := hb1.size
        simp only [World.size_alloc] at hz1
        have HB : Hid (Below _ _ w1) := hb1
        clear hb1
        have hE1 := hEh.out.below ((((Below.refl _ _).alloc (Nat.le_refl _) _).alloc (by simp) _).trans (HB.out.mono (by simp; omega)) : Below w.heap.size w w1)
        have u0 := hE1.c0
        have u1 := hE1.c1
        have u2 := hE1.c2
        clear hE1
        go_wp2
        go_region
        go_wp2
        have B1 : Below w.heap.size w w1 := (((Below.refl _ _).alloc (Nat.le_refl _) _).alloc (by simp) _).trans (HB.out.mono (by simp; omega))
        exact bodyPost_ret (v := takeE e0 e1 e2 ((s, a + n), s.extract a.toNat (a + n).toNat, 0)) (by simp [results, Tryz.results86, go_sem, takeE, errV, hz1, hc1]) rfl ⟨rfl, by repeat (first | exact B1 | refine Below.setCell ?_ (by simp) _ | refine Below.drew ?_)⟩
end Go.Proofs.YtghcagibdcblnaaGreatDoor

/- What TakeBytes, TakeByte and TakeWord answer, the program's own and the specification's: the same, made out of takeV; new blocks at most. -/
namespace Go.Proofs.YtghcagibdcblnaaGreatDoor
open Go.ChangeShapes Go.WideShapes Go.ChangeAt Go.RowKit
set_option linter.unusedVariables false
set_option linter.unusedSimpArgs false

theorem takeV_code (s : ByteArray) (a n : Int) : (takeV s a n).2.2 = 0 ∨ (takeV s a n).2.2 = 1 ∨ (takeV s a n).2.2 = 4 ∨ (takeV s a n).2.2 = 9 := by
  unfold takeV
  repeat' split
  all_goals simp
theorem takeV_size (s : ByteArray) (a : Int) (n : Nat) (h : (takeV s a n).2.2 = 0) : (takeV s a n).2.1.size = n ∧ (takeV s a n).1.1 = s ∧ 0 ≤ a ∧ a + n ≤ s.size ∧ (takeV s a n).1.2 = a + n ∧ (takeV s a n).2.1 = s.extract a.toNat (a + n).toNat := by
  unfold takeV at h ⊢
  split at h
  · simp at h
  · rename_i h1
    obtain ⟨_, h2, h3⟩ := stB_yes (by simpa using h1)
    split at h
    · simp at h
    · split at h
      · simp at h
      · rename_i h4 h5
        rw [if_neg h1, if_neg h4, if_neg h5]
        refine ⟨?_, rfl, h2, by omega, rfl, rfl⟩
        simp [ByteArray.size_extract]
        omega
theorem errV_some (e0 e1 e2 : Addr) (c : Int) (h : c ≠ 0) : ∃ x, errV e0 e1 e2 c = .iface 171 (.pointer (some x)) := by
  unfold errV
  rw [if_neg h]
  repeat' split
  all_goals exact ⟨_, rfl⟩


def tbV (X : (ByteArray × Int) × ByteArray × Int) : Value := .tuple #[cur X.1.1 X.1.2, .int .i64 (if X.2.2 = 0 then byt X.2.1 0 else 0), .int .i64 X.2.2]
def twV (X : (ByteArray × Int) × ByteArray × Int) : Value := .tuple #[cur X.1.1 X.1.2, .int .i64 (if X.2.2 = 0 then byt X.2.1 0 + 256 * byt X.2.1 1 else 0), .int .i64 X.2.2]

theorem wordOf_impl (t : ByteArray) (w : World) (h : t.size = 2) : Calls Tryz.prog 78 #[.string t] w fun e w' => e = .returned (.int .i64 (byt t 0 + 256 * byt t 1)) ∧ w' = w.drew := by
  have hx0 := run_idx t 0 0 rfl (by omega)
  have hx1 := run_idx t 1 1 rfl (by omega)
  have hb0 := byt_bd t 0
  have hb1 := byt_bd t 1
  go_enter Tryz.func78, Tryz.ntmps78
  go_wp2
  go_region
  go_wp2
  go_ret
  exact ⟨rfl, rfl⟩
end Go.Proofs.YtghcagibdcblnaaGreatDoor

/- What the specification's TakeBytes, TakeByte and TakeWord answer, and the laws' own helpers over cursors. -/
namespace Go.Proofs.YtghcagibdcblnaaGreatDoor
open Go.ChangeShapes Go.WideShapes Go.ChangeAt Go.RowKit
set_option linter.unusedVariables false
set_option linter.unusedSimpArgs false
end Go.Proofs.YtghcagibdcblnaaGreatDoor

/- Runs expanded: the specification. -/
namespace Go.Proofs.YtghcagibdcblnaaGreatDoor
open Go.ChangeShapes Go.WideShapes Go.ChangeAt Go.RowKit
set_option linter.unusedVariables false
set_option linter.unusedSimpArgs false

theorem drop_head {t : ByteArray} {k : Nat} (h : k < t.size) : ((bts t).drop k).head? = some (byt t k) := by rw [bts_drop t h]; rfl
theorem drop_head_no {t : ByteArray} {k : Nat} (h : ¬ k < t.size) : ((bts t).drop k).head? = none := by rw [List.drop_eq_nil_of_le (by rw [bts_len]; omega)]; rfl
theorem expT_run {t : ByteArray} {n i : Nat} {A : List Int} (h : i + 3 < t.size) (h0 : byt t i = 237) (h1 : byt t (i + 1) = 237) :
    expE n ((bts t).drop i) A = if n < A.length + (byt t (i + 2)).toNat then ([], 8) else expE n ((bts t).drop (i + 4)) (A ++ List.replicate (byt t (i + 2)).toNat (byt t (i + 3))) := by
  rw [bts_drop t (show i < t.size by omega), bts_drop t (show i + 1 < t.size by omega), bts_drop t (show i + 1 + 1 < t.size by omega), bts_drop t (show i + 1 + 1 + 1 < t.size by omega), h0, h1, expE_run]
theorem expT_cut {t : ByteArray} {n i : Nat} {A : List Int} (h : i + 1 < t.size) (h3 : ¬ i + 3 < t.size) (h0 : byt t i = 237) (h1 : byt t (i + 1) = 237) : expE n ((bts t).drop i) A = ([], 9) := by
  rw [bts_drop t (show i < t.size by omega), bts_drop t h, h0, h1]
  exact expE_cut n _ A (by rw [List.length_drop, bts_len]; omega)
theorem expT_one {t : ByteArray} {n i : Nat} {A : List Int} (h : i < t.size) (hn : ¬ (i + 1 < t.size ∧ byt t i = 237 ∧ byt t (i + 1) = 237)) :
    expE n ((bts t).drop i) A = if n < A.length + 1 then ([], 8) else expE n ((bts t).drop (i + 1)) (A ++ [byt t i]) := by
  rw [bts_drop t h]
  refine expE_cons n _ _ A (fun hh => hn ?_)
  by_cases h1 : i + 1 < t.size
  · rw [drop_head h1] at hh
    exact ⟨h1, hh.1, Option.some.inj hh.2⟩
  · rw [drop_head_no h1] at hh
    cases hh.2
theorem expT_end {t : ByteArray} {n : Nat} {A : List Int} : expE n ((bts t).drop t.size) A = if A.length = n then (A, 0) else ([], 8) := by
  rw [List.drop_eq_nil_of_le (by rw [bts_len]; exact Nat.le_refl _)]
  rfl
abbrev exS (r : List Int × Int) : Value := .tuple #[.string (strOfNums r.1), .int .i64 r.2]
theorem exS_no (c : Int) : exS ([], c) = .tuple #[.string ⟨#[]⟩, .int .i64 c] := rfl
end Go.Proofs.YtghcagibdcblnaaGreatDoor

/- Compress, Expand, RunAt: the specification; the plain facts of the law of runs. -/
namespace Go.Proofs.YtghcagibdcblnaaGreatDoor
open Go.ChangeShapes Go.WideShapes Go.ChangeAt Go.RowKit
set_option linter.unusedVariables false
set_option linter.unusedSimpArgs false

abbrev eS0 : ByteArray := ⟨#[]⟩
def cmp2 (t : ByteArray) : ByteArray × Int := if 65536 < t.size then (eS0, 2) else if 4096 < t.size then (eS0, 8) else (strOfNums (cmpE (bts t)), 0)
def exp2 (t : ByteArray) (n : Int) : ByteArray × Int := if 65536 < t.size then (eS0, 2) else if inB n 0 4096 = true then (strOfNums (expE n.toNat (bts t) []).1, (expE n.toNat (bts t) []).2) else (eS0, 4)
def rat2 (t : ByteArray) (i : Int) : Int × Int := if 65536 < t.size then (0, 2) else if inB i 0 ((t.size : Int) - 1) = true then ((runT t i.toNat : Nat), 0) else (0, 4)
theorem cmpL_all : ∀ (f : Nat) (L : List Int), (∀ x ∈ L, 0 ≤ x ∧ x ≤ 255) → ∀ x ∈ cmpL f L, 0 ≤ x ∧ x ≤ 255
  | 0, L, _, x, h => by cases h
  | f + 1, [], _, x, h => by cases h
  | f + 1, b :: L, hL, x, h => by
    have hb := hL b (List.mem_cons_self ..)
    have hLL : ∀ y ∈ L, 0 ≤ y ∧ y ≤ 255 := fun y hy => hL y (List.mem_cons_of_mem _ hy)
    have hle := runH_le 255 b (b :: L)
    rw [cmpL_cons] at h
    by_cases hr : 5 ≤ runH 255 b (b :: L) ∨ (b = 237 ∧ 2 ≤ runH 255 b (b :: L))
    · rw [if_pos hr] at h
      rcases List.mem_append.1 h with h | h
      · simp at h
        omega
      · exact cmpL_all f _ (fun y hy => hL y (List.mem_of_mem_drop hy)) x h
    · rw [if_neg hr] at h
      by_cases hb2 : b = 237
      · rw [if_pos hb2] at h
        match L, hLL, h with
        | [], _, h =>
          simp at h
          omega
        | c :: M, hLL, h =>
          rcases List.mem_cons.1 h with rfl | h
          · exact hb
          rcases List.mem_cons.1 h with rfl | h
          · exact hLL _ (List.mem_cons_self ..)
          · exact cmpL_all f M (fun y hy => hLL y (List.mem_cons_of_mem _ hy)) x h
      · rw [if_neg hb2] at h
        rcases List.mem_cons.1 h with rfl | h
        · exact hb
        · exact cmpL_all f L hLL x h
theorem get_dropL (s : ByteArray) (i : Nat) (h : i < s.size) : s.data.toList.drop i = s.get! i :: s.data.toList.drop (i + 1) := by
  have hl : i < s.data.toList.length := by simpa using h
  rw [List.drop_eq_getElem_cons hl]
  congr 1
  have : s.get! i = s.data[i]! := rfl
  rw [this, getElem!_pos s.data i (by simpa using h)]
  simp
theorem loop_listL (s : ByteArray) : ∀ n i r, s.size - i = n → ByteArray.toList.loop s i r = r.reverse ++ s.data.toList.drop i
  | 0, i, r, h => by
    rw [ByteArray.toList.loop, if_neg (by omega), List.drop_eq_nil_of_le (by simp; omega), List.append_nil]
  | n + 1, i, r, h => by
    rw [ByteArray.toList.loop, if_pos (by omega), loop_listL s n (i + 1) _ (by omega), get_dropL s i (by omega)]
    simp
theorem bl_listL (s : ByteArray) : s.toList = s.data.toList := by
  unfold ByteArray.toList
  rw [loop_listL s _ 0 [] rfl]
  simp
/-- what the law of runs asks of a text -/
theorem rle_facts {t : ByteArray} (ht : t.size ≤ 4000) : ∃ x, cmp2 t = (x, 0) ∧ x.size ≤ 2 * t.size ∧ exp2 x (t.size : Int) = (t, 0) ∧ ∃ y, exp2 x ((t.size : Int) + 1) = (y, 8) := by
  have hall := cmpL_all (bts t).length (bts t) (bts_all t)
  have hb : bts (strOfNums (cmpE (bts t))) = cmpE (bts t) := bts_str hall
  have hlen : (strOfNums (cmpE (bts t))).size ≤ 2 * t.size := by
    rw [strOfNums_size]
    have := cmpE_len (bts t)
    rw [bts_len] at this
    exact this
  refine ⟨strOfNums (cmpE (bts t)), by unfold cmp2; rw [if_neg (by omega), if_neg (by omega)], hlen, ?_, eS0, ?_⟩
  · unfold exp2
    rw [if_neg (by omega), if_pos (in_yes (by omega) (by omega)), hb, Int.toNat_natCast]
    have h := exp_cmp t.size (bts t).length (bts t) [] (Nat.le_refl _) (by rw [bts_len]; simp)
    have h2 : expE t.size (cmpE (bts t)) [] = (bts t, 0) := by
      unfold cmpE
      rw [h, if_pos (by rw [List.nil_append, bts_len]), List.nil_append]
    rw [h2]
    show (strOfNums (bts t), (0 : Int)) = _
    rw [str_bts]
  · unfold exp2
    have e1 : ((t.size : Int) + 1).toNat = t.size + 1 := by omega
    rw [if_neg (by omega), if_pos (in_yes (by omega) (by omega)), hb, e1]
    have h := exp_cmp (t.size + 1) (bts t).length (bts t) [] (Nat.le_refl _) (by rw [bts_len]; simp)
    have h2 : expE (t.size + 1) (cmpE (bts t)) [] = ([], 8) := by
      unfold cmpE
      rw [h, if_neg (by rw [List.nil_append, bts_len]; omega)]
    rw [h2]
    rfl
theorem rat_facts {t : ByteArray} {k : Nat} (ht : t.size ≤ 4000) (hk : k < t.size) : ∃ n : Nat, rat2 t (k : Int) = ((n : Int), 0) ∧ 1 ≤ n ∧ n ≤ 255 ∧ k + n ≤ t.size ∧ byt t (k + n - 1) = byt t k := by
  obtain ⟨h1, h2, h3⟩ := runT_bd t k hk
  refine ⟨runT t k, by unfold rat2; rw [if_neg (by omega), if_pos (in_yes (by omega) (by omega)), Int.toNat_natCast], h1, h2, h3, ?_⟩
  have hr := runH_rep 255 (byt t k) ((bts t).drop k)
  have hg : ((bts t).drop k)[runT t k - 1]? = some (byt t k) := by
    rw [hr]
    show (List.replicate (runT t k) (byt t k) ++ _)[runT t k - 1]? = _
    rw [List.getElem?_append_left (by rw [List.length_replicate]; omega), List.getElem?_replicate, if_pos (by omega)]
  rw [List.getElem?_drop] at hg
  have e : k + (runT t k - 1) = k + runT t k - 1 := by omega
  rw [e, bts_at t (by omega)] at hg
  exact Option.some.inj hg
end Go.Proofs.YtghcagibdcblnaaGreatDoor
