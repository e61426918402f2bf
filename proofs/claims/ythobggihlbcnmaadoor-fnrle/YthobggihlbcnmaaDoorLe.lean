/- Compress, Expand, RunAt: the specification; the plain facts of the law of runs. -/
import Derived.Test.YthobggihlbcnmaaDoorLd
namespace Go.Proofs.YthobggihlbcnmaaDoor
open Go.ChangeShapes Go.WideShapes Go.ChangeAt Go.RowKit
set_option linter.unusedVariables false
set_option linter.unusedSimpArgs false

abbrev eS0 : ByteArray := ⟨#[]⟩
def cmp2 (t : ByteArray) : ByteArray × Int := if 65536 < t.size then (eS0, 2) else if 4096 < t.size then (eS0, 8) else (strOfNums (cmpE (bts t)), 0)
def exp2 (t : ByteArray) (n : Int) : ByteArray × Int := if 65536 < t.size then (eS0, 2) else if inB n 0 4096 = true then (strOfNums (expE n.toNat (bts t) []).1, (expE n.toNat (bts t) []).2) else (eS0, 4)
def rat2 (t : ByteArray) (i : Int) : Int × Int := if 65536 < t.size then (0, 2) else if inB i 0 ((t.size : Int) - 1) = true then ((runT t i.toNat : Nat), 0) else (0, 4)
set_option maxRecDepth 100000 in
theorem cmp_spec (t : ByteArray) (w : World) (ht : t.size ≤ maxLen) : Calls Tryd.prog 7 #[.string t] w fun e w' => e = .returned (.tuple #[.string (cmp2 t).1, .int .i64 (cmp2 t).2]) ∧ Below w.heap.size w w' := by
  unfold maxLen at ht
  unfold cmp2
  by_cases h1 : 65536 < t.size
  · rw [if_pos h1]
    go_enter Tryd.func7, Tryd.ntmps7
    go_wp2
    go_ret2
    exact ⟨rfl, Below.refl _ _⟩
  rw [if_neg h1]
  by_cases h2 : 4096 < t.size
  · rw [if_pos h2]
    go_enter Tryd.func7, Tryd.ntmps7
    go_wp2
    go_ret2
    exact ⟨rfl, Below.refl _ _⟩
  rw [if_neg h2]
  have hC := hid (lcmp_spec t w (by omega))
  go_enter Tryd.func7, Tryd.ntmps7
  go_wp2_with fail
  refine hC.out.mono ?_
  rintro e w1 ⟨rfl, hb⟩
  replace hb := hid hb
  go_wp2
  go_ret2
  exact ⟨rfl, hb.out⟩
set_option maxRecDepth 100000 in
theorem exp_spec (t : ByteArray) (n : Int) (w : World) (ht : t.size ≤ maxLen) : Calls Tryd.prog 12 #[.string t, .int .i64 n] w fun e w' => e = .returned (.tuple #[.string (exp2 t n).1, .int .i64 (exp2 t n).2]) ∧ Below w.heap.size w w' := by
  unfold maxLen at ht
  unfold exp2
  by_cases h1 : 65536 < t.size
  · rw [if_pos h1]
    go_enter Tryd.func12, Tryd.ntmps12
    go_wp2
    go_ret2
    exact ⟨rfl, Below.refl _ _⟩
  rw [if_neg h1]
  have hI := hid (in_spec n 0 4096 w)
  cases h2 : inB n 0 4096
  · rw [h2] at hI
    go_enter Tryd.func12, Tryd.ntmps12
    go_wp2_with fail
    refine hI.out.mono ?_
    rintro e w1 ⟨rfl, hww⟩
    obtain rfl := hww.symm
    go_wp2
    go_ret2
    exact ⟨rfl, Below.refl _ _⟩
  · rw [if_pos rfl]
    rw [h2] at hI
    have hn := of_decide_eq_true h2
    obtain ⟨N, rfl⟩ : ∃ N : Nat, n = (N : Int) := ⟨n.toNat, by omega⟩
    rw [Int.toNat_natCast]
    have hE := hid (lexp_spec t N w (by omega) (by omega))
    generalize expE N (bts t) [] = R at *
    clear h2
    go_enter Tryd.func12, Tryd.ntmps12
    go_wp2_with fail
    refine hI.out.mono ?_
    rintro e w1 ⟨rfl, hww⟩
    obtain rfl := hww.symm
    go_wp2_with fail
    refine hE.out.mono ?_
    rintro e w2 ⟨rfl, hb⟩
    replace hb := hid hb
    go_wp2
    go_ret2
    exact ⟨rfl, hb.out⟩
set_option maxRecDepth 100000 in
theorem rat_spec (t : ByteArray) (i : Int) (w : World) (ht : t.size ≤ maxLen) : Calls Tryd.prog 11 #[.string t, .int .i64 i] w fun e w' => e = .returned (.tuple #[.int .i64 (rat2 t i).1, .int .i64 (rat2 t i).2]) ∧ Below w.heap.size w w' := by
  unfold maxLen at ht
  unfold rat2
  by_cases h1 : 65536 < t.size
  · rw [if_pos h1]
    go_enter Tryd.func11, Tryd.ntmps11
    go_wp2
    go_ret2
    exact ⟨rfl, Below.refl _ _⟩
  rw [if_neg h1]
  have hI := hid (in_spec i 0 ((t.size : Int) - 1) w)
  cases h2 : inB i 0 ((t.size : Int) - 1)
  · rw [h2] at hI
    go_enter Tryd.func11, Tryd.ntmps11
    go_wp2_with fail
    refine hI.out.mono ?_
    rintro e w1 ⟨rfl, hww⟩
    obtain rfl := hww.symm
    go_wp2
    go_ret2
    exact ⟨rfl, Below.refl _ _⟩
  · rw [if_pos rfl]
    rw [h2] at hI
    have hn := of_decide_eq_true h2
    obtain ⟨k, rfl⟩ : ∃ k : Nat, i = (k : Int) := ⟨i.toNat, by omega⟩
    rw [Int.toNat_natCast]
    have hE := hid (lrunt_spec t k w (by omega) (by omega))
    generalize runT t k = R at *
    clear h2
    go_enter Tryd.func11, Tryd.ntmps11
    go_wp2_with fail
    refine hI.out.mono ?_
    rintro e w1 ⟨rfl, hww⟩
    obtain rfl := hww.symm
    go_wp2_with fail
    refine hE.out.mono ?_
    rintro e w2 ⟨rfl, nn, rfl⟩
    go_wp2
    go_ret2
    exact ⟨rfl, ⟨rfl, rfl, rfl, Nat.le_refl _, fun _ _ => rfl⟩⟩
theorem cmpL_all : ∀ (f : Nat) (L : List Int), (∀ x ∈ L, 0 ≤ x ∧ x ≤ 255) → ∀ x ∈ cmpL f L, 0 ≤ x ∧ x ≤ 255
  | 0, L, _, x, h => by cases h
  | f + 1, [], _, x, h => by cases h
  | f + 1, b :: L, hL, x, h => by
    have hb := hL b (List.mem_cons_self ..)
    have hLL : ∀ y ∈ L, 0 ≤ y ∧ y ≤ 255 := fun y hy => hL y (List.mem_cons_of_mem _ hy)
    have hle := runH_le 255 b (b :: L)
    rw [cmpL_cons] at h
    by_cases hr : 5 ≤ runH 255 b (b :: L) ∨ (b = 237 ∧ 2 ≤ runH 255 b (b :: L))
    · rw [if_pos hr] at h
      rcases List.mem_append.1 h with h | h
      · simp at h
        omega
      · exact cmpL_all f _ (fun y hy => hL y (List.mem_of_mem_drop hy)) x h
    · rw [if_neg hr] at h
      by_cases hb2 : b = 237
      · rw [if_pos hb2] at h
        match L, hLL, h with
        | [], _, h =>
          simp at h
          omega
        | c :: M, hLL, h =>
          rcases List.mem_cons.1 h with rfl | h
          · exact hb
          rcases List.mem_cons.1 h with rfl | h
          · exact hLL _ (List.mem_cons_self ..)
          · exact cmpL_all f M (fun y hy => hLL y (List.mem_cons_of_mem _ hy)) x h
      · rw [if_neg hb2] at h
        rcases List.mem_cons.1 h with rfl | h
        · exact hb
        · exact cmpL_all f L hLL x h
theorem get_dropL (s : ByteArray) (i : Nat) (h : i < s.size) : s.data.toList.drop i = s.get! i :: s.data.toList.drop (i + 1) := by
  have hl : i < s.data.toList.length := by simpa using h
  rw [List.drop_eq_getElem_cons hl]
  congr 1
  have : s.get! i = s.data[i]! := rfl
  rw [this, getElem!_pos s.data i (by simpa using h)]
  simp
theorem loop_listL (s : ByteArray) : ∀ n i r, s.size - i = n → ByteArray.toList.loop s i r = r.reverse ++ s.data.toList.drop i
  | 0, i, r, h => by
    rw [ByteArray.toList.loop, if_neg (by omega), List.drop_eq_nil_of_le (by simp; omega), List.append_nil]
  | n + 1, i, r, h => by
    rw [ByteArray.toList.loop, if_pos (by omega), loop_listL s n (i + 1) _ (by omega), get_dropL s i (by omega)]
    simp
theorem bl_listL (s : ByteArray) : s.toList = s.data.toList := by
  unfold ByteArray.toList
  rw [loop_listL s _ 0 [] rfl]
  simp
/-- what the law of runs asks of a text -/
theorem rle_facts {t : ByteArray} (ht : t.size ≤ 4000) : ∃ x, cmp2 t = (x, 0) ∧ x.size ≤ 2 * t.size ∧ exp2 x (t.size : Int) = (t, 0) ∧ ∃ y, exp2 x ((t.size : Int) + 1) = (y, 8) := by
  have hall := cmpL_all (bts t).length (bts t) (bts_all t)
  have hb : bts (strOfNums (cmpE (bts t))) = cmpE (bts t) := bts_str hall
  have hlen : (strOfNums (cmpE (bts t))).size ≤ 2 * t.size := by
    rw [strOfNums_size]
    have := cmpE_len (bts t)
    rw [bts_len] at this
    exact this
  refine ⟨strOfNums (cmpE (bts t)), by unfold cmp2; rw [if_neg (by omega), if_neg (by omega)], hlen, ?_, eS0, ?_⟩
  · unfold exp2
    rw [if_neg (by omega), if_pos (in_yes (by omega) (by omega)), hb, Int.toNat_natCast]
    have h := exp_cmp t.size (bts t).length (bts t) [] (Nat.le_refl _) (by rw [bts_len]; simp)
    have h2 : expE t.size (cmpE (bts t)) [] = (bts t, 0) := by
      unfold cmpE
      rw [h, if_pos (by rw [List.nil_append, bts_len]), List.nil_append]
    rw [h2]
    show (strOfNums (bts t), (0 : Int)) = _
    rw [str_bts]
  · unfold exp2
    have e1 : ((t.size : Int) + 1).toNat = t.size + 1 := by omega
    rw [if_neg (by omega), if_pos (in_yes (by omega) (by omega)), hb, e1]
    have h := exp_cmp (t.size + 1) (bts t).length (bts t) [] (Nat.le_refl _) (by rw [bts_len]; simp)
    have h2 : expE (t.size + 1) (cmpE (bts t)) [] = ([], 8) := by
      unfold cmpE
      rw [h, if_neg (by rw [List.nil_append, bts_len]; omega)]
    rw [h2]
    rfl
theorem rat_facts {t : ByteArray} {k : Nat} (ht : t.size ≤ 4000) (hk : k < t.size) : ∃ n : Nat, rat2 t (k : Int) = ((n : Int), 0) ∧ 1 ≤ n ∧ n ≤ 255 ∧ k + n ≤ t.size ∧ byt t (k + n - 1) = byt t k := by
  obtain ⟨h1, h2, h3⟩ := runT_bd t k hk
  refine ⟨runT t k, by unfold rat2; rw [if_neg (by omega), if_pos (in_yes (by omega) (by omega)), Int.toNat_natCast], h1, h2, h3, ?_⟩
  have hr := runH_rep 255 (byt t k) ((bts t).drop k)
  have hg : ((bts t).drop k)[runT t k - 1]? = some (byt t k) := by
    rw [hr]
    show (List.replicate (runT t k) (byt t k) ++ _)[runT t k - 1]? = _
    rw [List.getElem?_append_left (by rw [List.length_replicate]; omega), List.getElem?_replicate, if_pos (by omega)]
  rw [List.getElem?_drop] at hg
  have e : k + (runT t k - 1) = k + runT t k - 1 := by omega
  rw [e, bts_at t (by omega)] at hg
  exact Option.some.inj hg
end Go.Proofs.YthobggihlbcnmaaDoor
