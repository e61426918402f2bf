/- Runs expanded: the specification. -/
import Derived.Test.YtgpmpfikeindfaaGreatDoorV49
import Derived.Lib.ConvBytes
namespace Go.Proofs.YtgpmpfikeindfaaGreatDoor
open Go.ChangeShapes Go.WideShapes Go.ChangeAt Go.RowKit
set_option linter.unusedVariables false
set_option linter.unusedSimpArgs false

theorem drop_head {t : ByteArray} {k : Nat} (h : k < t.size) : ((bts t).drop k).head? = some (byt t k) := by rw [bts_drop t h]; rfl
theorem drop_head_no {t : ByteArray} {k : Nat} (h : ¬ k < t.size) : ((bts t).drop k).head? = none := by rw [List.drop_eq_nil_of_le (by rw [bts_len]; omega)]; rfl
theorem expT_run {t : ByteArray} {n i : Nat} {A : List Int} (h : i + 3 < t.size) (h0 : byt t i = 237) (h1 : byt t (i + 1) = 237) :
    expE n ((bts t).drop i) A = if n < A.length + (byt t (i + 2)).toNat then ([], 8) else expE n ((bts t).drop (i + 4)) (A ++ List.replicate (byt t (i + 2)).toNat (byt t (i + 3))) := by
  rw [bts_drop t (show i < t.size by omega), bts_drop t (show i + 1 < t.size by omega), bts_drop t (show i + 1 + 1 < t.size by omega), bts_drop t (show i + 1 + 1 + 1 < t.size by omega), h0, h1, expE_run]
theorem expT_cut {t : ByteArray} {n i : Nat} {A : List Int} (h : i + 1 < t.size) (h3 : ¬ i + 3 < t.size) (h0 : byt t i = 237) (h1 : byt t (i + 1) = 237) : expE n ((bts t).drop i) A = ([], 9) := by
  rw [bts_drop t (show i < t.size by omega), bts_drop t h, h0, h1]
  exact expE_cut n _ A (by rw [List.length_drop, bts_len]; omega)
theorem expT_one {t : ByteArray} {n i : Nat} {A : List Int} (h : i < t.size) (hn : ¬ (i + 1 < t.size ∧ byt t i = 237 ∧ byt t (i + 1) = 237)) :
    expE n ((bts t).drop i) A = if n < A.length + 1 then ([], 8) else expE n ((bts t).drop (i + 1)) (A ++ [byt t i]) := by
  rw [bts_drop t h]
  refine expE_cons n _ _ A (fun hh => hn ?_)
  by_cases h1 : i + 1 < t.size
  · rw [drop_head h1] at hh
    exact ⟨h1, hh.1, Option.some.inj hh.2⟩
  · rw [drop_head_no h1] at hh
    cases hh.2
theorem expT_end {t : ByteArray} {n : Nat} {A : List Int} : expE n ((bts t).drop t.size) A = if A.length = n then (A, 0) else ([], 8) := by
  rw [List.drop_eq_nil_of_le (by rw [bts_len]; exact Nat.le_refl _)]
  rfl
abbrev exS (r : List Int × Int) : Value := .tuple #[.string (strOfNums r.1), .int .i64 r.2]
theorem exS_no (c : Int) : exS ([], c) = .tuple #[.string ⟨#[]⟩, .int .i64 c] := rfl
end Go.Proofs.YtgpmpfikeindfaaGreatDoor

/- Compress, Expand, RunAt: the specification; the plain facts of the law of runs. -/
namespace Go.Proofs.YtgpmpfikeindfaaGreatDoor
open Go.ChangeShapes Go.WideShapes Go.ChangeAt Go.RowKit
set_option linter.unusedVariables false
set_option linter.unusedSimpArgs false

abbrev eS0 : ByteArray := ⟨#[]⟩
def cmp2 (t : ByteArray) : ByteArray × Int := if 65536 < t.size then (eS0, 2) else if 4096 < t.size then (eS0, 8) else (strOfNums (cmpE (bts t)), 0)
def exp2 (t : ByteArray) (n : Int) : ByteArray × Int := if 65536 < t.size then (eS0, 2) else if inB n 0 4096 = true then (strOfNums (expE n.toNat (bts t) []).1, (expE n.toNat (bts t) []).2) else (eS0, 4)
def rat2 (t : ByteArray) (i : Int) : Int × Int := if 65536 < t.size then (0, 2) else if inB i 0 ((t.size : Int) - 1) = true then ((runT t i.toNat : Nat), 0) else (0, 4)
theorem cmpL_all : ∀ (f : Nat) (L : List Int), (∀ x ∈ L, 0 ≤ x ∧ x ≤ 255) → ∀ x ∈ cmpL f L, 0 ≤ x ∧ x ≤ 255
  | 0, L, _, x, h => by cases h
  | f + 1, [], _, x, h => by cases h
  | f + 1, b :: L, hL, x, h => by
    have hb := hL b (List.mem_cons_self ..)
    have hLL : ∀ y ∈ L, 0 ≤ y ∧ y ≤ 255 := fun y hy => hL y (List.mem_cons_of_mem _ hy)
    have hle := runH_le 255 b (b :: L)
    rw [cmpL_cons] at h
    by_cases hr : 5 ≤ runH 255 b (b :: L) ∨ (b = 237 ∧ 2 ≤ runH 255 b (b :: L))
    · rw [if_pos hr] at h
      rcases List.mem_append.1 h with h | h
      · simp at h
        omega
      · exact cmpL_all f _ (fun y hy => hL y (List.mem_of_mem_drop hy)) x h
    · rw [if_neg hr] at h
      by_cases hb2 : b = 237
      · rw [if_pos hb2] at h
        match L, hLL, h with
        | [], _, h =>
          simp at h
          omega
        | c :: M, hLL, h =>
          rcases List.mem_cons.1 h with rfl | h
          · exact hb
          rcases List.mem_cons.1 h with rfl | h
          · exact hLL _ (List.mem_cons_self ..)
          · exact cmpL_all f M (fun y hy => hLL y (List.mem_cons_of_mem _ hy)) x h
      · rw [if_neg hb2] at h
        rcases List.mem_cons.1 h with rfl | h
        · exact hb
        · exact cmpL_all f L hLL x h
theorem get_dropL (s : ByteArray) (i : Nat) (h : i < s.size) : s.data.toList.drop i = s.get! i :: s.data.toList.drop (i + 1) := by
  have hl : i < s.data.toList.length := by simpa using h
  rw [List.drop_eq_getElem_cons hl]
  congr 1
  have : s.get! i = s.data[i]! := rfl
  rw [this, getElem!_pos s.data i (by simpa using h)]
  simp
theorem loop_listL (s : ByteArray) : ∀ n i r, s.size - i = n → ByteArray.toList.loop s i r = r.reverse ++ s.data.toList.drop i
  | 0, i, r, h => by
    rw [ByteArray.toList.loop, if_neg (by omega), List.drop_eq_nil_of_le (by simp; omega), List.append_nil]
  | n + 1, i, r, h => by
    rw [ByteArray.toList.loop, if_pos (by omega), loop_listL s n (i + 1) _ (by omega), get_dropL s i (by omega)]
    simp
theorem bl_listL (s : ByteArray) : s.toList = s.data.toList := by
  unfold ByteArray.toList
  rw [loop_listL s _ 0 [] rfl]
  simp
/-- what the law of runs asks of a text -/
theorem rle_facts {t : ByteArray} (ht : t.size ≤ 4000) : ∃ x, cmp2 t = (x, 0) ∧ x.size ≤ 2 * t.size ∧ exp2 x (t.size : Int) = (t, 0) ∧ ∃ y, exp2 x ((t.size : Int) + 1) = (y, 8) := by
  have hall := cmpL_all (bts t).length (bts t) (bts_all t)
  have hb : bts (strOfNums (cmpE (bts t))) = cmpE (bts t) := bts_str hall
  have hlen : (strOfNums (cmpE (bts t))).size ≤ 2 * t.size := by
    rw [strOfNums_size]
    have := cmpE_len (bts t)
    rw [bts_len] at this
    exact this
  refine ⟨strOfNums (cmpE (bts t)), by unfold cmp2; rw [if_neg (by omega), if_neg (by omega)], hlen, ?_, eS0, ?_⟩
  · unfold exp2
    rw [if_neg (by omega), if_pos (in_yes (by omega) (by omega)), hb, Int.toNat_natCast]
    have h := exp_cmp t.size (bts t).length (bts t) [] (Nat.le_refl _) (by rw [bts_len]; simp)
    have h2 : expE t.size (cmpE (bts t)) [] = (bts t, 0) := by
      unfold cmpE
      rw [h, if_pos (by rw [List.nil_append, bts_len]), List.nil_append]
    rw [h2]
    show (strOfNums (bts t), (0 : Int)) = _
    rw [str_bts]
  · unfold exp2
    have e1 : ((t.size : Int) + 1).toNat = t.size + 1 := by omega
    rw [if_neg (by omega), if_pos (in_yes (by omega) (by omega)), hb, e1]
    have h := exp_cmp (t.size + 1) (bts t).length (bts t) [] (Nat.le_refl _) (by rw [bts_len]; simp)
    have h2 : expE (t.size + 1) (cmpE (bts t)) [] = ([], 8) := by
      unfold cmpE
      rw [h, if_neg (by rw [List.nil_append, bts_len]; omega)]
    rw [h2]
    rfl
theorem rat_facts {t : ByteArray} {k : Nat} (ht : t.size ≤ 4000) (hk : k < t.size) : ∃ n : Nat, rat2 t (k : Int) = ((n : Int), 0) ∧ 1 ≤ n ∧ n ≤ 255 ∧ k + n ≤ t.size ∧ byt t (k + n - 1) = byt t k := by
  obtain ⟨h1, h2, h3⟩ := runT_bd t k hk
  refine ⟨runT t k, by unfold rat2; rw [if_neg (by omega), if_pos (in_yes (by omega) (by omega)), Int.toNat_natCast], h1, h2, h3, ?_⟩
  have hr := runH_rep 255 (byt t k) ((bts t).drop k)
  have hg : ((bts t).drop k)[runT t k - 1]? = some (byt t k) := by
    rw [hr]
    show (List.replicate (runT t k) (byt t k) ++ _)[runT t k - 1]? = _
    rw [List.getElem?_append_left (by rw [List.length_replicate]; omega), List.getElem?_replicate, if_pos (by omega)]
  rw [List.getElem?_drop] at hg
  have e : k + (runT t k - 1) = k + runT t k - 1 := by omega
  rw [e, bts_at t (by omega)] at hg
  exact Option.some.inj hg
end Go.Proofs.YtgpmpfikeindfaaGreatDoor

/- How many bytes of a row are as its first one: the program; RunAt. -/
namespace Go.Proofs.YtgpmpfikeindfaaGreatDoor
open Go.ChangeShapes Go.WideShapes Go.ChangeAt Go.RowKit
set_option linter.unusedVariables false
set_option linter.unusedSimpArgs false

/-- a block holds the bytes of a text, and perhaps more behind them -/
def CellsT (W : World) (B : Nat) (t : ByteArray) : Prop := ∀ j, j < t.size → W.cell? ⟨B, j, none⟩ = some (.int .u8 (byt t j))
theorem CellsT.same {W W' : World} {B : Nat} {t : ByteArray} (h : CellsT W B t) (e : W'.heap[B]? = W.heap[B]?) : CellsT W' B t := fun j hj => (World.cell?_of_block (a := ⟨B, j, none⟩) e).trans (h j hj)
theorem runM_go {t : ByteArray} {b : Int} {M i n : Nat} (hn : n < M) (h : i + n < t.size) (he : byt t (i + n) = b) : runH (M - n) b ((bts t).drop (i + n)) = runH (M - (n + 1)) b ((bts t).drop (i + (n + 1))) + 1 := by
  rw [bts_drop t h]
  obtain ⟨f, hf⟩ : ∃ f, M - n = f + 1 := ⟨M - n - 1, by omega⟩
  have e : M - (n + 1) = f := by omega
  rw [hf, e]
  show (if byt t (i + n) = b then _ else _) = _
  rw [if_pos he]
  rfl
theorem runM_stop {t : ByteArray} {b : Int} {M i n : Nat} (h : ¬ n < M ∨ (i + n < t.size ∧ byt t (i + n) ≠ b)) : runH (M - n) b ((bts t).drop (i + n)) = 0 := by
  rcases h with h | ⟨h1, h2⟩
  · rw [show M - n = 0 by omega]
    rfl
  · rw [bts_drop t h1]
    cases (M - n) with
    | zero => rfl
    | succ f =>
      show (if byt t (i + n) = b then _ else _) = _
      rw [if_neg h2]
/-- no more than the list has -/
theorem runH_min : ∀ (f : Nat) (b : Int) (L : List Int), runH (min f L.length) b L = runH f b L
  | 0, b, L => by simp
  | f + 1, b, [] => by simp [runH]
  | f + 1, b, x :: L => by
    have e : min (f + 1) (x :: L).length = min f L.length + 1 := by simp
    rw [e]
    show (if x = b then runH (min f L.length) b L + 1 else 0) = (if x = b then runH f b L + 1 else 0)
    rw [runH_min f b L]
theorem byt_extract (t : ByteArray) {i e j : Nat} (h : i + j < e) (he : e ≤ t.size) : byt (t.extract i e) j = byt t (i + j) := by
  unfold byt
  simp only [ByteArray.data_extract, Array.toList_extract, List.extract_eq_take_drop]
  rw [List.getD_eq_getElem?_getD, List.getD_eq_getElem?_getD, List.getElem?_take, if_pos (by omega), List.getElem?_drop]
theorem bts_extract (t : ByteArray) (i e : Nat) : bts (t.extract i e) = ((bts t).drop i).take (e - i) := by
  unfold bts
  simp only [ByteArray.data_extract, Array.toList_extract, List.extract_eq_take_drop, List.map_take, List.map_drop]
/-- the world behind '[]byte(s)' and what it holds -/
theorem convT (s : ByteArray) (w : World) : ∃ cp w2, (convert 9 22 (.string s)).run Tryz.prog w = .ok (.slice (some ⟨w.heap.size, 0, none⟩) s.size cp) w2 ∧ s.size ≤ cp ∧ CellsT w2 w.heap.size s ∧ w2.heap.size = w.heap.size + 1 ∧ Below w.heap.size w w2 := by
  have h := Lib.run_convert_string_bytes (P := Tryz.prog) w 9 22 5 s Tryz.underlying9 Tryz.underlying22 Tryz.underlying5
  refine ⟨_, _, h, ?_, fun i hi => ?_, ?_, ?_⟩
  · exact grownCap_ge _ _ _ _
  · have := Lib.bytesWorld_cell w 5 s i hi
    rw [this]
    rfl
  · rw [Lib.bytesWorld_size]
  · refine ⟨rfl, rfl, rfl, ?_, fun k hk => ?_⟩
    · rw [Lib.bytesWorld_size]; omega
    · rw [Lib.bytesWorld_at_old _ _ _ _ hk]
theorem withinL_impl (n a b : Int) (w : World) : Calls Tryz.prog 33 #[.int .i64 n, .int .i64 a, .int .i64 b] w fun e w' => e = .returned (.bool (inB n a b)) ∧ w' = w := by
  unfold inB
  by_cases h0 : a ≤ n
  · by_cases h1 : n ≤ b
    · rw [decide_eq_true ⟨h0, h1⟩]
      go_enter Tryz.func33, Tryz.ntmps33
      go_wp2
      go_ret
      exact ⟨rfl, rfl⟩
    · rw [decide_eq_false (fun h => h1 h.2)]
      go_enter Tryz.func33, Tryz.ntmps33
      go_wp2
      go_ret
      exact ⟨rfl, rfl⟩
  · rw [decide_eq_false (fun h => h0 h.1)]
    go_enter Tryz.func33, Tryz.ntmps33
    go_wp2
    go_ret
    exact ⟨rfl, rfl⟩
end Go.Proofs.YtgpmpfikeindfaaGreatDoor
