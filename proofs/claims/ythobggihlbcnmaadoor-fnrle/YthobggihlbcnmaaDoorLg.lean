/- How many bytes of a row are as its first one: the program; RunAt. -/
import Derived.Test.YthobggihlbcnmaaDoorLe
import Derived.Lib.ConvBytes
namespace Go.Proofs.YthobggihlbcnmaaDoor
open Go.ChangeShapes Go.WideShapes Go.ChangeAt Go.RowKit
set_option linter.unusedVariables false
set_option linter.unusedSimpArgs false

/-- a block holds the bytes of a text, and perhaps more behind them -/
def CellsT (W : World) (B : Nat) (t : ByteArray) : Prop := ∀ j, j < t.size → W.cell? ⟨B, j, none⟩ = some (.int .u8 (byt t j))
theorem CellsT.same {W W' : World} {B : Nat} {t : ByteArray} (h : CellsT W B t) (e : W'.heap[B]? = W.heap[B]?) : CellsT W' B t := fun j hj => (World.cell?_of_block (a := ⟨B, j, none⟩) e).trans (h j hj)
theorem runM_go {t : ByteArray} {b : Int} {M i n : Nat} (hn : n < M) (h : i + n < t.size) (he : byt t (i + n) = b) : runH (M - n) b ((bts t).drop (i + n)) = runH (M - (n + 1)) b ((bts t).drop (i + (n + 1))) + 1 := by
  rw [bts_drop t h]
  obtain ⟨f, hf⟩ : ∃ f, M - n = f + 1 := ⟨M - n - 1, by omega⟩
  have e : M - (n + 1) = f := by omega
  rw [hf, e]
  show (if byt t (i + n) = b then _ else _) = _
  rw [if_pos he]
  rfl
theorem runM_stop {t : ByteArray} {b : Int} {M i n : Nat} (h : ¬ n < M ∨ (i + n < t.size ∧ byt t (i + n) ≠ b)) : runH (M - n) b ((bts t).drop (i + n)) = 0 := by
  rcases h with h | ⟨h1, h2⟩
  · rw [show M - n = 0 by omega]
    rfl
  · rw [bts_drop t h1]
    cases (M - n) with
    | zero => rfl
    | succ f =>
      show (if byt t (i + n) = b then _ else _) = _
      rw [if_neg h2]
/-- no more than the list has -/
theorem runH_min : ∀ (f : Nat) (b : Int) (L : List Int), runH (min f L.length) b L = runH f b L
  | 0, b, L => by simp
  | f + 1, b, [] => by simp [runH]
  | f + 1, b, x :: L => by
    have e : min (f + 1) (x :: L).length = min f L.length + 1 := by simp
    rw [e]
    show (if x = b then runH (min f L.length) b L + 1 else 0) = (if x = b then runH f b L + 1 else 0)
    rw [runH_min f b L]
set_option maxRecDepth 100000 in
set_option maxHeartbeats 1000000 in
theorem alike_impl (t : ByteArray) (k m B cap : Nat) (w : World) (hc : CellsT w B t) (hm : 1 ≤ m) (hk : k + m ≤ t.size) (ht : t.size ≤ 1048576) : Calls Tryd.prog 22 #[.slice (some ⟨B, k, none⟩) m cap] w fun e w' => e = .returned (.int .i64 (runH m (byt t k) ((bts t).drop k) : Nat)) ∧ ∃ n, w' = w.drewN n := by
  have hxk := hc k (by omega)
  have hgo := hid (fun n => runM_go (t := t) (b := byt t k) (M := m) (i := k) (n := n))
  have hst := hid (fun n => runM_stop (t := t) (b := byt t k) (M := m) (i := k) (n := n))
  obtain ⟨R, hR⟩ : ∃ R : Nat → Nat, (fun n => runH (m - n) (byt t k) ((bts t).drop (k + n))) = R := ⟨_, rfl⟩
  have hR2 : Hid (∀ n, runH (m - n) (byt t k) ((bts t).drop (k + n)) = R n) := fun n => by rw [← hR]
  have h0 : Hid (runH m (byt t k) ((bts t).drop k) = R 0) := by unfold Hid; rw [← hR2.out 0]; simp
  have h1 : Hid (1 + R 1 = R 0) := by
    have h := hgo.out 0 (by omega) (by omega) rfl
    rw [hR2.out 0, hR2.out (0 + 1), Nat.zero_add] at h
    unfold Hid
    omega
  clear hR
  generalize hX : byt t k = X at hxk
  replace hX := hid hX
  replace hc := hid hc
  go_enter Tryd.func22, Tryd.ntmps22
  go_wp2
  go_loopw [3] (fun nv wr => ∃ n : Nat, 1 ≤ n ∧ n ≤ m ∧ nv = .int .i64 (n : Int) ∧ n + R n = R 0 ∧ ∃ j, wr = w.drewN j) (fun nv _ => m - (intOf nv).toNat)
  case atStart => exact ⟨1, by omega, by omega, rfl, h1.out, 0, rfl⟩
  case round =>
    obtain ⟨n, hn1, hnm, rfl, hB, j, rfl⟩ := hrel
    have hg2 := fun h2 h1 h3 => hgo.out n h2 h1 h3
    have hs2 := fun h => hst.out n h
    rw [hR2.out n, hR2.out (n + 1)] at hg2
    rw [hR2.out n] at hs2
    replace hg2 := hid hg2
    replace hs2 := hid hs2
    clear hgo hst hR2
    by_cases h2 : n < m
    · have hx := hc.out (k + n) (by omega)
      by_cases h3 : byt t (k + n) = byt t k
      · have hE := hid (hg2.out h2 (by omega) h3)
        rw [h3, hX.out] at hx
        have hbb : (X == X) = true := by simp
        clear hg2 hs2 h3
        go_wp2
        go_quiet (fail)
        go_wp2
        go_roundw
        case rel => exact ⟨n + 1, by omega, by omega, by go_num, by have := hE.out; omega, j + nq, by first | rfl | rw [World.drewN_drewN]⟩
        case measure => simp [intOf]; omega
      · have hE := hs2.out (.inr ⟨by omega, h3⟩)
        rw [hX.out] at h3
        generalize byt t (k + n) = Y at *
        have hbb : (Y == X) = false := by rw [beq_eq_false_iff_ne]; exact h3
        have hE2 : Hid (n = R 0) := by unfold Hid; omega
        clear hg2 hs2 h3 hE hB
        go_wp2
        go_quiet (fail)
        go_wp2
        go_ret
        exact ⟨ret_int (by rw [← hX.out, h0.out, ← hE2.out]), j + nq, by first | rfl | rw [World.drewN_drewN]⟩
    · have c2 : decide ((n : Int) < (m : Int)) = false := decide_eq_false (by omega)
      have hE := hs2.out (.inl h2)
      have hE2 : Hid (n = R 0) := by unfold Hid; omega
      clear hg2 hs2 hE hB hxk
      go_wp2
      go_quiet (fail)
      go_wp2
      go_ret
      exact ⟨ret_int (by rw [← hX.out, h0.out, ← hE2.out]), j + nq, by first | rfl | rw [World.drewN_drewN]⟩
/-- the world behind '[]byte(s)' and what it holds -/
theorem convT (s : ByteArray) (w : World) : ∃ cp w2, (convert 9 22 (.string s)).run Tryd.prog w = .ok (.slice (some ⟨w.heap.size, 0, none⟩) s.size cp) w2 ∧ s.size ≤ cp ∧ CellsT w2 w.heap.size s ∧ w2.heap.size = w.heap.size + 1 ∧ Below w.heap.size w w2 := by
  have h := Lib.run_convert_string_bytes (P := Tryd.prog) w 9 22 5 s Tryd.underlying9 Tryd.underlying22 Tryd.underlying5
  refine ⟨_, _, h, ?_, fun i hi => ?_, ?_, ?_⟩
  · exact grownCap_ge _ _ _ _
  · have := Lib.bytesWorld_cell w 5 s i hi
    rw [this]
    rfl
  · rw [Lib.bytesWorld_size]
  · refine ⟨rfl, rfl, rfl, ?_, fun k hk => ?_⟩
    · rw [Lib.bytesWorld_size]; omega
    · rw [Lib.bytesWorld_at_old _ _ _ _ hk]
theorem withinL_impl (n a b : Int) (w : World) : Calls Tryd.prog 18 #[.int .i64 n, .int .i64 a, .int .i64 b] w fun e w' => e = .returned (.bool (inB n a b)) ∧ w' = w := by
  unfold inB
  by_cases h0 : a ≤ n
  · by_cases h1 : n ≤ b
    · rw [decide_eq_true ⟨h0, h1⟩]
      go_enter Tryd.func18, Tryd.ntmps18
      go_wp2
      go_ret
      exact ⟨rfl, rfl⟩
    · rw [decide_eq_false (fun h => h1 h.2)]
      go_enter Tryd.func18, Tryd.ntmps18
      go_wp2
      go_ret
      exact ⟨rfl, rfl⟩
  · rw [decide_eq_false (fun h => h0 h.1)]
    go_enter Tryd.func18, Tryd.ntmps18
    go_wp2
    go_ret
    exact ⟨rfl, rfl⟩
theorem byt_extract (t : ByteArray) {i e j : Nat} (h : i + j < e) (he : e ≤ t.size) : byt (t.extract i e) j = byt t (i + j) := by
  unfold byt
  simp only [ByteArray.data_extract, Array.toList_extract, List.extract_eq_take_drop]
  rw [List.getD_eq_getElem?_getD, List.getD_eq_getElem?_getD, List.getElem?_take, if_pos (by omega), List.getElem?_drop]
theorem bts_extract (t : ByteArray) (i e : Nat) : bts (t.extract i e) = ((bts t).drop i).take (e - i) := by
  unfold bts
  simp only [ByteArray.data_extract, Array.toList_extract, List.extract_eq_take_drop, List.map_take, List.map_drop]
theorem runH_take : ∀ (f : Nat) (b : Int) (L : List Int), runH f b (L.take f) = runH f b L
  | 0, b, L => rfl
  | f + 1, b, [] => rfl
  | f + 1, b, x :: L => by
    show (if x = b then runH f b (L.take f) + 1 else 0) = (if x = b then runH f b L + 1 else 0)
    rw [runH_take f b L]
theorem runT_part {t : ByteArray} {k E : Nat} (hk : k < t.size) (hE : E = min (k + 255) t.size) : runH (t.extract k E).size (byt (t.extract k E) 0) ((bts (t.extract k E)).drop 0) = runT t k := by
  have hs : (t.extract k E).size = E - k := by simp [ByteArray.size_extract]; omega
  have hm : E - k = min 255 ((bts t).drop k).length := by rw [List.length_drop, bts_len]; omega
  rw [byt_extract t (by omega) (by omega), bts_extract, hs, List.drop_zero, runH_take, hm, runH_min]
  rfl
set_option maxRecDepth 100000 in
set_option maxHeartbeats 1000000 in
theorem rat_impl (t : ByteArray) (i : Int) (w : World) (ht : t.size ≤ maxLen) : Calls Tryd.prog 10 #[.string t, .int .i64 i] w fun e w' => e = .returned (.tuple #[.int .i64 (rat2 t i).1, .int .i64 (rat2 t i).2]) ∧ Below w.heap.size w w' := by
  unfold maxLen at ht
  unfold rat2
  by_cases h1 : 65536 < t.size
  · rw [if_pos h1]
    go_enter Tryd.func10, Tryd.ntmps10
    go_wp2
    go_ret2
    exact ⟨rfl, Below.refl _ _⟩
  rw [if_neg h1]
  have hI := hid (withinL_impl i 0 ((t.size : Int) - 1) w)
  cases h2 : inB i 0 ((t.size : Int) - 1)
  · rw [h2] at hI
    go_enter Tryd.func10, Tryd.ntmps10
    go_wp2_with fail
    refine hI.out.mono ?_
    rintro e w1 ⟨rfl, hww⟩
    obtain rfl := hww.symm
    go_wp2
    go_ret2
    exact ⟨rfl, Below.refl _ _⟩
  · rw [if_pos rfl]
    rw [h2] at hI
    have hn := of_decide_eq_true h2
    obtain ⟨k, rfl⟩ : ∃ k : Nat, i = (k : Int) := ⟨i.toNat, by omega⟩
    rw [Int.toNat_natCast]
    obtain ⟨q, hq⟩ : ∃ q : Nat, k + 255 = q := ⟨_, rfl⟩
    have hqI : (k : Int) + 255 = (q : Int) := by omega
    have hqw : IntKind.i64.wrap (q : Int) = (q : Int) := by rw [IntKind.wrap_i64]; omega
    have hkt : k < t.size := by omega
    have hres : Hid (∀ E, min q t.size = E → runH (t.extract k E).size (byt (t.extract k E) 0) ((bts (t.extract k E)).drop 0) = runT t k) := by
      intro E hE
      exact runT_part hkt (by omega)
    clear h2 hn hq
    rcases Nat.lt_or_ge t.size q with hqt | hqt
    · have hE := hres.out t.size (by omega)
      obtain ⟨cp, w2, c1, c2, c3, c4, c5⟩ := convT (t.extract k t.size) w
      have hA := hid (alike_impl (t.extract k t.size) 0 (t.extract k t.size).size w.heap.size cp w2 c3 (by simp [ByteArray.size_extract]; omega) (by omega) (by simp [ByteArray.size_extract]; omega))
      rw [hE] at hA
      have hsz : (t.extract k t.size).size = t.size - k := by simp [ByteArray.size_extract]; try omega
      obtain ⟨M, hM⟩ : ∃ M, t.size - k = M := ⟨_, rfl⟩
      rw [hsz, hM] at hA c1
      replace c5 := hid c5
      clear c2 c3 c4 hE hres hsz hM
      have hq2 : ((t.size : Int) < (q : Int)) := by omega
      have hk1 : (k : Int) ≤ (t.size : Int) := by omega
      go_enter Tryd.func10, Tryd.ntmps10
      go_wp2_with fail
      refine hI.out.mono ?_
      rintro e w1 ⟨rfl, hww⟩
      obtain rfl := hww.symm
      go_wp2_with fail
      refine hA.out.mono ?_
      rintro e w3 ⟨rfl, n, rfl⟩
      go_wp2
      go_ret2
      exact ⟨rfl, c5.out.trans ⟨rfl, rfl, rfl, Nat.le_refl _, fun _ _ => rfl⟩⟩
    · have hE := hres.out q (by omega)
      obtain ⟨cp, w2, c1, c2, c3, c4, c5⟩ := convT (t.extract k q) w
      have hA := hid (alike_impl (t.extract k q) 0 (t.extract k q).size w.heap.size cp w2 c3 (by simp [ByteArray.size_extract]; omega) (by omega) (by simp [ByteArray.size_extract]; omega))
      rw [hE] at hA
      have hsz : (t.extract k q).size = q - k := by simp [ByteArray.size_extract]; try omega
      obtain ⟨M, hM⟩ : ∃ M, q - k = M := ⟨_, rfl⟩
      rw [hsz, hM] at hA c1
      replace c5 := hid c5
      clear c2 c3 c4 hE hres hsz hM
      have hq2 : ¬ ((t.size : Int) < (q : Int)) := by omega
      have hk1 : (k : Int) ≤ (q : Int) := by omega
      go_enter Tryd.func10, Tryd.ntmps10
      go_wp2_with fail
      refine hI.out.mono ?_
      rintro e w1 ⟨rfl, hww⟩
      obtain rfl := hww.symm
      go_wp2_with fail
      refine hA.out.mono ?_
      rintro e w3 ⟨rfl, n, rfl⟩
      go_wp2
      go_ret2
      exact ⟨rfl, c5.out.trans ⟨rfl, rfl, rfl, Nat.le_refl _, fun _ _ => rfl⟩⟩
end Go.Proofs.YthobggihlbcnmaaDoor
