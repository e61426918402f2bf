/- How many bytes of a row are as its first one: the program; RunAt. -/
import Derived.Test.YtghcagibdcblnaaS34
import Derived.Lib.ConvBytes
namespace Go.Proofs.Ytghcagibdcblnaa
open Go.ChangeShapes Go.WideShapes Go.ChangeAt Go.RowKit
set_option linter.unusedVariables false
set_option linter.unusedSimpArgs false

/-- a block holds the bytes of a text, and perhaps more behind them -/
def CellsT (W : World) (B : Nat) (t : ByteArray) : Prop := ∀ j, j < t.size → W.cell? ⟨B, j, none⟩ = some (.int .u8 (byt t j))
theorem CellsT.same {W W' : World} {B : Nat} {t : ByteArray} (h : CellsT W B t) (e : W'.heap[B]? = W.heap[B]?) : CellsT W' B t := fun j hj => (World.cell?_of_block (a := ⟨B, j, none⟩) e).trans (h j hj)
theorem runM_go {t : ByteArray} {b : Int} {M i n : Nat} (hn : n < M) (h : i + n < t.size) (he : byt t (i + n) = b) : runH (M - n) b ((bts t).drop (i + n)) = runH (M - (n + 1)) b ((bts t).drop (i + (n + 1))) + 1 := by
  rw [bts_drop t h]
  obtain ⟨f, hf⟩ : ∃ f, M - n = f + 1 := ⟨M - n - 1, by omega⟩
  have e : M - (n + 1) = f := by omega
  rw [hf, e]
  show (if byt t (i + n) = b then _ else _) = _
  rw [if_pos he]
  rfl
theorem runM_stop {t : ByteArray} {b : Int} {M i n : Nat} (h : ¬ n < M ∨ (i + n < t.size ∧ byt t (i + n) ≠ b)) : runH (M - n) b ((bts t).drop (i + n)) = 0 := by
  rcases h with h | ⟨h1, h2⟩
  · rw [show M - n = 0 by omega]
    rfl
  · rw [bts_drop t h1]
    cases (M - n) with
    | zero => rfl
    | succ f =>
      show (if byt t (i + n) = b then _ else _) = _
      rw [if_neg h2]
/-- no more than the list has -/
theorem runH_min : ∀ (f : Nat) (b : Int) (L : List Int), runH (min f L.length) b L = runH f b L
  | 0, b, L => by simp
  | f + 1, b, [] => by simp [runH]
  | f + 1, b, x :: L => by
    have e : min (f + 1) (x :: L).length = min f L.length + 1 := by simp
    rw [e]
    show (if x = b then runH (min f L.length) b L + 1 else 0) = (if x = b then runH f b L + 1 else 0)
    rw [runH_min f b L]
theorem byt_extract (t : ByteArray) {i e j : Nat} (h : i + j < e) (he : e ≤ t.size) : byt (t.extract i e) j = byt t (i + j) := by
  unfold byt
  simp only [ByteArray.data_extract, Array.toList_extract, List.extract_eq_take_drop]
  rw [List.getD_eq_getElem?_getD, List.getD_eq_getElem?_getD, List.getElem?_take, if_pos (by omega), List.getElem?_drop]
theorem bts_extract (t : ByteArray) (i e : Nat) : bts (t.extract i e) = ((bts t).drop i).take (e - i) := by
  unfold bts
  simp only [ByteArray.data_extract, Array.toList_extract, List.extract_eq_take_drop, List.map_take, List.map_drop]
set_option maxRecDepth 100000 in
set_option maxHeartbeats 1000000 in
theorem alike_impl (t : ByteArray) (k m B cap : Nat) (w : World) (hc : CellsT w B t) (hm : 1 ≤ m) (hk : k + m ≤ t.size) (ht : t.size ≤ 1048576) : Calls Try.prog 68 #[.slice (some ⟨B, k, none⟩) m cap] w fun e w' => e = .returned (.int .i64 (runH m (byt t k) ((bts t).drop k) : Nat)) ∧ ∃ n, w' = w.drewN n := by
  have hxk := hc k (by omega)
  have hgo := hid (fun n => runM_go (t := t) (b := byt t k) (M := m) (i := k) (n := n))
  have hst := hid (fun n => runM_stop (t := t) (b := byt t k) (M := m) (i := k) (n := n))
  obtain ⟨R, hR⟩ : ∃ R : Nat → Nat, (fun n => runH (m - n) (byt t k) ((bts t).drop (k + n))) = R := ⟨_, rfl⟩
  have hR2 : Hid (∀ n, runH (m - n) (byt t k) ((bts t).drop (k + n)) = R n) := fun n => by rw [← hR]
  have h0 : Hid (runH m (byt t k) ((bts t).drop k) = R 0) := by unfold Hid; rw [← hR2.out 0]; simp
  have h1 : Hid (1 + R 1 = R 0) := by
    have h := hgo.out 0 (by omega) (by omega) rfl
    rw [hR2.out 0, hR2.out (0 + 1), Nat.zero_add] at h
    unfold Hid
    omega
  clear hR
  generalize hX : byt t k = X at hxk
  replace hX := hid hX
  replace hc := hid hc
  go_enter Try.func68, Try.ntmps68
  go_wp2
  go_loopw [3] (fun nv wr => ∃ n : Nat, 1 ≤ n ∧ n ≤ m ∧ nv = .int .i64 (n : Int) ∧ n + R n = R 0 ∧ ∃ j, wr = w.drewN j) (fun nv _ => m - (intOf nv).toNat)
  case atStart => exact ⟨1, by omega, by omega, rfl, h1.out, 0, rfl⟩
  case round =>
    obtain ⟨n, hn1, hnm, rfl, hB, j, rfl⟩ := hrel
    have hg2 := fun h2 h1 h3 => hgo.out n h2 h1 h3
    have hs2 := fun h => hst.out n h
    rw [hR2.out n, hR2.out (n + 1)] at hg2
    rw [hR2.out n] at hs2
    replace hg2 := hid hg2
    replace hs2 := hid hs2
    clear hgo hst hR2
    by_cases h2 : n < m
    · have hx := hc.out (k + n) (by omega)
      by_cases h3 : byt t (k + n) = byt t k
      · have hE := hid (hg2.out h2 (by omega) h3)
        rw [h3, hX.out] at hx
        have hbb : (X == X) = true := by simp
        clear hg2 hs2 h3
        go_wp2
        go_quiet (fail)
        go_wp2
        go_roundw
        case rel => exact ⟨n + 1, by omega, by omega, by go_num, by have := hE.out; omega, j + nq, by first | rfl | rw [World.drewN_drewN]⟩
        case measure => simp [intOf]; omega
      · have hE := hs2.out (.inr ⟨by omega, h3⟩)
        rw [hX.out] at h3
        generalize byt t (k + n) = Y at *
        have hbb : (Y == X) = false := by rw [beq_eq_false_iff_ne]; exact h3
        have hE2 : Hid (n = R 0) := by unfold Hid; omega
        clear hg2 hs2 h3 hE hB
        go_wp2
        go_quiet (fail)
        go_wp2
        go_ret
        exact ⟨ret_int (by rw [← hX.out, h0.out, ← hE2.out]), j + nq, by first | rfl | rw [World.drewN_drewN]⟩
    · have c2 : decide ((n : Int) < (m : Int)) = false := decide_eq_false (by omega)
      have hE := hs2.out (.inl h2)
      have hE2 : Hid (n = R 0) := by unfold Hid; omega
      clear hg2 hs2 hE hB hxk
      go_wp2
      go_quiet (fail)
      go_wp2
      go_ret
      exact ⟨ret_int (by rw [← hX.out, h0.out, ← hE2.out]), j + nq, by first | rfl | rw [World.drewN_drewN]⟩
/-- the world behind '[]byte(s)' and what it holds -/
theorem convT (s : ByteArray) (w : World) : ∃ cp w2, (convert 9 70 (.string s)).run Try.prog w = .ok (.slice (some ⟨w.heap.size, 0, none⟩) s.size cp) w2 ∧ s.size ≤ cp ∧ CellsT w2 w.heap.size s ∧ w2.heap.size = w.heap.size + 1 ∧ Below w.heap.size w w2 := by
  have h := Lib.run_convert_string_bytes (P := Try.prog) w 9 70 5 s Try.underlying9 Try.underlying70 Try.underlying5
  refine ⟨_, _, h, ?_, fun i hi => ?_, ?_, ?_⟩
  · exact grownCap_ge _ _ _ _
  · have := Lib.bytesWorld_cell w 5 s i hi
    rw [this]
    rfl
  · rw [Lib.bytesWorld_size]
  · refine ⟨rfl, rfl, rfl, ?_, fun k hk => ?_⟩
    · rw [Lib.bytesWorld_size]; omega
    · rw [Lib.bytesWorld_at_old _ _ _ _ hk]
theorem withinL_impl (n a b : Int) (w : World) : Calls Try.prog 53 #[.int .i64 n, .int .i64 a, .int .i64 b] w fun e w' => e = .returned (.bool (inB n a b)) ∧ w' = w := by
  unfold inB
  by_cases h0 : a ≤ n
  · by_cases h1 : n ≤ b
    · rw [decide_eq_true ⟨h0, h1⟩]
      go_enter Try.func53, Try.ntmps53
      go_wp2
      go_ret
      exact ⟨rfl, rfl⟩
    · rw [decide_eq_false (fun h => h1 h.2)]
      go_enter Try.func53, Try.ntmps53
      go_wp2
      go_ret
      exact ⟨rfl, rfl⟩
  · rw [decide_eq_false (fun h => h0 h.1)]
    go_enter Try.func53, Try.ntmps53
    go_wp2
    go_ret
    exact ⟨rfl, rfl⟩
end Go.Proofs.Ytghcagibdcblnaa
