/- Runs at a place of a text: the specification. -/
import Derived.Test.YtghcagibdcblnaaS00
import Derived.Test.YtghcagibdcblnaaMas
import Derived.Deep.QuietTactic
import Derived.BigQuiet
namespace Go.Proofs.Ytghcagibdcblnaa
open Go.ChangeShapes Go.WideShapes Go.ChangeAt Go.RowKit
set_option linter.unusedVariables false
set_option linter.unusedSimpArgs false

/-- a text's bytes as numbers -/
def bts (t : ByteArray) : List Int := t.data.toList.map fun b => (b.toNat : Int)
theorem bts_len (t : ByteArray) : (bts t).length = t.size := by simp [bts]
theorem bts_at (t : ByteArray) {k : Nat} (h : k < t.size) : (bts t)[k]? = some (byt t k) := by
  have h' : k < t.data.toList.length := by simpa using h
  unfold bts byt
  rw [List.getElem?_map, List.getElem?_eq_getElem h', List.getD_eq_getElem?_getD, List.getElem?_eq_getElem h']
  rfl
theorem bts_drop (t : ByteArray) {k : Nat} (h : k < t.size) : (bts t).drop k = byt t k :: (bts t).drop (k + 1) := by
  have h' : k < (bts t).length := by rw [bts_len]; exact h
  rw [List.drop_eq_getElem_cons h']
  have := bts_at t h
  rw [List.getElem?_eq_getElem h'] at this
  rw [Option.some.inj this]
theorem bts_all (t : ByteArray) : ∀ x ∈ bts t, 0 ≤ x ∧ x ≤ 255 := by
  intro x hx
  obtain ⟨b, _, rfl⟩ := List.mem_map.1 hx
  have := b.toNat_lt
  omega
theorem str_bts (t : ByteArray) : strOfNums (bts t) = t := by
  have e : (strOfNums (bts t)).data = t.data := by
    apply Array.ext'
    rw [strOfNums_data]
    unfold bts
    rw [List.map_map]
    conv => rhs; rw [← List.map_id t.data.toList]
    apply List.map_congr_left
    intro b _
    simp
  cases h : strOfNums (bts t)
  cases t
  rw [h] at e
  exact congrArg ByteArray.mk e
theorem bts_str {xs : List Int} (h : ∀ x ∈ xs, 0 ≤ x ∧ x ≤ 255) : bts (strOfNums xs) = xs := by
  unfold bts
  rw [strOfNums_data, List.map_map]
  conv => rhs; rw [← List.map_id xs]
  apply List.map_congr_left
  intro x hx
  have := h x hx
  simp
  omega
/-- the run at a place -/
def runT (t : ByteArray) (i : Nat) : Nat := runH 255 (byt t i) ((bts t).drop i)
theorem runT_go {t : ByteArray} {i n : Nat} (hn : n < 255) (h : i + n < t.size) (he : byt t (i + n) = byt t i) : runH (255 - n) (byt t i) ((bts t).drop (i + n)) = runH (255 - (n + 1)) (byt t i) ((bts t).drop (i + (n + 1))) + 1 := by
  rw [bts_drop t h]
  obtain ⟨f, hf⟩ : ∃ f, 255 - n = f + 1 := ⟨254 - n, by omega⟩
  have e : 255 - (n + 1) = f := by omega
  rw [hf, e]
  show (if byt t (i + n) = byt t i then _ else _) = _
  rw [if_pos he]
  rfl
theorem runT_stop {t : ByteArray} {i n : Nat} (h : ¬ n < 255 ∨ ¬ i + n < t.size ∨ (i + n < t.size ∧ byt t (i + n) ≠ byt t i)) : runH (255 - n) (byt t i) ((bts t).drop (i + n)) = 0 := by
  rcases h with h | h | ⟨h1, h2⟩
  · rw [show 255 - n = 0 by omega]
    rfl
  · rw [List.drop_eq_nil_of_le (by rw [bts_len]; omega)]
    cases (255 - n) <;> rfl
  · rw [bts_drop t h1]
    cases (255 - n) with
    | zero => rfl
    | succ f =>
      show (if byt t (i + n) = byt t i then _ else _) = _
      rw [if_neg h2]
theorem runT_bd (t : ByteArray) (i : Nat) (h : i < t.size) : 1 ≤ runT t i ∧ runT t i ≤ 255 ∧ i + runT t i ≤ t.size := by
  have h1 := runH_le 255 (byt t i) ((bts t).drop i)
  rw [List.length_drop, bts_len] at h1
  refine ⟨?_, h1.1, by unfold runT; omega⟩
  unfold runT
  rw [bts_drop t h]
  exact runH_pos
set_option maxRecDepth 100000 in
set_option maxHeartbeats 1000000 in
theorem lrunt_spec (t : ByteArray) (i : Nat) (w : World) (ht : t.size ≤ 1048576) (hi : i < t.size) : Calls Try.prog 56 #[.string t, .int .i64 (i : Int)] w fun e w' => e = .returned (.int .i64 (runT t i : Nat)) ∧ ∃ n, w' = w.drewN n := by
  have hxi := run_idx t (i : Int) i rfl hi
  have hgo := hid (fun n => runT_go (t := t) (i := i) (n := n))
  have hst := hid (fun n => runT_stop (t := t) (i := i) (n := n))
  have h0 : Hid (runT t i = runH (255 - 0) (byt t i) ((bts t).drop (i + 0))) := rfl
  obtain ⟨B, hB⟩ : ∃ B : Nat → Nat, (fun n => runH (255 - n) (byt t i) ((bts t).drop (i + n))) = B := ⟨_, rfl⟩
  have hB2 : Hid (∀ n, runH (255 - n) (byt t i) ((bts t).drop (i + n)) = B n) := fun n => by rw [← hB]
  rw [hB2.out 0] at h0
  clear hB
  go_enter Try.func56, Try.ntmps56
  go_wp2
  go_loopw [5] (fun nv wr => ∃ n : Nat, n ≤ 255 ∧ nv = .int .i64 (n : Int) ∧ i + n ≤ t.size ∧ n + B n = B 0 ∧ ∃ m, wr = w.drewN m) (fun nv _ => 255 - (intOf nv).toNat)
  case atStart => exact ⟨0, by omega, rfl, by omega, by omega, 0, rfl⟩
  case round =>
    obtain ⟨n, hn, rfl, hin, hB, m, rfl⟩ := hrel
    have hg2 := fun h2 h1 h3 => hgo.out n h2 h1 h3
    have hs2 := fun h => hst.out n h
    rw [hB2.out n, hB2.out (n + 1)] at hg2
    rw [hB2.out n] at hs2
    replace hg2 := hid hg2
    replace hs2 := hid hs2
    obtain ⟨q, hq⟩ : ∃ q, i + n = q := ⟨_, rfl⟩
    rw [hq] at hin hg2 hs2
    have hqI : (i : Int) + (n : Int) = (q : Int) := by omega
    have hqb : Hid (q = i + n) := hq.symm
    clear hq hgo hst hB2
    have hin2 : i < 1048576 := by omega
    have hqw : IntKind.i64.wrap (q : Int) = (q : Int) := by rw [IntKind.wrap_i64]; omega
    by_cases h1 : q < t.size
    · have hx := run_idx t (q : Int) q rfl h1
      have c1 : (q : Int) < (t.size : Int) := by omega
      by_cases h2 : n < 255
      · have c2 : (n : Int) < 255 := by omega
        by_cases h3 : byt t q = byt t i
        · have hE := hid (hg2.out h2 h1 h3)
          rw [h3] at hx
          have hbb : (byt t i == byt t i) = true := by simp
          generalize byt t i = X at *
          clear hg2 hs2 h3
          go_wp2
          go_quiet (fail)
          go_wp2
          go_roundw
          case rel => exact ⟨n + 1, by omega, by go_num, by have := hqb.out; omega, by have := hE.out; omega, m + nq, by first | rfl | rw [World.drewN_drewN]⟩
          case measure => simp [intOf]; omega
        · have hE := hs2.out (.inr (.inr ⟨h1, h3⟩))
          have hbb : (byt t q == byt t i) = false := by rw [beq_eq_false_iff_ne]; exact h3
          generalize byt t i = X at *
          generalize byt t q = Y at *
          have hE2 : Hid (n = B 0) := by unfold Hid; omega
          clear hg2 hs2 h3 hE hB
          go_wp2
          go_quiet (fail)
          go_wp2
          go_ret
          exact ⟨ret_int (by rw [h0.out, ← hE2.out]), m + nq, by first | rfl | rw [World.drewN_drewN]⟩
      · have c2 : decide ((n : Int) < 255) = false := decide_eq_false (by omega)
        have hE := hs2.out (.inl h2)
        have hE2 : Hid (n = B 0) := by unfold Hid; omega
        clear hg2 hs2 hE hB hx hxi
        go_wp2
        go_quiet (fail)
        go_wp2
        go_ret
        exact ⟨ret_int (by rw [h0.out, ← hE2.out]), m + nq, by first | rfl | rw [World.drewN_drewN]⟩
    · have c1 : ¬ (q : Int) < (t.size : Int) := by omega
      have hE := hs2.out (.inr (.inl h1))
      have hE2 : Hid (n = B 0) := by unfold Hid; omega
      clear hg2 hs2 hE hB hxi
      go_wp2
      go_quiet (fail)
      go_wp2
      go_ret
      exact ⟨ret_int (by rw [h0.out, ← hE2.out]), m + nq, by first | rfl | rw [World.drewN_drewN]⟩
end Go.Proofs.Ytghcagibdcblnaa
