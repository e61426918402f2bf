/- What impl.BytesOf and spec.BytesOf answer: the bytes that pairs of small digits tell, or the codes; they make new blocks at most. -/
import Derived.Test.YtaadobdanhpkkaaBase
import Derived.OwnWalk
import Derived.Deep.QuietTactic
import Derived.BigQuiet
import Derived.Deep.AppendLies
import Derived.KernelRfl
import Derived.WalkSmall
namespace Go.Proofs.Ytaadobdanhpkkaa
open Go.ChangeShapes Go.WideShapes Go.ChangeAt Go.RowKit
set_option linter.unusedVariables false

/-- a digit's value, or -1 -/
def dgv (c : Int) : Int := if 48 ≤ c ∧ c ≤ 57 then c - 48 else if 97 ≤ c ∧ c ≤ 102 then c - 87 else -1
theorem dgv_bd (c : Int) : -1 ≤ dgv c ∧ dgv c ≤ 15 := by
  unfold dgv
  split
  · omega
  · split <;> omega

theorem dg_impl (c : Int) (w : World) (h0 : 0 ≤ c) (h1 : c ≤ 255) : Calls Try.prog 14 #[.int .u8 c] w fun e w' => e = .returned (.int .i64 (dgv c)) ∧ w' = w := by
  by_cases h2 : 48 ≤ c ∧ c ≤ 57
  · have e : dgv c = c - 48 := by unfold dgv; rw [if_pos h2]
    obtain ⟨h3, h4⟩ := h2
    rw [e]
    go_enter Try.func14, Try.ntmps14
    go_wp2
    go_ret
    exact ⟨rfl, rfl⟩
  · by_cases h5 : 97 ≤ c ∧ c ≤ 102
    · have e : dgv c = c - 87 := by unfold dgv; rw [if_neg h2, if_pos h5]
      obtain ⟨h3, h4⟩ := h5
      rw [e]
      go_enter Try.func14, Try.ntmps14
      go_wp2
      go_ret
      exact ⟨ret_int (by omega), rfl⟩
    · have e : dgv c = -1 := by unfold dgv; rw [if_neg h2, if_neg h5]
      rw [e]
      have h6 : c < 48 ∨ (57 < c ∧ c < 97) ∨ 102 < c := by omega
      clear h2 h5
      rcases h6 with h6 | ⟨h6, h7⟩ | h6
      all_goals
        go_enter Try.func14, Try.ntmps14
        go_wp2
        go_ret
        exact ⟨rfl, rfl⟩

def bytN (s : ByteArray) : Nat → List Int
  | 0 => []
  | j + 1 => bytN s j ++ [16 * dgv (byt s (2 * j)) + dgv (byt s (2 * j + 1))]
theorem bytN_length (s : ByteArray) (k : Nat) : (bytN s k).length = k := by
  induction k with
  | zero => rfl
  | succ k ih => simp [bytN, ih]
/-- the first k pairs are digits -/
abbrev okP (s : ByteArray) (k : Nat) : Prop := ∀ j, j < k → 0 ≤ dgv (byt s (2 * j)) ∧ 0 ≤ dgv (byt s (2 * j + 1))
theorem okP_snoc {s : ByteArray} {k : Nat} (h : okP s k) (h1 : 0 ≤ dgv (byt s (2 * k))) (h2 : 0 ≤ dgv (byt s (2 * k + 1))) : okP s (k + 1) := by
  intro j hj
  by_cases e : j = k
  · rw [e]; exact ⟨h1, h2⟩
  · exact h j (by omega)

theorem byt_step {w wr w1 : World} {s : ByteArray} {k : Nat} {u v' : Value} {o : Obj}
    (hown : wr.ownsRow w.heap.size 5 1 u k ((bytN s k).map (Value.int .u8))) (hbel : Below w.heap.size w wr)
    (hown1 : w1.ownsRow w.heap.size 5 1 v' (k + 1) ((bytN s k).map (Value.int .u8) ++ [.int .u8 (16 * dgv (byt s (2 * k)) + dgv (byt s (2 * k + 1)))]))
    (hgrow : (wr.alloc o).grownBy w1 u.ownBlock) :
    w1.ownsRow w.heap.size 5 1 v' (k + 1) ((bytN s (k + 1)).map (Value.int .u8)) ∧ Below w.heap.size w w1 := by
  have hsz := hbel.size
  refine ⟨?_, (hbel.alloc (by omega) _).grown hgrow (by simp; omega) (fun g hg => (hown.lt g hg).1)⟩
  simpa [bytN] using hown1

def bytsV (s : ByteArray) : Value :=
  if s.size % 2 = 0 ∧ okP s (s.size / 2) then .tuple #[.string (strOfNums (bytN s (s.size / 2))), .bool true] else .tuple #[.string ByteArray.empty, .bool false]
theorem bytsV_no {s : ByteArray} (h : ¬ (s.size % 2 = 0 ∧ okP s (s.size / 2))) : Value.tuple #[.string ByteArray.empty, .bool false] = bytsV s := by unfold bytsV; rw [if_neg h]
theorem bytsV_yes {s : ByteArray} (h : s.size % 2 = 0 ∧ okP s (s.size / 2)) : Value.tuple #[.string (strOfNums (bytN s (s.size / 2))), .bool true] = bytsV s := by unfold bytsV; rw [if_pos h]

theorem bytsV_bad {s : ByteArray} {q k : Nat} (hq : s.size = 2 * q) (hk : k < q) (h : dgv (byt s (2 * k)) < 0 ∨ dgv (byt s (2 * k + 1)) < 0) : Value.tuple #[.string ByteArray.empty, .bool false] = bytsV s :=
  bytsV_no (fun hn => by have := hn.2 k (by omega); omega)
theorem bytsV_at {s : ByteArray} {k : Nat} (hq : s.size = 2 * k) (h : okP s k) : Value.tuple #[.string (strOfNums (bytN s k)), .bool true] = bytsV s := by
  have e : s.size / 2 = k := by omega
  rw [← bytsV_yes ⟨by omega, by rw [e]; exact h⟩, e]

def bytesV (s : ByteArray) : Value :=
  if 65536 < s.size then .tuple #[.string ByteArray.empty, .int .i64 2]
  else if s.size % 2 = 0 ∧ okP s (s.size / 2) then .tuple #[.string (strOfNums (bytN s (s.size / 2))), .int .i64 0] else .tuple #[.string ByteArray.empty, .int .i64 3]
theorem bytesV_form (s : ByteArray) : ∃ S C, bytesV s = .tuple #[.string S, .int .i64 C] := by
  unfold bytesV
  repeat' split
  all_goals exact ⟨_, _, rfl⟩
theorem bytesV_no {s : ByteArray} (h0 : ¬ 65536 < s.size) (h : ¬ (s.size % 2 = 0 ∧ okP s (s.size / 2))) : Value.tuple #[.string ByteArray.empty, .int .i64 3] = bytesV s := by unfold bytesV; rw [if_neg h0, if_neg h]
theorem bytesV_bad {s : ByteArray} {q k : Nat} (h0 : ¬ 65536 < s.size) (hq : s.size = 2 * q) (hk : k < q) (h : dgv (byt s (2 * k)) < 0 ∨ dgv (byt s (2 * k + 1)) < 0) : Value.tuple #[.string ByteArray.empty, .int .i64 3] = bytesV s :=
  bytesV_no h0 (fun hn => by have := hn.2 k (by omega); omega)
theorem bytesV_at {s : ByteArray} {k : Nat} (h0 : ¬ 65536 < s.size) (hq : s.size = 2 * k) (h : okP s k) : Value.tuple #[.string (strOfNums (bytN s k)), .int .i64 0] = bytesV s := by
  have e : s.size / 2 = k := by omega
  unfold bytesV
  rw [if_neg h0, if_pos ⟨by omega, by rw [e]; exact h⟩, e]

set_option maxRecDepth 100000 in
theorem bytes_impl (s : ByteArray) (w : World) (hs : s.size ≤ maxLen) :
    Calls Try.prog 7 #[.string s] w fun e w' => e = .returned (bytesV s) ∧ Below w.heap.size w w' := by
  unfold maxLen at hs
  by_cases h0 : 65536 < s.size
  · have e : bytesV s = .tuple #[.string ByteArray.empty, .int .i64 2] := by unfold bytesV; rw [if_pos h0]
    rw [e]
    go_enter Try.func7, Try.ntmps7
    go_wp2
    go_ret2
    exact ⟨rfl, Below.refl _ _⟩
  obtain ⟨i0, hi0, hz0, hz1, hz2⟩ := info_parts infoU8
  by_cases hev : s.size % 2 = 0
  · obtain ⟨q, hq⟩ : ∃ q, s.size = 2 * q := ⟨s.size / 2, by omega⟩
    have hev2 : ((s.size : Int) % 2 != 0) = false := by simp; omega
    have HQ : Hid (s.size = 2 * q) := hq
    clear hq
    go_enter Try.func7, Try.ntmps7
    go_wp2_with (at_make; refine wpList_make_own _ rfl _ _ 22 rfl w.heap.size 5 i0 (.int .u8 0) 1 Try.underlying22 hi0 hz0 hz1 _ _ _ q rfl rfl (by have := HQ.out; omega) (by rw [hz2]; have := HQ.out; omega) (by have := HQ.out; unfold maxLen; omega) (Nat.le_refl _) ?_; intro wm hownm hgrm)
    go_loopw [4, 5] (fun v i wr => ∃ k : Nat, k ≤ q ∧ i = .int .i64 (2 * k) ∧ wr.ownsRow w.heap.size 5 1 v k ((bytN s k).map (Value.int .u8)) ∧ okP s k ∧ Below w.heap.size w wr)
      (fun _ i _ => s.size - (intOf i).toNat)
    case atStart => exact ⟨0, Nat.zero_le _, rfl, hownm, (fun j hj => absurd hj (Nat.not_lt_zero _)), (Below.refl _ _).grown hgrm (Nat.le_refl _) (fun g hg => by cases hg)⟩
    case round =>
      obtain ⟨k, hk, rfl, hown, hok, hbel⟩ := hrel
      have HO : Hid (okP s k) := hok
      clear hok hownm hgrm
      have hq := HQ.out
      by_cases hlt : k < q
      · have hlt1 : 2 * k < s.size := by omega
        have hlt2 : 2 * k + 1 < s.size := by omega
        have hb1 := byt_eq s (2 * k) hlt1
        have hb2 := byt_eq s (2 * k + 1) hlt2
        have hb3 := byt_bd s (2 * k)
        have hb4 := byt_bd s (2 * k + 1)
        have hb5 := dgv_bd (byt s (2 * k))
        have hb6 := dgv_bd (byt s (2 * k + 1))
        have hl := bytN_length s k
        have hsz := hbel.size
        clear hq
        have hx1 := run_idx s (2 * (k : Int)) (2 * k) (by omega) hlt1
        have hx2 := run_idx s (2 * (k : Int) + 1) (2 * k + 1) (by omega) hlt2
        go_wp2_with fail
        go_quiet ((go_at_call 14; exact Calls.quiet_of_same (dg_impl _ _ (by omega) (by omega))))
        replace hown : (wr.drewN nq).ownsRow w.heap.size 5 1 u4 k ((bytN s k).map (Value.int .u8)) := hown
        replace hbel := below_drewN hbel nq
        clear hsz
        generalize wr.drewN nq = wq at hown hbel ⊢
        have hsz := hbel.size
        by_cases hA : 0 ≤ dgv (byt s (2 * k))
        · by_cases hB : 0 ≤ dgv (byt s (2 * k + 1))
          · go_wp2_with (at_builtin; refine wpList_append_lies _ rfl _ _ 22 rfl w.heap.size 5 i0 _ 1 1 Try.underlying22 hi0 hz0 hz1 hz2 rfl (by omega) _ k ((bytN s k).map (Value.int .u8)) rfl (hown.alloc _) ⟨_, 0, none⟩ 1 1 [.int .u8 (16 * dgv (byt s (2 * k)) + dgv (byt s (2 * k + 1)))] rfl rfl (World.news_of_block (cs := #[.int .u8 (16 * dgv (byt s (2 * k)) + dgv (byt s (2 * k + 1)))]) (t := 5) (fr := (0, 0)) (heap_alloc_new _ _)) (by simp [Value.oneCell']) (by omega) (by unfold maxLen; omega) (by omega) (by simp; omega) _ rfl ?_; intro gg cap w1 hown1 hgrow hat hlt3)
            have R := byt_step hown hbel hown1 hgrow
            clear hown1 hgrow hown
            go_wp2
            go_roundw
            case rel => exact ⟨k + 1, by omega, by go_num, R.1, okP_snoc HO.out hA hB, R.2⟩
            case measure => simp [intOf]; omega
          · go_wp2
            go_ret2
            exact ⟨ret_val (bytesV_bad h0 HQ.out hlt (by omega)), hbel⟩
        · go_wp2
          go_ret2
          exact ⟨ret_val (bytesV_bad h0 HQ.out hlt (by omega)), hbel⟩
      · obtain rfl : k = q := by omega
        have hcv := own_string hown
        have h2k : s.size ≤ 2 * k := by omega
        clear hq
        go_wp2
        go_ret2
        exact ⟨ret_val (bytesV_at h0 HQ.out HO.out), hbel⟩
  · have hev2 : ((s.size : Int) % 2 != 0) = true := by simp; omega
    go_enter Try.func7, Try.ntmps7
    go_wp2
    go_ret2
    exact ⟨ret_val (bytesV_no h0 (fun h => hev h.1)), Below.refl _ _⟩
end Go.Proofs.Ytaadobdanhpkkaa
