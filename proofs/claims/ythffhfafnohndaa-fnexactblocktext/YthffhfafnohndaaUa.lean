/- Blocks of a tape as plain numbers; what the specification says of a right one, and its sum. -/
import Derived.Test.YthffhfafnohndaaXo
import Derived.Test.YthffhfafnohndaaIn
import Derived.Test.YthffhfafnohndaaBl
import Derived.Test.YthffhfafnohndaaMf
import Derived.Test.YthffhfafnohndaaBt
import Derived.BigQuiet
import Derived.Laws.BytesArg
import Derived.Deep.DeepCutAuto
import Derived.Deep.RegionWith
namespace Go.Proofs.Ythffhfafnohndaa
open Go.ChangeShapes Go.WideShapes Go.ChangeAt Go.RowKit
set_option linter.unusedVariables false
set_option linter.unusedSimpArgs false

abbrev bkA (f : Int) (s : ByteArray) : Array Value := #[.int .i64 f, .string s]
abbrev bkV (f : Int) (s : ByteArray) : Value := .agg (bkA f s)
def okB (f : Int) (s : ByteArray) : Bool := inB f 0 255 && decide (s.size ≤ 40)
def sumB (f : Int) (s : ByteArray) : Int := bits .xor .i64 f (xorN s s.size)
def sumB2 (f : Int) (s : ByteArray) : Int × Int := if okB f s = true then (sumB f s, 0) else (0, 1)
theorem okB_iff (f : Int) (s : ByteArray) : okB f s = true ↔ (0 ≤ f ∧ f ≤ 255) ∧ s.size ≤ 40 := by
  unfold okB inB
  simp only [Bool.and_eq_true, decide_eq_true_eq]
theorem xorN_nat (s : ByteArray) (k : Nat) : ∃ n : Nat, xorN s k = n ∧ n < 256 := by
  induction k with
  | zero => exact ⟨0, rfl, by omega⟩
  | succ k ih =>
    obtain ⟨n, hn, hl⟩ := ih
    have hb := byt_bd s k
    obtain ⟨x, hx⟩ : ∃ x : Nat, byt s k = x := ⟨(byt s k).toNat, by omega⟩
    refine ⟨Nat.xor n x, ?_, Nat.xor_lt_two_pow (n := 8) (by omega) (by omega)⟩
    show bits .xor .i64 (xorN s k) (byt s k) = _
    rw [hn, hx]
    exact bXor n x (by omega) (by omega)
theorem sumB_nat (f : Nat) (s : ByteArray) (hf : f < 256) : ∃ n : Nat, sumB (f : Int) s = n ∧ n < 256 := by
  obtain ⟨n, hn, hl⟩ := xorN_nat s s.size
  refine ⟨Nat.xor f n, ?_, Nat.xor_lt_two_pow (n := 8) (by omega) (by omega)⟩
  unfold sumB
  rw [hn]
  exact bXor f n (by omega) (by omega)
def bytB (f : Int) (s : ByteArray) : ByteArray := strOfNums [f] ++ s ++ strOfNums [sumB f s]
def txtB (f : Int) (s : ByteArray) : ByteArray := strOfNums [((s.size + 2 : Nat) : Int) % 256, ((s.size + 2 : Nat) : Int) / 256] ++ bytB f s
theorem bytB_size (f : Int) (s : ByteArray) : (bytB f s).size = s.size + 2 := by
  unfold bytB
  rw [ByteArray.size_append, ByteArray.size_append, strOfNums_size, strOfNums_size]
  show 1 + s.size + 1 = _
  omega
theorem txtB_size (f : Int) (s : ByteArray) : (txtB f s).size = s.size + 4 := by
  unfold txtB
  rw [ByteArray.size_append, bytB_size, strOfNums_size]
  show 2 + (s.size + 2) = _
  omega
theorem bkok_spec (f : Int) (s : ByteArray) (w : World) (hs : s.size ≤ maxLen) : Calls Try.prog 7 #[bkV f s] w fun e w' => e = .returned (.bool (okB f s)) ∧ Below w.heap.size w w' := by
  unfold maxLen at hs
  have hB := hid ((Below.refl w.heap.size w).alloc (Nat.le_refl _) (.cells (bkA f s) 26))
  have e : okB f s = (inB f 0 255 && decide (s.size ≤ 40)) := rfl
  rw [e]
  cases hb : inB f 0 255
  · go_enter Try.func7, Try.ntmps7
    go_wp2_with (go_at_call 14; refine (byteM_spec _ _).mono ?_; rintro e w' ⟨rfl, hww⟩; obtain rfl := hww.symm; rw [hb])
    go_ret
    exact ⟨rfl, hB.out⟩
  · go_enter Try.func7, Try.ntmps7
    go_wp2_with (go_at_call 14; refine (byteM_spec _ _).mono ?_; rintro e w' ⟨rfl, hww⟩; obtain rfl := hww.symm; rw [hb])
    go_ret
    exact ⟨ret_bool (by rw [Bool.eq_iff_iff]; simp; try omega), hB.out⟩
theorem bksum_spec (f : Int) (s : ByteArray) (w : World) (hs : s.size ≤ maxLen) : Calls Try.prog 16 #[bkV f s] w fun e w' => e = .returned (.int .i64 (sumB f s)) ∧ Below w.heap.size w w' := by
  have hB := hid ((Below.refl w.heap.size w).alloc (Nat.le_refl _) (.cells (bkA f s) 26))
  have q := Blk.new w (bkA f s) 26
  have x0 : (w.alloc (.cells (bkA f s) 26)).cell? ⟨w.heap.size, 0, none⟩ = some (.int .i64 f) := q.cell 0
  have x1 : (w.alloc (.cells (bkA f s) 26)).cell? ⟨w.heap.size, 1, none⟩ = some (.string s) := q.cell 1
  have hX := hid (fun w1 => xor_spec s w1 hs)
  have e : sumB f s = bits .xor .i64 f (xorN s s.size) := rfl
  rw [e]
  generalize xorN s s.size = X at *
  clear q e
  go_enter Try.func16, Try.ntmps16
  go_upto_region 1 with fail
  obtain ⟨V, hV⟩ : ∃ V, w.alloc (.cells (bkA f s) 26) = V := ⟨_, rfl⟩
  rw [hV] at hB x0 x1 ⊢
  clear hV
  go_quiet ((go_at_call 21; exact Calls.quiet_of_same (hX.out _)))
  go_wp2
  go_ret
  exact ⟨rfl, hB.out.trans ⟨rfl, rfl, rfl, Nat.le_refl _, fun _ _ => rfl⟩⟩
theorem bksumof_spec (f : Int) (s : ByteArray) (w : World) (hs : s.size ≤ maxLen) : Calls Try.prog 10 #[bkV f s] w fun e w' => e = .returned (.tuple #[.int .i64 (sumB2 f s).1, .int .i64 (sumB2 f s).2]) ∧ Below w.heap.size w w' := by
  have hB := hid ((Below.refl w.heap.size w).alloc (Nat.le_refl _) (.cells (bkA f s) 26))
  have q := hid (Blk.new w (bkA f s) 26)
  have hO := hid (fun w1 => bkok_spec f s w1 hs)
  have hS := hid (fun w1 => bksum_spec f s w1 hs)
  cases hc : okB f s
  · have e : sumB2 f s = (0, 1) := by unfold sumB2; rw [hc]; rfl
    rw [e]
    rw [hc] at hO
    clear e
    go_enter Try.func10, Try.ntmps10
    go_wp2_with fail
    refine (hO.out _).mono ?_
    rintro e w1 ⟨rfl, hb⟩
    have hB1 := hid (new_trans hB.out hb)
    clear hb hB q
    go_wp2_with fail
    go_ret2
    exact ⟨rfl, hB1.out⟩
  · have e : sumB2 f s = (sumB f s, 0) := by unfold sumB2; rw [hc]; rfl
    rw [e]
    rw [hc] at hO
    generalize sumB f s = Z at *
    clear e
    go_enter Try.func10, Try.ntmps10
    go_wp2_with fail
    refine (hO.out _).mono ?_
    rintro e w1 ⟨rfl, hb⟩
    have hB1 := hid (new_trans hB.out hb)
    have q1 := q.out.below hb q.out.lt
    have x0 : w1.cell? ⟨w.heap.size, 0, none⟩ = some (.int .i64 f) := q1.cell 0
    have x1 : w1.cell? ⟨w.heap.size, 1, none⟩ = some (.string s) := q1.cell 1
    clear hb hB q q1
    go_wp2_with fail
    refine (hS.out _).mono ?_
    rintro e w2 ⟨rfl, hb⟩
    have hB2 := hid (new_trans hB1.out hb)
    clear hb hB1 x0 x1
    go_wp2_with fail
    go_ret2
    exact ⟨rfl, hB2.out⟩
end Go.Proofs.Ythffhfafnohndaa
