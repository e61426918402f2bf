/- Blocks of a tape as plain numbers; what the specification says of a right one, and its sum. -/
import Derived.Test.YtohnddjijedfkaaK02
import Derived.Test.YtohnddjijedfkaaBlk
import Derived.Test.YtohnddjijedfkaaMfk
import Derived.Test.YtohnddjijedfkaaBtk
import Derived.BigQuiet
import Derived.Laws.BytesArg
import Derived.Deep.DeepCutAuto
import Derived.Deep.RegionWith
namespace Go.Proofs.Ytohnddjijedfkaa
open Go.ChangeShapes Go.WideShapes Go.ChangeAt Go.RowKit
set_option linter.unusedVariables false
set_option linter.unusedSimpArgs false

abbrev eS : ByteArray := ⟨#[]⟩
abbrev bkA (f : Int) (s : ByteArray) : Array Value := #[.int .i64 f, .string s]
abbrev bkV (f : Int) (s : ByteArray) : Value := .agg (bkA f s)
def okB (f : Int) (s : ByteArray) : Bool := inB f 0 255 && decide (s.size ≤ 40)
def sumB (f : Int) (s : ByteArray) : Int := bits .xor .i64 f (xorN s s.size)
def sumB2 (f : Int) (s : ByteArray) : Int × Int := if okB f s = true then (sumB f s, 0) else (0, 1)
theorem okB_iff (f : Int) (s : ByteArray) : okB f s = true ↔ (0 ≤ f ∧ f ≤ 255) ∧ s.size ≤ 40 := by
  unfold okB inB
  simp only [Bool.and_eq_true, decide_eq_true_eq]
theorem xorN_nat (s : ByteArray) (k : Nat) : ∃ n : Nat, xorN s k = n ∧ n < 256 := by
  induction k with
  | zero => exact ⟨0, rfl, by omega⟩
  | succ k ih =>
    obtain ⟨n, hn, hl⟩ := ih
    have hb := byt_bd s k
    obtain ⟨x, hx⟩ : ∃ x : Nat, byt s k = x := ⟨(byt s k).toNat, by omega⟩
    refine ⟨Nat.xor n x, ?_, Nat.xor_lt_two_pow (n := 8) (by omega) (by omega)⟩
    show bits .xor .i64 (xorN s k) (byt s k) = _
    rw [hn, hx]
    exact bXor n x (by omega) (by omega)
theorem sumB_nat (f : Nat) (s : ByteArray) (hf : f < 256) : ∃ n : Nat, sumB (f : Int) s = n ∧ n < 256 := by
  obtain ⟨n, hn, hl⟩ := xorN_nat s s.size
  refine ⟨Nat.xor f n, ?_, Nat.xor_lt_two_pow (n := 8) (by omega) (by omega)⟩
  unfold sumB
  rw [hn]
  exact bXor f n (by omega) (by omega)
def bytB (f : Int) (s : ByteArray) : ByteArray := strOfNums [f] ++ s ++ strOfNums [sumB f s]
def txtB (f : Int) (s : ByteArray) : ByteArray := strOfNums [((s.size + 2 : Nat) : Int) % 256, ((s.size + 2 : Nat) : Int) / 256] ++ bytB f s
theorem bytB_size (f : Int) (s : ByteArray) : (bytB f s).size = s.size + 2 := by
  unfold bytB
  rw [ByteArray.size_append, ByteArray.size_append, strOfNums_size, strOfNums_size]
  show 1 + s.size + 1 = _
  omega
theorem txtB_size (f : Int) (s : ByteArray) : (txtB f s).size = s.size + 4 := by
  unfold txtB
  rw [ByteArray.size_append, bytB_size, strOfNums_size]
  show 2 + (s.size + 2) = _
  omega
theorem bkok_spec (f : Int) (s : ByteArray) (w : World) (hs : s.size ≤ maxLen) : Calls Try.prog 57 #[bkV f s] w fun e w' => e = .returned (.bool (okB f s)) ∧ Below w.heap.size w w' := by
  unfold maxLen at hs
  have hB := hid ((Below.refl w.heap.size w).alloc (Nat.le_refl _) (.cells (bkA f s) 66))
  have e : okB f s = (inB f 0 255 && decide (s.size ≤ 40)) := rfl
  rw [e]
  cases hb : inB f 0 255
  · go_enter Try.func57, Try.ntmps57
    go_wp2_with (go_at_call 59; refine (byteM_spec _ _).mono ?_; rintro e w' ⟨rfl, hww⟩; obtain rfl := hww.symm; rw [hb])
    go_ret
    exact ⟨rfl, hB.out⟩
  · go_enter Try.func57, Try.ntmps57
    go_wp2_with (go_at_call 59; refine (byteM_spec _ _).mono ?_; rintro e w' ⟨rfl, hww⟩; obtain rfl := hww.symm; rw [hb])
    go_ret
    exact ⟨ret_bool (by rw [Bool.eq_iff_iff]; simp; try omega), hB.out⟩
theorem bksum_spec (f : Int) (s : ByteArray) (w : World) (hs : s.size ≤ maxLen) : Calls Try.prog 63 #[bkV f s] w fun e w' => e = .returned (.int .i64 (sumB f s)) ∧ Below w.heap.size w w' := by
  have hB := hid ((Below.refl w.heap.size w).alloc (Nat.le_refl _) (.cells (bkA f s) 66))
  have q := Blk.new w (bkA f s) 66
  have x0 : (w.alloc (.cells (bkA f s) 66)).cell? ⟨w.heap.size, 0, none⟩ = some (.int .i64 f) := q.cell 0
  have x1 : (w.alloc (.cells (bkA f s) 66)).cell? ⟨w.heap.size, 1, none⟩ = some (.string s) := q.cell 1
  have hX := hid (fun w1 => xor_spec s w1 hs)
  have e : sumB f s = bits .xor .i64 f (xorN s s.size) := rfl
  rw [e]
  generalize xorN s s.size = X at *
  clear q e
  go_enter Try.func63, Try.ntmps63
  go_upto_region 1 with fail
  obtain ⟨V, hV⟩ : ∃ V, w.alloc (.cells (bkA f s) 66) = V := ⟨_, rfl⟩
  rw [hV] at hB x0 x1 ⊢
  clear hV
  go_quiet ((go_at_call 64; exact Calls.quiet_of_same (hX.out _)))
  go_wp2
  go_ret
  exact ⟨rfl, hB.out.trans ⟨rfl, rfl, rfl, Nat.le_refl _, fun _ _ => rfl⟩⟩
end Go.Proofs.Ytohnddjijedfkaa
