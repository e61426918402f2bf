/- What the specification says of a memory that is right, and of what is asked of one. -/
import Derived.Test.YtakdhmlegickmaaDoorV04
import Derived.Test.YtakdhmlegickmaaDoorV02
import Derived.Test.YtakdhmlegickmaaDoorBasev
import Derived.Laws.BitsAllLaws
import Derived.BigQuiet
import Derived.Laws.BytesArg
import Derived.Deep.DeepCutAuto
import Derived.Deep.RegionWith
namespace Go.Proofs.YtakdhmlegickmaaDoor
open Go.ChangeShapes Go.WideShapes Go.ChangeAt Go.RowKit
set_option linter.unusedVariables false

/-- so many bytes -/
def bytesB (zs : List Int) (n : Nat) : Bool := zs.all (fun z => inB z 0 255) && decide (zs.length = n)
/-- a memory that is right -/
def okM (M : Mem) : Bool := bytesB M.rom 64 && decide (M.ram.length = 4) && inB M.page 0 3 && (decide (M.screen = 1) || decide (M.screen = 3)) && M.ram.all (fun r => bytesB r 64)
theorem bytes_no {zs : List Int} {k n : Nat} (hk : k < zs.length) (h : inB (zs.getD k 0) 0 255 = false) : bytesB zs n = false := by
  unfold bytesB
  rw [Bool.and_eq_false_iff]
  left
  rw [List.all_eq_false]
  refine ⟨zs[k], List.getElem_mem hk, ?_⟩
  rw [List.getD_eq_getElem?_getD, List.getElem?_eq_getElem hk] at h
  simpa using h
theorem bytes_all {zs : List Int} {n : Nat} (h : ∀ i, i < zs.length → inB (zs.getD i 0) 0 255 = true) : bytesB zs n = decide (zs.length = n) := by
  unfold bytesB
  have : zs.all (fun z => inB z 0 255) = true := by
    rw [List.all_eq_true]
    intro z hz
    obtain ⟨i, hi, rfl⟩ := List.mem_iff_getElem.1 hz
    have := h i hi
    simpa [List.getD_eq_getElem?_getD, List.getElem?_eq_getElem hi] using this
  rw [this, Bool.true_and]
theorem bytes_len {zs : List Int} {n : Nat} (h : bytesB zs n = true) : zs.length = n := by
  unfold bytesB at h
  simp at h
  exact h.2
theorem bytes_at {zs : List Int} {n i : Nat} (h : bytesB zs n = true) (hi : i < zs.length) : inB (zs.getD i 0) 0 255 = true := by
  cases e : inB (zs.getD i 0) 0 255
  · rw [bytes_no hi e] at h
    cases h
  · rfl
theorem bytes_bd {zs : List Int} {n i : Nat} (h : bytesB zs n = true) (hi : i < zs.length) : 0 ≤ zs.getD i 0 ∧ zs.getD i 0 ≤ 255 := by
  have := bytes_at h hi
  simpa [inB] using this
theorem ok_parts {M : Mem} (h : okM M = true) : bytesB M.rom 64 = true ∧ M.ram.length = 4 ∧ (0 ≤ M.page ∧ M.page ≤ 3) ∧ (M.screen = 1 ∨ M.screen = 3) ∧ ∀ i, i < M.ram.length → bytesB (M.ram.getD i []) 64 = true := by
  unfold okM at h
  simp only [Bool.and_eq_true, Bool.or_eq_true, decide_eq_true_eq] at h
  obtain ⟨⟨⟨⟨h1, h2⟩, h3⟩, h4⟩, h5⟩ := h
  refine ⟨h1, h2, by simpa [inB] using h3, h4, fun i hi => ?_⟩
  rw [List.all_eq_true] at h5
  have := h5 _ (List.getElem_mem hi)
  simpa [List.getD_eq_getElem?_getD, List.getElem?_eq_getElem hi] using this
theorem ram_no {M : Mem} {k : Nat} (hk : k < M.ram.length) (h : bytesB (M.ram.getD k []) 64 = false) : okM M = false := by
  cases e : okM M
  · rfl
  · have := (ok_parts e).2.2.2.2 k hk
    rw [h] at this
    cases this
theorem ok_all {M : Mem} (h1 : bytesB M.rom 64 = true) (h2 : M.ram.length = 4) (h3 : inB M.page 0 3 = true) (h4 : M.screen = 1 ∨ M.screen = 3) (h5 : ∀ i, i < 4 → bytesB (M.ram.getD i []) 64 = true) : okM M = true := by
  unfold okM
  simp only [Bool.and_eq_true, Bool.or_eq_true, decide_eq_true_eq]
  refine ⟨⟨⟨⟨h1, h2⟩, h3⟩, h4⟩, ?_⟩
  rw [List.all_eq_true]
  intro z hz
  obtain ⟨i, hi, rfl⟩ := List.mem_iff_getElem.1 hz
  have := h5 i (by omega)
  simpa [List.getD_eq_getElem?_getD, List.getElem?_eq_getElem hi] using this
theorem okM_false {M : Mem} (h : bytesB M.rom 64 = false ∨ ¬ M.ram.length = 4 ∨ inB M.page 0 3 = false ∨ ¬ (M.screen = 1 ∨ M.screen = 3)) : okM M = false := by
  cases e : okM M
  · rfl
  · obtain ⟨h1, h2, h3, h4, _⟩ := ok_parts e
    rcases h with h | h | h | h
    · rw [h1] at h; cases h
    · exact absurd h2 h
    · rw [in_yes h3.1 h3.2] at h; cases h
    · exact absurd h4 h
theorem MemR.form {w : World} {v : Value} {M : Mem} (h : MemR w v M) : ∃ a1 p1 a2 p2, v = memV (.slice a1 M.rom.length p1) (.slice a2 M.ram.length p2) M.page M.screen M.locked ∧ RowR w (.slice a1 M.rom.length p1) M.rom ∧ RowsR w (.slice a2 M.ram.length p2) M.ram := by
  obtain ⟨vr, vm, rfl, h1, h2⟩ := h
  obtain ⟨a1, p1, rfl, _⟩ := id h1
  obtain ⟨a2, p2, rfl, _⟩ := id h2
  exact ⟨a1, p1, a2, p2, rfl, h1, h2⟩

theorem byteM_spec (v : Int) (w : World) : Calls Tryd.prog 72 #[.int .i64 v] w fun e w' => e = .returned (.bool (inB v 0 255)) ∧ w' = w := by
  go_enter Tryd.func72, Tryd.ntmps72
  go_wp2_with (go_at_call 91; refine (in_spec _ _ _ _).mono ?_; rintro e w' ⟨rfl, rfl⟩)
  go_ret
  exact ⟨rfl, rfl⟩
end Go.Proofs.YtakdhmlegickmaaDoor

/- Bits of small numbers at int: and, or, exclusive or of numbers below 65536 are those of natural numbers; a loop over all numbers below a bound, for the kernel. -/
namespace Go.Proofs.YtakdhmlegickmaaDoor
open Go.ChangeShapes Go.WideShapes Go.ChangeAt Go.RowKit
set_option linter.unusedVariables false

theorem bOf (a : Nat) (ha : a < 65536) : ((a : Int) % ((2 ^ 64 : Nat) : Int)).toNat = a := by omega
theorem bAnd (a b : Nat) (ha : a < 65536) (hb : b < 65536) : bits .and .i64 (a : Int) (b : Int) = ((Nat.land a b : Nat) : Int) := by
  have hx : Nat.land a b < 2 ^ 16 := Nat.and_lt_two_pow _ (by omega)
  show IntKind.i64.wrap ((BitVec.ofInt 64 (a : Int) &&& BitVec.ofInt 64 (b : Int)).toNat : Int) = _
  rw [BitVec.toNat_and, BitVec.toNat_ofInt, BitVec.toNat_ofInt, IntKind.wrap_i64, bOf a ha, bOf b hb]
  show (((Nat.land a b : Nat) : Int) + _) % _ - _ = _
  omega
theorem bOr (a b : Nat) (ha : a < 65536) (hb : b < 65536) : bits .or .i64 (a : Int) (b : Int) = ((Nat.lor a b : Nat) : Int) := by
  have hx : Nat.lor a b < 2 ^ 16 := Nat.or_lt_two_pow (by omega) (by omega)
  show IntKind.i64.wrap ((BitVec.ofInt 64 (a : Int) ||| BitVec.ofInt 64 (b : Int)).toNat : Int) = _
  rw [BitVec.toNat_or, BitVec.toNat_ofInt, BitVec.toNat_ofInt, IntKind.wrap_i64, bOf a ha, bOf b hb]
  show (((Nat.lor a b : Nat) : Int) + _) % _ - _ = _
  omega
theorem bXor (a b : Nat) (ha : a < 65536) (hb : b < 65536) : bits .xor .i64 (a : Int) (b : Int) = ((Nat.xor a b : Nat) : Int) := by
  have hx : Nat.xor a b < 2 ^ 16 := Nat.xor_lt_two_pow (by omega) (by omega)
  show IntKind.i64.wrap ((BitVec.ofInt 64 (a : Int) ^^^ BitVec.ofInt 64 (b : Int)).toNat : Int) = _
  rw [BitVec.toNat_xor, BitVec.toNat_ofInt, BitVec.toNat_ofInt, IntKind.wrap_i64, bOf a ha, bOf b hb]
  show (((Nat.xor a b : Nat) : Int) + _) % _ - _ = _
  omega

/-- a test over all numbers below n, in the kernel's own steps -/
def allB (n : Nat) (p : Nat → Bool) : Bool := Nat.rec true (fun k r => and (p k) r) n
theorem allB_at {n : Nat} {p : Nat → Bool} (h : allB n p = true) (k : Nat) (hk : k < n) : p k = true := by
  induction n with
  | zero => omega
  | succ n ih =>
    have h' : (and (p n) (allB n p)) = true := h
    rw [Bool.and_eq_true] at h'
    by_cases e : k = n
    · rw [e]; exact h'.1
    · exact ih h'.2 (by omega)
/-- 1 of true -/
def btN (b : Bool) : Nat := cond b 1 0
end Go.Proofs.YtakdhmlegickmaaDoor

/- Blocks of a tape as plain numbers; what the specification says of a right one, and its sum. -/
namespace Go.Proofs.YtakdhmlegickmaaDoor
open Go.ChangeShapes Go.WideShapes Go.ChangeAt Go.RowKit
set_option linter.unusedVariables false
set_option linter.unusedSimpArgs false

abbrev eS : ByteArray := ⟨#[]⟩
abbrev bkA (f : Int) (s : ByteArray) : Array Value := #[.int .i64 f, .string s]
abbrev bkV (f : Int) (s : ByteArray) : Value := .agg (bkA f s)
def okB (f : Int) (s : ByteArray) : Bool := inB f 0 255 && decide (s.size ≤ 40)
def sumB (f : Int) (s : ByteArray) : Int := bits .xor .i64 f (xorN s s.size)
def sumB2 (f : Int) (s : ByteArray) : Int × Int := if okB f s = true then (sumB f s, 0) else (0, 1)
theorem okB_iff (f : Int) (s : ByteArray) : okB f s = true ↔ (0 ≤ f ∧ f ≤ 255) ∧ s.size ≤ 40 := by
  unfold okB inB
  simp only [Bool.and_eq_true, decide_eq_true_eq]
theorem xorN_nat (s : ByteArray) (k : Nat) : ∃ n : Nat, xorN s k = n ∧ n < 256 := by
  induction k with
  | zero => exact ⟨0, rfl, by omega⟩
  | succ k ih =>
    obtain ⟨n, hn, hl⟩ := ih
    have hb := byt_bd s k
    obtain ⟨x, hx⟩ : ∃ x : Nat, byt s k = x := ⟨(byt s k).toNat, by omega⟩
    refine ⟨Nat.xor n x, ?_, Nat.xor_lt_two_pow (n := 8) (by omega) (by omega)⟩
    show bits .xor .i64 (xorN s k) (byt s k) = _
    rw [hn, hx]
    exact bXor n x (by omega) (by omega)
theorem sumB_nat (f : Nat) (s : ByteArray) (hf : f < 256) : ∃ n : Nat, sumB (f : Int) s = n ∧ n < 256 := by
  obtain ⟨n, hn, hl⟩ := xorN_nat s s.size
  refine ⟨Nat.xor f n, ?_, Nat.xor_lt_two_pow (n := 8) (by omega) (by omega)⟩
  unfold sumB
  rw [hn]
  exact bXor f n (by omega) (by omega)
def bytB (f : Int) (s : ByteArray) : ByteArray := strOfNums [f] ++ s ++ strOfNums [sumB f s]
def txtB (f : Int) (s : ByteArray) : ByteArray := strOfNums [((s.size + 2 : Nat) : Int) % 256, ((s.size + 2 : Nat) : Int) / 256] ++ bytB f s
theorem bytB_size (f : Int) (s : ByteArray) : (bytB f s).size = s.size + 2 := by
  unfold bytB
  rw [ByteArray.size_append, ByteArray.size_append, strOfNums_size, strOfNums_size]
  show 1 + s.size + 1 = _
  omega
theorem txtB_size (f : Int) (s : ByteArray) : (txtB f s).size = s.size + 4 := by
  unfold txtB
  rw [ByteArray.size_append, bytB_size, strOfNums_size]
  show 2 + (s.size + 2) = _
  omega
theorem bkok_spec (f : Int) (s : ByteArray) (w : World) (hs : s.size ≤ maxLen) : Calls Tryd.prog 48 #[bkV f s] w fun e w' => e = .returned (.bool (okB f s)) ∧ Below w.heap.size w w' := by
  unfold maxLen at hs
  have hB := hid ((Below.refl w.heap.size w).alloc (Nat.le_refl _) (.cells (bkA f s) 33))
  have e : okB f s = (inB f 0 255 && decide (s.size ≤ 40)) := rfl
  rw [e]
  cases hb : inB f 0 255
  · go_enter Tryd.func48, Tryd.ntmps48
    go_wp2_with (go_at_call 72; refine (byteM_spec _ _).mono ?_; rintro e w' ⟨rfl, hww⟩; obtain rfl := hww.symm; rw [hb])
    go_ret
    exact ⟨rfl, hB.out⟩
  · go_enter Tryd.func48, Tryd.ntmps48
    go_wp2_with (go_at_call 72; refine (byteM_spec _ _).mono ?_; rintro e w' ⟨rfl, hww⟩; obtain rfl := hww.symm; rw [hb])
    go_ret
    exact ⟨ret_bool (by rw [Bool.eq_iff_iff]; simp; try omega), hB.out⟩
theorem bksum_spec (f : Int) (s : ByteArray) (w : World) (hs : s.size ≤ maxLen) : Calls Tryd.prog 81 #[bkV f s] w fun e w' => e = .returned (.int .i64 (sumB f s)) ∧ Below w.heap.size w w' := by
  have hB := hid ((Below.refl w.heap.size w).alloc (Nat.le_refl _) (.cells (bkA f s) 33))
  have q := Blk.new w (bkA f s) 33
  have x0 : (w.alloc (.cells (bkA f s) 33)).cell? ⟨w.heap.size, 0, none⟩ = some (.int .i64 f) := q.cell 0
  have x1 : (w.alloc (.cells (bkA f s) 33)).cell? ⟨w.heap.size, 1, none⟩ = some (.string s) := q.cell 1
  have hX := hid (fun w1 => xor_spec s w1 hs)
  have e : sumB f s = bits .xor .i64 f (xorN s s.size) := rfl
  rw [e]
  generalize xorN s s.size = X at *
  clear q e
  go_enter Tryd.func81, Tryd.ntmps81
  go_upto_region 1 with fail
  obtain ⟨V, hV⟩ : ∃ V, w.alloc (.cells (bkA f s) 33) = V := ⟨_, rfl⟩
  rw [hV] at hB x0 x1 ⊢
  clear hV
  go_quiet ((go_at_call 92; exact Calls.quiet_of_same (hX.out _)))
  go_wp2
  go_ret
  exact ⟨rfl, hB.out.trans ⟨rfl, rfl, rfl, Nat.le_refl _, fun _ _ => rfl⟩⟩
end Go.Proofs.YtakdhmlegickmaaDoor
