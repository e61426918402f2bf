/- Three things in blocks of their own, the third being written. -/
import Derived.Test.YtghcagibdcblnaaDoorR02
import Derived.Test.YtghcagibdcblnaaDoorR05
import Derived.Test.YtghcagibdcblnaaDoorR00
import Derived.Laws.BitsAllLaws
import Derived.Deep.Matrix
import Derived.Lib.SmallJoins
namespace Go.Proofs.YtghcagibdcblnaaDoor
open Go.ChangeShapes Go.WideShapes Go.ChangeAt Go.RowKit
set_option linter.unusedVariables false
set_option linter.unusedSimpArgs false

theorem two_in {w : World} (A B : Array Value) (t t1 : TypeId) : Blk ((w.alloc (.cells A t)).alloc (.cells B t1)) w.heap.size A ∧ Blk ((w.alloc (.cells A t)).alloc (.cells B t1)) (w.heap.size + 1) B ∧ Below w.heap.size w ((w.alloc (.cells A t)).alloc (.cells B t1)) := by
  have q1 := Blk.new (w.alloc (.cells A t)) B t1
  simp only [World.size_alloc] at q1
  exact ⟨(Blk.new w A t).alloc _, q1, ((Below.refl _ _).alloc (Nat.le_refl _) _).alloc (by simp) _⟩
abbrev zeC : Array Value := #[.int .i64 0, .int .i64 0, .int .i64 0, .int .i64 0, .int .i64 0, .int .i64 0, .int .i64 0, .int .i64 0, .int .i64 0, .int .i64 0, .int .i64 0, .bool false, .bool false, .bool false]
/-- three blocks -/
structure Tri (w W : World) (A B C : Array Value) : Prop where
  q0 : Blk W w.heap.size A
  q1 : Blk W (w.heap.size + 1) B
  q2 : Blk W (w.heap.size + 1 + 1) C
  bel : Below w.heap.size w W
theorem Tri.below {w W W' : World} {A B C : Array Value} (h : Tri w W A B C) (hb : Below W.heap.size W W') : Tri w W' A B C :=
  ⟨h.q0.below hb h.q0.lt, h.q1.below hb h.q1.lt, h.q2.below hb h.q2.lt, h.bel.trans (hb.mono h.bel.size)⟩
theorem Tri.drew {w W : World} {A B C : Array Value} (h : Tri w W A B C) : Tri w W.drew A B C := h.below ⟨rfl, rfl, rfl, Nat.le_refl _, fun _ _ => rfl⟩
theorem Tri.start (w : World) (A B C : Array Value) (t t1 t2 : TypeId) : Tri w (((w.alloc (.cells A t)).alloc (.cells B t1)).alloc (.cells C t2)) A B C := by
  obtain ⟨q0, q1, hB⟩ := two_in (w := w) A B t t1
  have q2 := Blk.new ((w.alloc (.cells A t)).alloc (.cells B t1)) C t2
  simp only [World.size_alloc] at q2
  exact ⟨q0.alloc _, q1.alloc _, q2, hB.alloc hB.size _⟩
theorem Tri.put {w W : World} {A B C : Array Value} (h : Tri w W A B C) (i : Nat) (u : Value) : Tri w (W.setCell ⟨w.heap.size + 1 + 1, i, none⟩ u) A B (C.setIfInBounds i u) :=
  ⟨h.q0.other (by simp only []; omega) u, h.q1.other (by simp) u, h.q2.set i u, h.bel.setCell (p := ⟨w.heap.size + 1 + 1, i, none⟩) (by simp only []; omega) u⟩
end Go.Proofs.YtghcagibdcblnaaDoor

/- What the laws do with a processor: copied, held against another. -/
namespace Go.Proofs.YtghcagibdcblnaaDoor
open Go.ChangeShapes Go.WideShapes Go.ChangeAt Go.RowKit
set_option linter.unusedVariables false
set_option linter.unusedSimpArgs false

abbrev rgA (c : Cu) : Array Value := #[.int .i64 c.r0, .int .i64 c.r1, .int .i64 c.r2, .int .i64 c.r3, .int .i64 c.r4, .int .i64 c.r5, .int .i64 c.r6, .int .i64 c.r7]
abbrev rgV (c : Cu) : Value := .agg (rgA c)
theorem eight {k : Nat} (h : k < 8) : k = 0 ∨ k = 1 ∨ k = 2 ∨ k = 3 ∨ k = 4 ∨ k = 5 ∨ k = 6 ∨ k = 7 := by omega
def rgZ (c : Cu) (k i : Nat) : Value := .int .i64 (if i < k then c.reg i else 0)
def pt8 (c : Cu) (k : Nat) : Array Value := #[rgZ c k 0, rgZ c k 1, rgZ c k 2, rgZ c k 3, rgZ c k 4, rgZ c k 5, rgZ c k 6, rgZ c k 7]
abbrev z8 : Array Value := #[.int .i64 0, .int .i64 0, .int .i64 0, .int .i64 0, .int .i64 0, .int .i64 0, .int .i64 0, .int .i64 0]
theorem pt8_zero (c : Cu) : pt8 c 0 = z8 := rfl
theorem pt8_all (c : Cu) : pt8 c 8 = rgA c := rfl
theorem pt8_succ (c : Cu) (k : Nat) (hk : k < 8) : (pt8 c k).setIfInBounds k (.int .i64 (c.reg k)) = pt8 c (k + 1) := by
  rcases eight hk with rfl | rfl | rfl | rfl | rfl | rfl | rfl | rfl <;> rfl
theorem pt8_at (c : Cu) (k : Nat) (hk : k < 8) : (pt8 c k)[k]? = some (.int .i64 0) := by
  rcases eight hk with rfl | rfl | rfl | rfl | rfl | rfl | rfl | rfl <;> rfl
theorem rgA_at (c : Cu) (k : Nat) (hk : k < 8) : (rgA c)[k]? = some (.int .i64 (c.reg k)) := by
  rcases eight hk with rfl | rfl | rfl | rfl | rfl | rfl | rfl | rfl <;> rfl
set_option maxRecDepth 100000 in
theorem eqa_yes (c : Cu) (w : World) : Calls Tryd.prog 29 #[rgV c, rgV c] w fun e w' => e = .returned (.bool true) ∧ Below w.heap.size w w' := by
  have hs := hid (two_in (w := w) (rgA c) (rgA c) 22 22)
  go_enter Tryd.func29, Tryd.ntmps29
  go_wp2
  go_loopw [5] (fun i wr => ∃ k : Nat, k ≤ 8 ∧ i = .int .i64 k ∧ Blk wr w.heap.size (rgA c) ∧ Blk wr (w.heap.size + 1) (rgA c) ∧ Below w.heap.size w wr) (fun i _ => 8 - (intOf i).toNat)
  case atStart => exact ⟨0, by omega, rfl, hs.out⟩
  case round =>
    obtain ⟨k, hk, rfl, q0, q1, hB⟩ := hrel
    clear hs
    by_cases hlt : k < 8
    · have x0 := q0.cell k
      rw [rgA_at c k hlt] at x0
      have x1 := q1.cell k
      rw [rgA_at c k hlt] at x1
      have hn : Hid (Blk wr.drew w.heap.size (rgA c) ∧ Blk wr.drew (w.heap.size + 1) (rgA c) ∧ Below w.heap.size w wr.drew) := ⟨q0, q1, hB.drew⟩
      clear q0 q1 hB
      generalize c.reg k = y at *
      go_wp2
      go_region
      go_wp2
      go_roundw
      case rel => exact ⟨k + 1, by omega, by go_num, hn.out⟩
      case measure => simp [intOf]; omega
    · obtain rfl : k = 8 := by omega
      replace hB := hid hB
      clear q0 q1
      go_wp2
      go_ret
      exact ⟨rfl, hB.out⟩
set_option maxRecDepth 100000 in
set_option maxHeartbeats 1000000 in
theorem eqc_yes (c : Cu) (w : World) : Calls Tryd.prog 11 #[cuV c, cuV c] w fun e w' => e = .returned (.bool true) ∧ Below w.heap.size w w' := by
  have hs := hid (two_in (w := w) (cuA c) (cuA c) 24 24)
  have x0 := hs.out.1.cell
  have x1 := hs.out.2.1.cell
  go_enter Tryd.func11, Tryd.ntmps11
  go_upto_region 1 with fail
  obtain ⟨V, hV⟩ : ∃ V, ((w.alloc (.cells (cuA c) 24)).alloc (.cells (cuA c) 24)) = V := ⟨_, rfl⟩
  rw [hV] at hs x0 x1 ⊢
  clear hV
  go_wp2_with fail
  refine (eqa_yes c V).mono ?_
  rintro e w1 ⟨rfl, hb⟩
  have y0 := (hs.out.1.below hb hs.out.1.lt).cell
  have y1 := (hs.out.2.1.below hb hs.out.2.1.lt).cell
  have hB := hid (hs.out.2.2.trans (hb.mono hs.out.2.2.size))
  clear hs x0 x1 hb
  go_wp2
  go_ret
  exact ⟨rfl, hB.out⟩
end Go.Proofs.YtghcagibdcblnaaDoor

/- Bits of small numbers at int: and, or, exclusive or of numbers below 65536 are those of natural numbers; a loop over all numbers below a bound, for the kernel. -/
namespace Go.Proofs.YtghcagibdcblnaaDoor
open Go.ChangeShapes Go.WideShapes Go.ChangeAt Go.RowKit
set_option linter.unusedVariables false

theorem bOf (a : Nat) (ha : a < 65536) : ((a : Int) % ((2 ^ 64 : Nat) : Int)).toNat = a := by omega
theorem bAnd (a b : Nat) (ha : a < 65536) (hb : b < 65536) : bits .and .i64 (a : Int) (b : Int) = ((Nat.land a b : Nat) : Int) := by
  have hx : Nat.land a b < 2 ^ 16 := Nat.and_lt_two_pow _ (by omega)
  show IntKind.i64.wrap ((BitVec.ofInt 64 (a : Int) &&& BitVec.ofInt 64 (b : Int)).toNat : Int) = _
  rw [BitVec.toNat_and, BitVec.toNat_ofInt, BitVec.toNat_ofInt, IntKind.wrap_i64, bOf a ha, bOf b hb]
  show (((Nat.land a b : Nat) : Int) + _) % _ - _ = _
  omega
theorem bOr (a b : Nat) (ha : a < 65536) (hb : b < 65536) : bits .or .i64 (a : Int) (b : Int) = ((Nat.lor a b : Nat) : Int) := by
  have hx : Nat.lor a b < 2 ^ 16 := Nat.or_lt_two_pow (by omega) (by omega)
  show IntKind.i64.wrap ((BitVec.ofInt 64 (a : Int) ||| BitVec.ofInt 64 (b : Int)).toNat : Int) = _
  rw [BitVec.toNat_or, BitVec.toNat_ofInt, BitVec.toNat_ofInt, IntKind.wrap_i64, bOf a ha, bOf b hb]
  show (((Nat.lor a b : Nat) : Int) + _) % _ - _ = _
  omega
theorem bXor (a b : Nat) (ha : a < 65536) (hb : b < 65536) : bits .xor .i64 (a : Int) (b : Int) = ((Nat.xor a b : Nat) : Int) := by
  have hx : Nat.xor a b < 2 ^ 16 := Nat.xor_lt_two_pow (by omega) (by omega)
  show IntKind.i64.wrap ((BitVec.ofInt 64 (a : Int) ^^^ BitVec.ofInt 64 (b : Int)).toNat : Int) = _
  rw [BitVec.toNat_xor, BitVec.toNat_ofInt, BitVec.toNat_ofInt, IntKind.wrap_i64, bOf a ha, bOf b hb]
  show (((Nat.xor a b : Nat) : Int) + _) % _ - _ = _
  omega

/-- a test over all numbers below n, in the kernel's own steps -/
def allB (n : Nat) (p : Nat → Bool) : Bool := Nat.rec true (fun k r => and (p k) r) n
theorem allB_at {n : Nat} {p : Nat → Bool} (h : allB n p = true) (k : Nat) (hk : k < n) : p k = true := by
  induction n with
  | zero => omega
  | succ n ih =>
    have h' : (and (p n) (allB n p)) = true := h
    rw [Bool.and_eq_true] at h'
    by_cases e : k = n
    · rw [e]; exact h'.1
    · exact ih h'.2 (by omega)
/-- 1 of true -/
def btN (b : Bool) : Nat := cond b 1 0
end Go.Proofs.YtghcagibdcblnaaDoor

/- Ports as plain numbers; what the laws do with them; ports that come in. -/
namespace Go.Proofs.YtghcagibdcblnaaDoor
open Go.ChangeShapes Go.WideShapes Go.ChangeAt Go.RowKit Go.Joins Go.Deep
set_option linter.unusedVariables false
set_option linter.unusedSimpArgs false

/-- ports as they come in: any numbers -/
structure Po where
  k0 : Int
  k1 : Int
  k2 : Int
  k3 : Int
  k4 : Int
  k5 : Int
  k6 : Int
  k7 : Int
  joy : Int
  border : Int
  mic : Bool
  beep : Bool
abbrev poA (p : Po) : Array Value := #[.int .i64 p.k0, .int .i64 p.k1, .int .i64 p.k2, .int .i64 p.k3, .int .i64 p.k4, .int .i64 p.k5, .int .i64 p.k6, .int .i64 p.k7, .int .i64 p.joy, .int .i64 p.border, .bool p.mic, .bool p.beep]
abbrev poV (p : Po) : Value := .agg (poA p)
def Po.key (p : Po) : Nat → Int
  | 0 => p.k0
  | 1 => p.k1
  | 2 => p.k2
  | 3 => p.k3
  | 4 => p.k4
  | 5 => p.k5
  | 6 => p.k6
  | _ => p.k7
def Po.put (p : Po) (v : Int) : Nat → Po
  | 0 => { p with k0 := v }
  | 1 => { p with k1 := v }
  | 2 => { p with k2 := v }
  | 3 => { p with k3 := v }
  | 4 => { p with k4 := v }
  | 5 => { p with k5 := v }
  | 6 => { p with k6 := v }
  | _ => { p with k7 := v }
abbrev zeP : Po := ⟨0, 0, 0, 0, 0, 0, 0, 0, 0, 0, false, false⟩
/-- their keys, as registers -/
abbrev Po.cu (p : Po) : Cu := ⟨p.k0, p.k1, p.k2, p.k3, p.k4, p.k5, p.k6, p.k7, 0, 0, 0, false, false, false⟩
theorem poA_put (p : Po) (k : Nat) (v : Int) (hk : k < 8) : (poA p).setIfInBounds k (.int .i64 v) = poA (p.put v k) := by
  rcases eight hk with rfl | rfl | rfl | rfl | rfl | rfl | rfl | rfl <;> rfl
theorem poA_at (p : Po) (k : Nat) (hk : k < 8) : (poA p)[k]? = some (.int .i64 (p.key k)) := by
  rcases eight hk with rfl | rfl | rfl | rfl | rfl | rfl | rfl | rfl <;> rfl
def keysB (p : Po) : Bool := (List.range 8).all (fun i => inB (p.key i) 0 31)
def okPo (p : Po) : Bool := keysB p && inB p.joy 0 31 && inB p.border 0 7
theorem keys_no {p : Po} {k : Nat} (hk : k < 8) (h : inB (p.key k) 0 31 = false) : okPo p = false := by
  have : keysB p = false := by
    unfold keysB
    rw [List.all_eq_false]
    exact ⟨k, List.mem_range.2 hk, by simp [h]⟩
  simp [okPo, this]
theorem keys_all {p : Po} (h : ∀ i, i < 8 → inB (p.key i) 0 31 = true) : keysB p = true := by
  unfold keysB
  rw [List.all_eq_true]
  exact fun i hi => h i (List.mem_range.1 hi)
theorem okPo_key {p : Po} (h : okPo p = true) (k : Nat) (hk : k < 8) : ∃ x : Nat, p.key k = x ∧ x < 32 := by
  unfold okPo at h
  simp only [Bool.and_eq_true] at h
  have := List.all_eq_true.1 h.1.1 k (List.mem_range.2 hk)
  simp [inB] at this
  exact ⟨(p.key k).toNat, by omega, by omega⟩
set_option maxRecDepth 100000 in
set_option maxHeartbeats 1000000 in
theorem eqp_yes (c : Po) (w : World) : Calls Tryd.prog 13 #[poV c, poV c] w fun e w' => e = .returned (.bool true) ∧ Below w.heap.size w w' := by
  have hs := hid (two_in (w := w) (poA c) (poA c) 30 30)
  have x0 := hs.out.1.cell
  have x1 := hs.out.2.1.cell
  go_enter Tryd.func13, Tryd.ntmps13
  go_upto_region 1 with fail
  obtain ⟨V, hV⟩ : ∃ V, ((w.alloc (.cells (poA c) 30)).alloc (.cells (poA c) 30)) = V := ⟨_, rfl⟩
  rw [hV] at hs x0 x1 ⊢
  clear hV
  go_wp2_with fail
  refine (eqa_yes c.cu V).mono ?_
  rintro e w1 ⟨rfl, hb⟩
  have y0 := (hs.out.1.below hb hs.out.1.lt).cell
  have y1 := (hs.out.2.1.below hb hs.out.2.1.lt).cell
  have hB := hid (hs.out.2.2.trans (hb.mono hs.out.2.2.size))
  clear hs x0 x1 hb
  go_wp2
  go_ret
  exact ⟨rfl, hB.out⟩
theorem arr12 {α : Type} {cs : Array α} (h : cs.size = 12) : ∃ c0 c1 c2 c3 c4 c5 c6 c7 c8 c9 c10 c11, cs = #[c0, c1, c2, c3, c4, c5, c6, c7, c8, c9, c10, c11] := by
  obtain ⟨l⟩ := cs
  match l, h with
  | [c0, c1, c2, c3, c4, c5, c6, c7, c8, c9, c10, c11], _ => exact ⟨c0, c1, c2, c3, c4, c5, c6, c7, c8, c9, c10, c11, rfl⟩
end Go.Proofs.YtghcagibdcblnaaDoor
