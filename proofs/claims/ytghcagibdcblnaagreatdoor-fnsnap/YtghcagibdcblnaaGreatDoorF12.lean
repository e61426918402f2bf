/- The specification's machine, as it lies in a world while an instruction is done. -/
import Derived.Test.YtghcagibdcblnaaGreatDoorF11
import Derived.Test.YtghcagibdcblnaaGreatDoorF03
import Derived.Deep.AppendLies
import Derived.OwnWalk
import Derived.Test.YtghcagibdcblnaaGreatDoorF04
import Derived.Test.YtghcagibdcblnaaGreatDoorF09
import Derived.Deep.RegionWith
import Derived.BigRegion
import Derived.Test.YtghcagibdcblnaaGreatDoorF00
import Derived.BigQuiet
import Derived.Laws.BytesArg
import Derived.Deep.DeepCutAuto
import Derived.WalkKit
import Derived.ProofKit
import Derived.Test.YtghcagibdcblnaaGreatDoorF07
namespace Go.Proofs.YtghcagibdcblnaaGreatDoor
open Go.ChangeShapes Go.WideShapes Go.ChangeAt Go.RowKit
set_option linter.unusedVariables false
set_option linter.unusedSimpArgs false

abbrev macA (c : Cp) (vr vm : Value) (p s : Int) (l : Bool) (cv : Value) (n : Nat) : Array Value :=
  #[.int .i64 (c.b : Int), .int .i64 (c.c : Int), .int .i64 (c.d : Int), .int .i64 (c.e : Int), .int .i64 (c.h : Int), .int .i64 (c.l : Int), .int .i64 0, .int .i64 (c.a : Int), .int .i64 (c.f : Int), .int .i64 (c.sp : Int), .int .i64 (c.pc : Int), .bool c.iff, .bool c.ei, .bool c.halt,
    vr, vm, .int .i64 p, .int .i64 s, .bool l, cv, .int .i64 (n : Int)]
def cyV (l : List (Nat × Nat × Nat)) : List Value := l.flatMap fun x => [.int .i64 (x.1 : Int), .int .i64 (x.2.1 : Int), .int .i64 (x.2.2 : Int)]
theorem cyV_snoc (l : List (Nat × Nat × Nat)) (k a v : Nat) : cyV (l ++ [(k, a, v)]) = cyV l ++ [.int .i64 (k : Int), .int .i64 (a : Int), .int .i64 (v : Int)] := by simp [cyV]
theorem cyV_len (l : List (Nat × Nat × Nat)) : (cyV l).length = l.length * 3 := by
  induction l with
  | nil => rfl
  | cons x t ih => simp [cyV, List.flatMap_cons] at ih ⊢; omega
/-- the blocks that the machine writes into -/
def vl (k : List (Nat × Array Value)) (X : Nat) (cv : Value) : Nat → Bool := fun b => b == X || cv.ownBlock == some b || k.any (fun p => p.1 == b)
theorem vl_X (k : List (Nat × Array Value)) (X : Nat) (cv : Value) : vl k X cv X = true := by simp [vl]
theorem vl_own {k : List (Nat × Array Value)} {X g : Nat} {cv : Value} (h : cv.ownBlock = some g) : vl k X cv g = true := by simp [vl, h]
theorem vl_in {k : List (Nat × Array Value)} {X b : Nat} {cv : Value} {A : Array Value} (h : (b, A) ∈ k) : vl k X cv b = true := by
  have : k.any (fun p => p.1 == b) = true := List.any_eq_true.2 ⟨_, h, by simp⟩
  simp [vl, this]
theorem vl_no {k : List (Nat × Array Value)} {X b : Nat} {cv : Value} (h1 : b ≠ X) (h2 : cv.ownBlock ≠ some b) (h3 : ∀ A, (b, A) ∉ k) : vl k X cv b = false := by
  have : k.any (fun p => p.1 == b) = false := by
    rw [List.any_eq_false]
    intro p hp e
    have e2 : p.1 = b := by simpa using e
    exact h3 p.2 (by rw [← e2]; exact hp)
  simp [vl, h1, h2, this]
theorem vl_cases {k : List (Nat × Array Value)} {X b : Nat} {cv : Value} (h : vl k X cv b = true) : b = X ∨ cv.ownBlock = some b ∨ ∃ A, (b, A) ∈ k := by
  unfold vl at h
  simp only [Bool.or_eq_true, beq_iff_eq] at h
  rcases h with (h | h) | h
  · exact .inl h
  · exact .inr (.inl h)
  · obtain ⟨p, hp, e⟩ := List.any_eq_true.1 h
    have e2 : p.1 = b := by simpa using e
    exact .inr (.inr ⟨p.2, by rw [← e2]; exact hp⟩)
/-- the world at first, and blocks that must stay as they are -/
structure Bs extends World where
  k : List (Nat × Array Value)
end Go.Proofs.YtghcagibdcblnaaGreatDoor

/- What the machine's own calls do: note, read, write, push, pop. -/
namespace Go.Proofs.YtghcagibdcblnaaGreatDoor
open Go.ChangeShapes Go.WideShapes Go.ChangeAt Go.RowKit
set_option linter.unusedVariables false
set_option linter.unusedSimpArgs false

end Go.Proofs.YtghcagibdcblnaaGreatDoor

/- What the machine's own calls do: read, write, push, pop, get, set. -/
namespace Go.Proofs.YtghcagibdcblnaaGreatDoor
open Go.ChangeShapes Go.WideShapes Go.ChangeAt Go.RowKit
set_option linter.unusedVariables false
set_option linter.unusedSimpArgs false

theorem peek_byte {M : Mem} (hk : okM M = true) {a : Nat} (ha : a < 256) : peekI M (a : Int) = (peekN M a : Int) ∧ peekN M a < 256 := by
  obtain ⟨hp1, hp2, hp3, _, hp5⟩ := ok_parts hk
  have hb : 0 ≤ peekI M (a : Int) ∧ peekI M (a : Int) ≤ 255 := by
    unfold peekI
    split
    · have h := bytes_at hp1 (i := ((a : Int)).toNat) (by rw [bytes_len hp1]; omega)
      simpa [inB] using h
    · have hbb := bank_bd hp3 (a := (a : Int)) (by omega)
      have h := bytes_at (hp5 (bankI M.page (a : Int)).toNat (by omega)) (i := ((a : Int) % 64).toNat) (by rw [bytes_len (hp5 (bankI M.page (a : Int)).toNat (by omega))]; omega)
      simpa [inB] using h
  unfold peekN
  omega
theorem and255 (s : Nat) (h : s < 600) : bits .and .i64 (s : Int) 255 = ((s % 256 : Nat) : Int) := by
  rw [show (255 : Int) = ((255 : Nat) : Int) from rfl, bAnd s 255 (by omega) (by omega)]
  exact congrArg _ (Nat.and_two_pow_sub_one_eq_mod s 8)
theorem and255m (s : Nat) (h : s < 256) : bits .and .i64 ((s : Int) - 1) 255 = (((s + 255) % 256 : Nat) : Int) := by
  by_cases h0 : s = 0
  · subst h0
    decide
  · have e : (s : Int) - 1 = ((s - 1 : Nat) : Int) := by omega
    rw [e, and255 (s - 1) (by omega)]
    have : (s - 1) % 256 = (s + 255) % 256 := by omega
    rw [this]
end Go.Proofs.YtghcagibdcblnaaGreatDoor

/- What the specification asks of a processor and a memory; the instruction where it stands. -/
namespace Go.Proofs.YtghcagibdcblnaaGreatDoor
open Go.ChangeShapes Go.WideShapes Go.ChangeAt Go.RowKit
set_option linter.unusedVariables false
set_option linter.unusedSimpArgs false

abbrev cpA (c : Cp) : Array Value := #[.int .i64 (c.b : Int), .int .i64 (c.c : Int), .int .i64 (c.d : Int), .int .i64 (c.e : Int), .int .i64 (c.h : Int), .int .i64 (c.l : Int), .int .i64 0, .int .i64 (c.a : Int), .int .i64 (c.f : Int), .int .i64 (c.sp : Int), .int .i64 (c.pc : Int), .bool c.iff, .bool c.ei, .bool c.halt]
abbrev cpV (c : Cp) : Value := .agg (cpA c)
/-- a processor that is right, as natural numbers -/
def Cu.cp (c : Cu) : Cp := ⟨c.r0.toNat, c.r1.toNat, c.r2.toNat, c.r3.toNat, c.r4.toNat, c.r5.toNat, c.r7.toNat, c.f.toNat, c.sp.toNat, c.pc.toNat, c.iff, c.ei, c.halt⟩
theorem inB_bd {z : Int} (h : inB z 0 255 = true) : 0 ≤ z ∧ z ≤ 255 := by
  simp [inB] at h
  omega
theorem okC_parts {c : Cu} (h : okC c = true) : (∀ i, i < 8 → 0 ≤ c.reg i ∧ c.reg i ≤ 255) ∧ c.r6 = 0 ∧ (0 ≤ c.f ∧ c.f ≤ 255) ∧ (0 ≤ c.sp ∧ c.sp ≤ 255) ∧ (0 ≤ c.pc ∧ c.pc ≤ 255) ∧ (c.ei = true → c.iff = true) := by
  unfold okC at h
  simp only [Bool.and_eq_true] at h
  obtain ⟨⟨⟨⟨⟨h1, h2⟩, h3⟩, h4⟩, h5⟩, h6⟩ := h
  refine ⟨fun i hi => inB_bd ?_, by simpa using h2, inB_bd h3, inB_bd h4, inB_bd h5, fun e => ?_⟩
  · unfold regsB at h1
    rw [List.all_eq_true] at h1
    exact h1 i (List.mem_range.2 hi)
  · rw [e] at h6
    simpa using h6
theorem okC_cp {c : Cu} (h : okC c = true) : cuV c = cpV c.cp ∧ c.cp.ok := by
  obtain ⟨hr, h6, hf, hs, hp, _⟩ := okC_parts h
  have e0 := hr 0 (by omega)
  have e1 := hr 1 (by omega)
  have e2 := hr 2 (by omega)
  have e3 := hr 3 (by omega)
  have e4 := hr 4 (by omega)
  have e5 := hr 5 (by omega)
  have e7 := hr 7 (by omega)
  simp only [Cu.reg] at e0 e1 e2 e3 e4 e5 e7
  refine ⟨?_, ?_⟩
  · show Value.agg _ = Value.agg _
    unfold cuA cpA Cu.cp
    simp only []
    rw [h6, Int.toNat_of_nonneg e0.1, Int.toNat_of_nonneg e1.1, Int.toNat_of_nonneg e2.1, Int.toNat_of_nonneg e3.1, Int.toNat_of_nonneg e4.1, Int.toNat_of_nonneg e5.1, Int.toNat_of_nonneg e7.1, Int.toNat_of_nonneg hf.1, Int.toNat_of_nonneg hs.1, Int.toNat_of_nonneg hp.1]
  · unfold Cp.ok Cu.cp
    simp only []
    omega
/-- two things are boxed, and more comes behind -/
theorem two_newC (w : World) (A0 A1 : Array Value) (t t1 : TypeId) : Blk ((w.alloc (.cells A0 t)).alloc (.cells A1 t1)) w.heap.size A0 ∧ Blk ((w.alloc (.cells A0 t)).alloc (.cells A1 t1)) (w.heap.size + 1) A1 ∧ Below w.heap.size w ((w.alloc (.cells A0 t)).alloc (.cells A1 t1)) := two_newI (Below.refl _ _)
/-- while an instruction is looked up -/
structure ISt (w W : World) (A B C : Array Value) : Prop where
  q0 : Blk W w.heap.size A
  q1 : Blk W (w.heap.size + 1) B
  q2 : Blk W (w.heap.size + 1 + 1) C
  bel : Below w.heap.size w W
theorem ISt.below {w W W' : World} {A B C : Array Value} (h : ISt w W A B C) (hb : Below W.heap.size W W') : ISt w W' A B C :=
  ⟨h.q0.below hb h.q0.lt, h.q1.below hb h.q1.lt, h.q2.below hb h.q2.lt, h.bel.trans (hb.mono h.bel.size)⟩
theorem ISt.drew {w W : World} {A B C : Array Value} (h : ISt w W A B C) : ISt w W.drew A B C := h.below ⟨rfl, rfl, rfl, Nat.le_refl _, fun _ _ => rfl⟩
theorem ISt.start (w : World) (A B C : Array Value) (t t1 t2 : TypeId) : ISt w (((w.alloc (.cells A t)).alloc (.cells B t1)).alloc (.cells C t2)) A B C := by
  obtain ⟨q0, q1, hB⟩ := two_newC w A B t t1
  have q2 := Blk.new ((w.alloc (.cells A t)).alloc (.cells B t1)) C t2
  simp only [World.size_alloc] at q2
  exact ⟨q0.alloc _, q1.alloc _, q2, hB.alloc hB.size _⟩
theorem ISt.put {w W : World} {A B C : Array Value} (h : ISt w W A B C) (i : Nat) (u : Value) : ISt w (W.setCell ⟨w.heap.size + 1 + 1, i, none⟩ u) A B (C.setIfInBounds i u) :=
  ⟨h.q0.other (by simp only []; omega) u, h.q1.other (by simp) u, h.q2.set i u, h.bel.setCell (p := ⟨w.heap.size + 1 + 1, i, none⟩) (by simp only []; omega) u⟩
theorem ISt.held {w W : World} {c : Cp} {v0 v1 v2 v3 v4 : Value} {C : Array Value} (h : ISt w W (cpA c) #[v0, v1, v2, v3, v4] C) : W.cell? ⟨w.heap.size, 10, none⟩ = some (.int .i64 (c.pc : Int)) ∧ W.cell? ⟨w.heap.size + 1, 0, none⟩ = some v0 ∧ W.cell? ⟨w.heap.size + 1, 1, none⟩ = some v1 ∧ W.cell? ⟨w.heap.size + 1, 2, none⟩ = some v2 ∧ W.cell? ⟨w.heap.size + 1, 3, none⟩ = some v3 ∧ W.cell? ⟨w.heap.size + 1, 4, none⟩ = some v4 ∧ Hid (∃ C, ISt w W (cpA c) #[v0, v1, v2, v3, v4] C) :=
  ⟨h.q0.cell 10, h.q1.cell 0, h.q1.cell 1, h.q1.cell 2, h.q1.cell 3, h.q1.cell 4, ⟨_, h⟩⟩
end Go.Proofs.YtghcagibdcblnaaGreatDoor

/- What impl.XorOf and spec.XorOf answer: the exclusive or of the bytes one by one, in every world, which stays as it was. -/
namespace Go.Proofs.YtghcagibdcblnaaGreatDoor
open Go.ChangeShapes Go.WideShapes Go.ChangeAt Go.RowKit
set_option linter.unusedVariables false

def xorN (s : ByteArray) : Nat → Int
  | 0 => 0
  | k + 1 => bits .xor .i64 (xorN s k) (byt s k)

def xorV (s : ByteArray) : Int := if 65536 < s.size then 0 else xorN s s.size

end Go.Proofs.YtghcagibdcblnaaGreatDoor

/- Blocks of a tape as plain numbers; what the specification says of a right one, and its sum. -/
namespace Go.Proofs.YtghcagibdcblnaaGreatDoor
open Go.ChangeShapes Go.WideShapes Go.ChangeAt Go.RowKit
set_option linter.unusedVariables false
set_option linter.unusedSimpArgs false

abbrev eS : ByteArray := ⟨#[]⟩
abbrev bkA (f : Int) (s : ByteArray) : Array Value := #[.int .i64 f, .string s]
abbrev bkV (f : Int) (s : ByteArray) : Value := .agg (bkA f s)
def okB (f : Int) (s : ByteArray) : Bool := inB f 0 255 && decide (s.size ≤ 40)
def sumB (f : Int) (s : ByteArray) : Int := bits .xor .i64 f (xorN s s.size)
def sumB2 (f : Int) (s : ByteArray) : Int × Int := if okB f s = true then (sumB f s, 0) else (0, 1)
theorem okB_iff (f : Int) (s : ByteArray) : okB f s = true ↔ (0 ≤ f ∧ f ≤ 255) ∧ s.size ≤ 40 := by
  unfold okB inB
  simp only [Bool.and_eq_true, decide_eq_true_eq]
theorem xorN_nat (s : ByteArray) (k : Nat) : ∃ n : Nat, xorN s k = n ∧ n < 256 := by
  induction k with
  | zero => exact ⟨0, rfl, by omega⟩
  | succ k ih =>
    obtain ⟨n, hn, hl⟩ := ih
    have hb := byt_bd s k
    obtain ⟨x, hx⟩ : ∃ x : Nat, byt s k = x := ⟨(byt s k).toNat, by omega⟩
    refine ⟨Nat.xor n x, ?_, Nat.xor_lt_two_pow (n := 8) (by omega) (by omega)⟩
    show bits .xor .i64 (xorN s k) (byt s k) = _
    rw [hn, hx]
    exact bXor n x (by omega) (by omega)
theorem sumB_nat (f : Nat) (s : ByteArray) (hf : f < 256) : ∃ n : Nat, sumB (f : Int) s = n ∧ n < 256 := by
  obtain ⟨n, hn, hl⟩ := xorN_nat s s.size
  refine ⟨Nat.xor f n, ?_, Nat.xor_lt_two_pow (n := 8) (by omega) (by omega)⟩
  unfold sumB
  rw [hn]
  exact bXor f n (by omega) (by omega)
def bytB (f : Int) (s : ByteArray) : ByteArray := strOfNums [f] ++ s ++ strOfNums [sumB f s]
def txtB (f : Int) (s : ByteArray) : ByteArray := strOfNums [((s.size + 2 : Nat) : Int) % 256, ((s.size + 2 : Nat) : Int) / 256] ++ bytB f s
theorem bytB_size (f : Int) (s : ByteArray) : (bytB f s).size = s.size + 2 := by
  unfold bytB
  rw [ByteArray.size_append, ByteArray.size_append, strOfNums_size, strOfNums_size]
  show 1 + s.size + 1 = _
  omega
theorem txtB_size (f : Int) (s : ByteArray) : (txtB f s).size = s.size + 4 := by
  unfold txtB
  rw [ByteArray.size_append, bytB_size, strOfNums_size]
  show 2 + (s.size + 2) = _
  omega
end Go.Proofs.YtghcagibdcblnaaGreatDoor

/- What impl.PutWord and spec.PutWord answer: the text with the word's two bytes behind it, or the codes; new blocks at most. -/
namespace Go.Proofs.YtghcagibdcblnaaGreatDoor
open Go.ChangeShapes Go.WideShapes Go.ChangeAt Go.RowKit
set_option linter.unusedVariables false

theorem conv2 (w : World) (x y : Int) : (convert 22 9 (.slice (some ⟨w.heap.size, 0, none⟩) 2 2)).run Tryz.prog (w.alloc (.cells #[.int .u8 x, .int .u8 y] 5)) = .ok (.string (strOfNums [x, y])) (w.alloc (.cells #[.int .u8 x, .int .u8 y] 5)) :=
  run_convert_bytes_arg _ 22 5 Tryz.underlying22 Tryz.underlying5 w.heap.size 0 2 2 [x, y] rfl (fun i hi => by
    match i, hi with
    | 0, _ => simp
    | 1, _ => simp) 9 Tryz.underlying9

def putV (s : ByteArray) (v : Int) : Value :=
  if 65536 < s.size then .tuple #[.string ByteArray.empty, .int .i64 2]
  else if v < 0 ∨ 65535 < v then .tuple #[.string ByteArray.empty, .int .i64 4]
  else if 65534 < s.size then .tuple #[.string ByteArray.empty, .int .i64 7]
  else .tuple #[.string (s ++ strOfNums [v % 256, v / 256]), .int .i64 0]

theorem putV_form (s : ByteArray) (v : Int) : ∃ S C, putV s v = .tuple #[.string S, .int .i64 C] := by
  unfold putV
  repeat' split
  all_goals exact ⟨_, _, rfl⟩

theorem put_impl (s : ByteArray) (v : Int) (w : World) (hs : s.size ≤ maxLen) :
    Calls Tryz.prog 63 #[.string s, .int .i64 v] w fun e w' => e = .returned (putV s v) ∧ Below w.heap.size w w' := by
  unfold maxLen at hs
  unfold putV
  obtain ⟨q, hq⟩ : ∃ q : Int, (s.size : Int) + 2 = q := ⟨_, rfl⟩
  have hc := conv2
  by_cases h1 : 65536 < s.size
  · rw [if_pos h1]
    go_enter Tryz.func63, Tryz.ntmps63
    go_wp2
    go_ret2
    exact ⟨rfl, Below.refl _ _⟩
  · rw [if_neg h1]
    by_cases h2 : v < 0 ∨ 65535 < v
    · rw [if_pos h2]
      rcases h2 with h2 | h2
      · go_enter Tryz.func63, Tryz.ntmps63
        go_wp2
        go_ret2
        exact ⟨rfl, Below.refl _ _⟩
      · have h3 : ¬ v < 0 := by omega
        go_enter Tryz.func63, Tryz.ntmps63
        go_wp2
        go_ret2
        exact ⟨rfl, Below.refl _ _⟩
    · rw [if_neg h2]
      have h3 : 0 ≤ v := by omega
      have h4 : v ≤ 65535 := by omega
      by_cases h5 : 65534 < s.size
      · rw [if_pos h5]
        have h6 : 65536 < q := by omega
        go_enter Tryz.func63, Tryz.ntmps63
        go_wp2
        go_ret2
        exact ⟨rfl, Below.refl _ _⟩
      · rw [if_neg h5]
        have h6 : q ≤ 65536 := by omega
        have h7 : (strOfNums [v % 256, v / 256]).size = 2 := strOfNums_size _
        go_enter Tryz.func63, Tryz.ntmps63
        go_wp2
        go_ret2
        exact ⟨rfl, (Below.refl _ _).alloc (Nat.le_refl _) _⟩

end Go.Proofs.YtghcagibdcblnaaGreatDoor

/- The bytes of a block, and its text: the specification. -/
namespace Go.Proofs.YtghcagibdcblnaaGreatDoor
open Go.ChangeShapes Go.WideShapes Go.ChangeAt Go.RowKit
set_option linter.unusedVariables false
set_option linter.unusedSimpArgs false

theorem conv1 {W : World} {g : Nat} {x : Int} (h : Blk W g #[.int .u8 x]) : (convert 22 9 (.slice (some ⟨g, 0, none⟩) 1 1)).run Tryz.prog W = .ok (.string (strOfNums [x])) W :=
  run_convert_bytes_arg _ 22 5 Tryz.underlying22 Tryz.underlying5 g 0 1 1 [x] rfl (fun i hi => by
    match i, hi with
    | 0, _ => exact h.cell 0) 9 Tryz.underlying9
theorem wordU_spec (v : Int) (w : World) (h0 : 0 ≤ v) (h1 : v ≤ 65535) :
    Calls Tryz.prog 39 #[.int .i64 v] w fun e w' => e = .returned (.string (strOfNums [v % 256, v / 256])) ∧ Below w.heap.size w w' := by
  have hc := conv2
  go_enter Tryz.func39, Tryz.ntmps39
  go_wp2
  go_ret
  exact ⟨rfl, (Below.refl _ _).alloc (Nat.le_refl _) _⟩
def txtB2 (f : Int) (s : ByteArray) : ByteArray × Int := if okB f s = true then (txtB f s, 0) else (ByteArray.empty, 1)
end Go.Proofs.YtghcagibdcblnaaGreatDoor
