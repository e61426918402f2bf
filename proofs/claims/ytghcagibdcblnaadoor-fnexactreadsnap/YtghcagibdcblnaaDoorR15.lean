/- What impl.XorOf and spec.XorOf answer: the exclusive or of the bytes one by one, in every world, which stays as it was. -/
import Derived.Test.YtghcagibdcblnaaDoorR00
import Derived.Test.YtghcagibdcblnaaDoorR02
import Derived.Test.YtghcagibdcblnaaDoorR05
import Derived.Test.YtghcagibdcblnaaDoorR06
import Derived.BigQuiet
import Derived.Laws.BytesArg
import Derived.Deep.DeepCutAuto
import Derived.Deep.RegionWith
import Derived.WalkKit
import Derived.ProofKit
import Derived.Test.YtghcagibdcblnaaDoorR10
import Derived.Test.YtghcagibdcblnaaDoorR14
import Derived.Test.YtghcagibdcblnaaDoorR11
namespace Go.Proofs.YtghcagibdcblnaaDoor
open Go.ChangeShapes Go.WideShapes Go.ChangeAt Go.RowKit
set_option linter.unusedVariables false

def xorN (s : ByteArray) : Nat → Int
  | 0 => 0
  | k + 1 => bits .xor .i64 (xorN s k) (byt s k)

def xorV (s : ByteArray) : Int := if 65536 < s.size then 0 else xorN s s.size

end Go.Proofs.YtghcagibdcblnaaDoor

/- Blocks of a tape as plain numbers; what the specification says of a right one, and its sum. -/
namespace Go.Proofs.YtghcagibdcblnaaDoor
open Go.ChangeShapes Go.WideShapes Go.ChangeAt Go.RowKit
set_option linter.unusedVariables false
set_option linter.unusedSimpArgs false

abbrev eS : ByteArray := ⟨#[]⟩
abbrev bkA (f : Int) (s : ByteArray) : Array Value := #[.int .i64 f, .string s]
abbrev bkV (f : Int) (s : ByteArray) : Value := .agg (bkA f s)
def okB (f : Int) (s : ByteArray) : Bool := inB f 0 255 && decide (s.size ≤ 40)
def sumB (f : Int) (s : ByteArray) : Int := bits .xor .i64 f (xorN s s.size)
def sumB2 (f : Int) (s : ByteArray) : Int × Int := if okB f s = true then (sumB f s, 0) else (0, 1)
theorem okB_iff (f : Int) (s : ByteArray) : okB f s = true ↔ (0 ≤ f ∧ f ≤ 255) ∧ s.size ≤ 40 := by
  unfold okB inB
  simp only [Bool.and_eq_true, decide_eq_true_eq]
theorem xorN_nat (s : ByteArray) (k : Nat) : ∃ n : Nat, xorN s k = n ∧ n < 256 := by
  induction k with
  | zero => exact ⟨0, rfl, by omega⟩
  | succ k ih =>
    obtain ⟨n, hn, hl⟩ := ih
    have hb := byt_bd s k
    obtain ⟨x, hx⟩ : ∃ x : Nat, byt s k = x := ⟨(byt s k).toNat, by omega⟩
    refine ⟨Nat.xor n x, ?_, Nat.xor_lt_two_pow (n := 8) (by omega) (by omega)⟩
    show bits .xor .i64 (xorN s k) (byt s k) = _
    rw [hn, hx]
    exact bXor n x (by omega) (by omega)
theorem sumB_nat (f : Nat) (s : ByteArray) (hf : f < 256) : ∃ n : Nat, sumB (f : Int) s = n ∧ n < 256 := by
  obtain ⟨n, hn, hl⟩ := xorN_nat s s.size
  refine ⟨Nat.xor f n, ?_, Nat.xor_lt_two_pow (n := 8) (by omega) (by omega)⟩
  unfold sumB
  rw [hn]
  exact bXor f n (by omega) (by omega)
def bytB (f : Int) (s : ByteArray) : ByteArray := strOfNums [f] ++ s ++ strOfNums [sumB f s]
def txtB (f : Int) (s : ByteArray) : ByteArray := strOfNums [((s.size + 2 : Nat) : Int) % 256, ((s.size + 2 : Nat) : Int) / 256] ++ bytB f s
theorem bytB_size (f : Int) (s : ByteArray) : (bytB f s).size = s.size + 2 := by
  unfold bytB
  rw [ByteArray.size_append, ByteArray.size_append, strOfNums_size, strOfNums_size]
  show 1 + s.size + 1 = _
  omega
theorem txtB_size (f : Int) (s : ByteArray) : (txtB f s).size = s.size + 4 := by
  unfold txtB
  rw [ByteArray.size_append, bytB_size, strOfNums_size]
  show 2 + (s.size + 2) = _
  omega
end Go.Proofs.YtghcagibdcblnaaDoor

/- What impl.PutWord and spec.PutWord answer: the text with the word's two bytes behind it, or the codes; new blocks at most. -/
namespace Go.Proofs.YtghcagibdcblnaaDoor
open Go.ChangeShapes Go.WideShapes Go.ChangeAt Go.RowKit
set_option linter.unusedVariables false

theorem conv2 (w : World) (x y : Int) : (convert 73 9 (.slice (some ⟨w.heap.size, 0, none⟩) 2 2)).run Tryd.prog (w.alloc (.cells #[.int .u8 x, .int .u8 y] 5)) = .ok (.string (strOfNums [x, y])) (w.alloc (.cells #[.int .u8 x, .int .u8 y] 5)) :=
  run_convert_bytes_arg _ 73 5 Tryd.underlying73 Tryd.underlying5 w.heap.size 0 2 2 [x, y] rfl (fun i hi => by
    match i, hi with
    | 0, _ => simp
    | 1, _ => simp) 9 Tryd.underlying9

def putV (s : ByteArray) (v : Int) : Value :=
  if 65536 < s.size then .tuple #[.string ByteArray.empty, .int .i64 2]
  else if v < 0 ∨ 65535 < v then .tuple #[.string ByteArray.empty, .int .i64 4]
  else if 65534 < s.size then .tuple #[.string ByteArray.empty, .int .i64 7]
  else .tuple #[.string (s ++ strOfNums [v % 256, v / 256]), .int .i64 0]

theorem putV_form (s : ByteArray) (v : Int) : ∃ S C, putV s v = .tuple #[.string S, .int .i64 C] := by
  unfold putV
  repeat' split
  all_goals exact ⟨_, _, rfl⟩

end Go.Proofs.YtghcagibdcblnaaDoor

/- The bytes of a block, and its text: the specification. -/
namespace Go.Proofs.YtghcagibdcblnaaDoor
open Go.ChangeShapes Go.WideShapes Go.ChangeAt Go.RowKit
set_option linter.unusedVariables false
set_option linter.unusedSimpArgs false

theorem conv1 {W : World} {g : Nat} {x : Int} (h : Blk W g #[.int .u8 x]) : (convert 73 9 (.slice (some ⟨g, 0, none⟩) 1 1)).run Tryd.prog W = .ok (.string (strOfNums [x])) W :=
  run_convert_bytes_arg _ 73 5 Tryd.underlying73 Tryd.underlying5 g 0 1 1 [x] rfl (fun i hi => by
    match i, hi with
    | 0, _ => exact h.cell 0) 9 Tryd.underlying9
def txtB2 (f : Int) (s : ByteArray) : ByteArray × Int := if okB f s = true then (txtB f s, 0) else (ByteArray.empty, 1)
end Go.Proofs.YtghcagibdcblnaaDoor

/- The text of a snapshot: the specification. -/
namespace Go.Proofs.YtghcagibdcblnaaDoor
open Go.ChangeShapes Go.WideShapes Go.ChangeAt Go.RowKit
set_option linter.unusedVariables false
set_option linter.unusedSimpArgs false

theorem cuA_at (c : Cu) (k : Nat) (hk : k < 8) : (cuA c)[k]? = some (.int .i64 (c.reg k)) := by
  rcases (by omega : k = 0 ∨ k = 1 ∨ k = 2 ∨ k = 3 ∨ k = 4 ∨ k = 5 ∨ k = 6 ∨ k = 7) with rfl | rfl | rfl | rfl | rfl | rfl | rfl | rfl
  all_goals rfl
abbrev cu0 : Cu := ⟨0, 0, 0, 0, 0, 0, 0, 0, 0, 0, 0, false, false, false⟩
theorem cu_there {W : World} {b : Nat} {z : Cu} (h : Blk W b (cuA z)) (c : Cu) : W.there b 0 (cuA c).size := fun j hj => by
  rw [Nat.zero_add]
  refine ⟨?_, h.frozen j⟩
  rw [h.cell j]
  have : j < (cuA z).size := hj
  rw [Array.getElem?_eq_getElem this]
  rfl
def layE : Nat → List Value → Array Value → Array Value
  | _, [], A => A
  | i, u :: t, A => layE (i + 1) t (A.setIfInBounds i u)
theorem layE_blk (b : Nat) (l : List Value) : ∀ (W : World) (i : Nat) (A : Array Value), Blk W b A → Blk (W.setCells b i l) b (layE i l A) := by
  induction l with
  | nil => exact fun _ _ _ h => h
  | cons u t ih => exact fun W i A h => ih _ _ _ (h.set i u)
theorem layE_below {lo b : Nat} {w : World} (vs : List Value) : ∀ (o : Nat) (W : World), lo ≤ b → Below lo w W → Below lo w (W.setCells b o vs) := by
  induction vs with
  | nil => exact fun o W _ h => h
  | cons u t ih => exact fun o W hb h => ih _ _ hb (h.setCell (p := ⟨b, o, none⟩) hb u)
theorem layE_other {b g : Nat} {A : Array Value} (hne : g ≠ b) (vs : List Value) : ∀ (o : Nat) (W : World), Blk W g A → Blk (W.setCells b o vs) g A := by
  induction vs with
  | nil => exact fun o W h => h
  | cons u t ih => exact fun o W h => ih _ _ (h.other (by simpa using hne) u)
theorem cu_laid {W : World} {b : Nat} {z : Cu} (h : Blk W b (cuA z)) (c : Cu) : Blk (W.setCells b 0 (cuA c).toList) b (cuA c) := by
  have q := layE_blk b (cuA c).toList W 0 (cuA z) h
  have e : layE 0 (cuA c).toList (cuA z) = cuA c := by
    simp only [layE, List.setIfInBounds_toArray, List.set_cons_zero, List.set_cons_succ, Nat.zero_add, Nat.reduceAdd]
  rw [e] at q
  exact q
theorem cu_one (c : Cu) : (cuA c).all (·.oneCell') = true := by simp [Value.oneCell']
abbrev fF (s : Sn) : Nat → Bool := fun i => [s.c.iff, s.c.ei, s.c.halt, s.m.locked, s.m.screen == 3].getD i false
abbrev fT (s : Sn) : Nat → Bool := fun i => [s.p.mic, s.p.beep].getD i false
theorem five_bits (s : Sn) : ((bitsN (fF s) 5 : Nat) : Int) = bitsS s.c s.m := by
  have e : (s.m.screen == 3) = decide (s.m.screen = 3) := rfl
  unfold bitsS fF
  rw [e]
  generalize decide (s.m.screen = 3) = x
  generalize s.c.iff = a, s.c.ei = b, s.c.halt = c, s.m.locked = d
  cases a <;> cases b <;> cases c <;> cases d <;> cases x <;> rfl
theorem two_bits (s : Sn) : ((bitsN (fT s) 2 : Nat) : Int) = b1 s.p.mic + 2 * b1 s.p.beep := by
  unfold fT
  generalize s.p.mic = a, s.p.beep = b
  cases a <;> cases b <;> rfl
theorem ula_or (p : Po) (h0 : 0 ≤ p.border) (h1 : p.border ≤ 7) : bits .or .i64 p.border ((b1 p.mic + 2 * b1 p.beep) * 8) = ulaS p := by
  unfold ulaS
  generalize p.border = n, p.mic = a, p.beep = b at *
  rcases (by omega : n = 0 ∨ n = 1 ∨ n = 2 ∨ n = 3 ∨ n = 4 ∨ n = 5 ∨ n = 6 ∨ n = 7) with rfl | rfl | rfl | rfl | rfl | rfl | rfl | rfl
  all_goals (cases a <;> cases b <;> decide)
theorem bitsS_bd (c : Cu) (M : Mem) : 0 ≤ bitsS c M ∧ bitsS c M ≤ 255 := by
  have h1 := b1_bd c.iff; have h2 := b1_bd c.ei; have h3 := b1_bd c.halt; have h4 := b1_bd M.locked; have h5 := b1_bd (decide (M.screen = 3))
  unfold bitsS
  omega
theorem ulaS_bd (p : Po) (h0 : 0 ≤ p.border) (h1 : p.border ≤ 7) : 0 ≤ ulaS p ∧ ulaS p ≤ 255 := by
  have h1 := b1_bd p.mic; have h2 := b1_bd p.beep
  unfold ulaS
  omega
theorem bytes13 {zs : List Int} (h : bytesB zs 64 = true) : zs.length = 64 ∧ ∀ k, k < 64 → 0 ≤ zs.getD k 0 ∧ zs.getD k 0 ≤ 255 := by
  unfold bytesB at h
  simp only [Bool.and_eq_true, decide_eq_true_eq, List.all_eq_true] at h
  obtain ⟨h1, h2⟩ := h
  refine ⟨h2, fun k hk => ?_⟩
  have hm : zs.getD k 0 ∈ zs := by
    rw [List.getD_eq_getElem?_getD, List.getElem?_eq_getElem (by omega)]
    exact List.getElem_mem _
  have := h1 _ hm
  unfold inB at this
  simp only [Bool.and_eq_true, decide_eq_true_eq] at this
  exact this
theorem sN_app (a b : List Int) : strOfNums (a ++ b) = strOfNums a ++ strOfNums b := by
  apply ByteArray.ext
  rw [ByteArray.data_append]
  unfold strOfNums
  simp
theorem take_getE {Z : List Int} {k : Nat} (h : k < Z.length) : Z.take k ++ [Z.getD k 0] = Z.take (k + 1) := by
  rw [List.take_succ_eq_append_getElem h, List.getD_eq_getElem?_getD, List.getElem?_eq_getElem h]
  rfl
theorem bnksL_app (A B : List (List Int)) : bnksL (A ++ B) = bnksL A ++ bnksL B := by
  induction A with
  | nil => rfl
  | cons a A ih =>
    show bnkL a ++ bnksL (A ++ B) = (bnkL a ++ bnksL A) ++ bnksL B
    rw [ih, List.append_assoc]
theorem bnks_take {R : List (List Int)} {i : Nat} (h : i < R.length) : bnksL (R.take (i + 1)) = bnksL (R.take i) ++ bnkL (R.getD i []) := by
  rw [List.take_succ_eq_append_getElem h, bnksL_app, List.getD_eq_getElem?_getD, List.getElem?_eq_getElem h]
  show _ ++ (bnkL _ ++ []) = _
  rw [List.append_nil]
  rfl
theorem bnks_len {R : List (List Int)} (h : ∀ b ∈ R, b.length = 64) : (bnksL R).length ≤ 130 * R.length := by
  induction R with
  | nil => exact Nat.le_refl _
  | cons b R ih =>
    have h1 := ih (fun x hx => h x (List.mem_cons_of_mem _ hx))
    have h2 := cmpE_len b
    rw [h b (List.mem_cons_self ..)] at h2
    show (bnkL b ++ bnksL R).length ≤ _
    unfold bnkL
    simp only [List.length_append, List.length_cons, List.length_nil]
    omega
theorem po_border {p : Po} (h : okPo p = true) : 0 ≤ p.border ∧ p.border ≤ 7 := by
  unfold okPo at h
  simp [inB] at h
  omega
end Go.Proofs.YtghcagibdcblnaaDoor

/- SnapText: the specification. -/
namespace Go.Proofs.YtghcagibdcblnaaDoor
open Go.ChangeShapes Go.WideShapes Go.ChangeAt Go.RowKit
set_option linter.unusedVariables false
set_option linter.unusedSimpArgs false

def sntext2 (s : Sn) : ByteArray × Int := if okSn s = true then (strOfNums (snapL s.c s.m s.p), 0) else (⟨#[]⟩, 1)
theorem sn_all {W : World} {b : Nat} {s : Sn} {vr vm : Value} (h : Blk W b (snA s vr vm)) : W.rangeAt b 0 (snA s vr vm).toList := blk_range h [] _ [] (by simp)
theorem szS (s : Sn) (vr vm : Value) : (Tryd.prog.info? 32).map (·.size) = some (snA s vr vm).toList.length := by
  show _ = some 31
  kernel_rfl
end Go.Proofs.YtghcagibdcblnaaDoor

/- SameSnap: the specification. -/
namespace Go.Proofs.YtghcagibdcblnaaDoor
open Go.ChangeShapes Go.WideShapes Go.ChangeAt Go.RowKit
set_option linter.unusedVariables false
set_option linter.unusedSimpArgs false

/-- a guarded operation is wanted where the slot of its guard says so -/
theorem want_of {ops : Array Oper} {o : Oper} {a : Act} {j s : Nat} {want b : Bool} (hg : o.guard = some (j, want)) (hd : (ops[j]?).bind (·.dst) = some s) (hv : a.tmps.getD s undef = .bool b) : Region.wanted o (yielded ops a.tmps) = (b == want) := by
  unfold Region.wanted
  rw [hg]
  dsimp only
  unfold yielded
  rw [hd, Option.bind_some]
  cases ht : a.tmps[s]? with
  | none =>
    rw [Array.getD_eq_getD_getElem?, ht] at hv
    cases hv
  | some v =>
    rw [Array.getD_eq_getD_getElem?, ht] at hv
    have hv : v = .bool b := hv
    subst hv
    cases b <;> cases want <;> rfl
def SmallS (s : Sn) : Prop := s.m.rom.length ≤ 1000000000 ∧ s.m.ram.length ≤ 1000000000 ∧ ∀ i, i < s.m.ram.length → (s.m.ram.getD i []).length ≤ 1000000000
def sameSn (s s2 : Sn) : Bool := okSn s && okSn s2 && (strOfNums (snapL s.c s.m s.p)).toList == (strOfNums (snapL s2.c s2.m s2.p)).toList
end Go.Proofs.YtghcagibdcblnaaDoor
