/- Banks of a snapshot, as plain lists of bytes: written, read back, cut off. -/
import Derived.Test.YtifcdojaocndhaaDoorS26
import Derived.Test.YtifcdojaocndhaaDoorS03
import Derived.Test.YtifcdojaocndhaaDoorS04
import Derived.Test.YtifcdojaocndhaaDoorS02
import Derived.Deep.MidRow
import Derived.Test.YtifcdojaocndhaaDoorS10
namespace Go.Proofs.YtifcdojaocndhaaDoor
set_option linter.unusedVariables false
set_option linter.unusedSimpArgs false

/-- a bank: how long it is compressed, in a word, and it -/
def bnkL (b : List Int) : List Int := [((cmpE b).length : Int) % 256, ((cmpE b).length : Int) / 256] ++ cmpE b
def bnksL : List (List Int) → List Int
  | [] => []
  | b :: B => bnkL b ++ bnksL B
/-- k banks of 64 bytes are read: they, what is left over, and a code -/
def rdB : Nat → List Int → List (List Int) × List Int × Int
  | 0, L => ([], L, 0)
  | k + 1, lo :: hi :: L =>
    if L.length < (lo + 256 * hi).toNat then ([], [], 9)
    else if (expE 64 (L.take (lo + 256 * hi).toNat) []).2 = 0 then
      (if (rdB k (L.drop (lo + 256 * hi).toNat)).2.2 = 0 then ((expE 64 (L.take (lo + 256 * hi).toNat) []).1 :: (rdB k (L.drop (lo + 256 * hi).toNat)).1, (rdB k (L.drop (lo + 256 * hi).toNat)).2.1, 0) else ([], [], (rdB k (L.drop (lo + 256 * hi).toNat)).2.2))
    else ([], [], (expE 64 (L.take (lo + 256 * hi).toNat) []).2)
  | _ + 1, _ => ([], [], 9)
theorem exp_bank {b : List Int} (h : b.length = 64) : expE 64 (cmpE b) [] = (b, 0) := by
  have := exp_cmp 64 b.length b [] (Nat.le_refl _) (by simp; omega)
  unfold cmpE
  rw [this, List.nil_append, if_pos h]
theorem bnk_word (b : List Int) : (((cmpE b).length : Int) % 256 + 256 * (((cmpE b).length : Int) / 256)).toNat = (cmpE b).length := by omega
/-- banks are read back, with what stands behind them -/
theorem rd_back : ∀ (B : List (List Int)) (R : List Int), (∀ b ∈ B, b.length = 64) → rdB B.length (bnksL B ++ R) = (B, R, 0)
  | [], R, _ => rfl
  | b :: B, R, h => by
    have hb := h b (List.mem_cons_self ..)
    have ih := rd_back B R (fun x hx => h x (List.mem_cons_of_mem _ hx))
    have e : bnksL (b :: B) ++ R = (((cmpE b).length : Int) % 256) :: (((cmpE b).length : Int) / 256) :: (cmpE b ++ (bnksL B ++ R)) := by
      show (bnkL b ++ bnksL B) ++ R = _
      unfold bnkL
      simp
    rw [e]
    show (if _ < _ then _ else _) = _
    rw [bnk_word]
    rw [if_neg (by rw [List.length_append]; omega), List.take_left' rfl, List.drop_left' rfl, exp_bank hb]
    show (if (0 : Int) = 0 then (if (rdB B.length (bnksL B ++ R)).2.2 = 0 then _ else _) else _) = _
    rw [if_pos rfl, ih]
    rfl
/-- cut off they are told to be at their end -/
theorem rd_cut : ∀ (B : List (List Int)) (j : Nat), (∀ b ∈ B, b.length = 64) → j < (bnksL B).length → (rdB B.length ((bnksL B).take j)).2.2 = 9
  | [], j, _, hj => by
    exact absurd hj (Nat.not_lt_zero _)
  | b :: B, j, h, hj => by
    have hb := h b (List.mem_cons_self ..)
    have e : bnksL (b :: B) = (((cmpE b).length : Int) % 256) :: (((cmpE b).length : Int) / 256) :: (cmpE b ++ bnksL B) := by
      show bnkL b ++ bnksL B = _
      unfold bnkL
      simp
    have hl : (bnksL (b :: B)).length = 2 + (cmpE b).length + (bnksL B).length := by
      rw [e]
      simp
      omega
    rw [e]
    match j with
    | 0 => rfl
    | 1 => rfl
    | j + 2 =>
      rw [hl] at hj
      show (if _ < _ then _ else _ : List (List Int) × List Int × Int).2.2 = 9
      rw [bnk_word]
      by_cases hc : j < (cmpE b).length
      · have h1 : ((cmpE b ++ bnksL B).take j).length < (cmpE b).length := by
          rw [List.length_take, List.length_append]
          omega
        rw [if_pos h1]
      · obtain ⟨i, rfl⟩ : ∃ i, j = (cmpE b).length + i := ⟨j - (cmpE b).length, by omega⟩
        have h2 : (cmpE b ++ bnksL B).take ((cmpE b).length + i) = cmpE b ++ (bnksL B).take i := by
          rw [List.take_append, List.take_of_length_le (by omega), show (cmpE b).length + i - (cmpE b).length = i by omega]
        rw [h2, if_neg (by rw [List.length_append]; omega), List.take_left' rfl, List.drop_left' rfl, exp_bank hb]
        have ih := rd_cut B i (fun x hx => h x (List.mem_cons_of_mem _ hx)) (by omega)
        show (if (0 : Int) = 0 then (if (rdB B.length ((bnksL B).take i)).2.2 = 0 then _ else _) else _ : List (List Int) × List Int × Int).2.2 = 9
        rw [if_pos rfl, ih, if_neg (by decide)]
end Go.Proofs.YtifcdojaocndhaaDoor

/- Snapshots as plain lists of bytes: written, read back, cut off, with more behind them, of another version. -/
namespace Go.Proofs.YtifcdojaocndhaaDoor
set_option linter.unusedVariables false
set_option linter.unusedSimpArgs false

def b1 (b : Bool) : Int := if b then 1 else 0
theorem b1_bd (b : Bool) : 0 ≤ b1 b ∧ b1 b ≤ 1 := by cases b <;> decide
def bitsS (c : Cu) (M : Mem) : Int := b1 c.iff + 2 * b1 c.ei + 4 * b1 c.halt + 8 * b1 M.locked + 16 * b1 (decide (M.screen = 3))
def ulaS (p : Po) : Int := p.border + 8 * b1 p.mic + 16 * b1 p.beep
def headS (c : Cu) (M : Mem) (p : Po) : List Int := [3, c.r0, c.r1, c.r2, c.r3, c.r4, c.r5, c.r6, c.r7, c.f, c.sp, c.pc, bitsS c M, M.page, ulaS p]
def snapL (c : Cu) (M : Mem) (p : Po) : List Int := headS c M p ++ bnksL M.ram
structure Sn where
  c : Cu
  m : Mem
  p : Po
def bitAt (n : Int) (k : Int) : Bool := decide (n / k % 2 = 1)
/-- the processor that a text tells -/
def cuS (t : List Int) : Cu := ⟨t.getD 1 0, t.getD 2 0, t.getD 3 0, t.getD 4 0, t.getD 5 0, t.getD 6 0, t.getD 7 0, t.getD 8 0, t.getD 9 0, t.getD 10 0, t.getD 11 0, bitAt (t.getD 12 0) 1, bitAt (t.getD 12 0) 2, bitAt (t.getD 12 0) 4⟩
def poS (u : Int) : Po := ⟨31, 31, 31, 31, 31, 31, 31, 31, 0, u % 8, bitAt u 8, bitAt u 16⟩
def meS (rom : List Int) (t : List Int) (B : List (List Int)) : Mem := ⟨rom, B, t.getD 13 0, 1 + 2 * (t.getD 12 0 / 16 % 2), bitAt (t.getD 12 0) 8⟩
def sn0 : Sn := ⟨⟨0, 0, 0, 0, 0, 0, 0, 0, 0, 0, 0, false, false, false⟩, mem0, ⟨0, 0, 0, 0, 0, 0, 0, 0, 0, 0, false, false⟩⟩
def rdS (rom t : List Int) : Sn × Int :=
  if t.length < 15 then (sn0, 9) else if t.getD 0 0 ≠ 3 then (sn0, 18)
  else if 31 < t.getD 12 0 ∨ 31 < t.getD 14 0 ∨ 3 < t.getD 13 0 ∨ okC (cuS t) = false then (sn0, 3)
  else if (rdB 4 (t.drop 15)).2.2 ≠ 0 then (sn0, (rdB 4 (t.drop 15)).2.2) else if (rdB 4 (t.drop 15)).2.1 ≠ [] then (sn0, 8)
  else (⟨cuS t, meS rom t (rdB 4 (t.drop 15)).1, poS (t.getD 14 0)⟩, 0)
structure Right (c : Cu) (M : Mem) (p : Po) : Prop where
  c : okC c = true
  ram : M.ram.length = 4
  bank : ∀ b ∈ M.ram, b.length = 64
  page : 0 ≤ M.page ∧ M.page ≤ 3
  screen : M.screen = 1 ∨ M.screen = 3
  border : 0 ≤ p.border ∧ p.border ≤ 7
theorem headS_len (c : Cu) (M : Mem) (p : Po) : (headS c M p).length = 15 := rfl
theorem bits_back (a b c d e : Bool) : bitAt (b1 a + 2 * b1 b + 4 * b1 c + 8 * b1 d + 16 * b1 e) 1 = a ∧ bitAt (b1 a + 2 * b1 b + 4 * b1 c + 8 * b1 d + 16 * b1 e) 2 = b ∧ bitAt (b1 a + 2 * b1 b + 4 * b1 c + 8 * b1 d + 16 * b1 e) 4 = c ∧ bitAt (b1 a + 2 * b1 b + 4 * b1 c + 8 * b1 d + 16 * b1 e) 8 = d ∧ (b1 a + 2 * b1 b + 4 * b1 c + 8 * b1 d + 16 * b1 e) / 16 % 2 = b1 e := by
  cases a <;> cases b <;> cases c <;> cases d <;> cases e <;> decide
theorem ula_back {n : Int} (h0 : 0 ≤ n) (h1 : n ≤ 7) (a b : Bool) : (n + 8 * b1 a + 16 * b1 b) % 8 = n ∧ bitAt (n + 8 * b1 a + 16 * b1 b) 8 = a ∧ bitAt (n + 8 * b1 a + 16 * b1 b) 16 = b := by
  rcases (by omega : n = 0 ∨ n = 1 ∨ n = 2 ∨ n = 3 ∨ n = 4 ∨ n = 5 ∨ n = 6 ∨ n = 7) with rfl | rfl | rfl | rfl | rfl | rfl | rfl | rfl
  all_goals (cases a <;> cases b <;> decide)
/-- the head of a text that goes on anyhow -/
theorem rdS_head {c : Cu} {M : Mem} {p : Po} (h : Right c M p) (rom R : List Int) : rdS rom (headS c M p ++ R) =
    if (rdB 4 R).2.2 ≠ 0 then (sn0, (rdB 4 R).2.2) else if (rdB 4 R).2.1 ≠ [] then (sn0, 8) else (⟨c, ⟨rom, (rdB 4 R).1, M.page, M.screen, M.locked⟩, ⟨31, 31, 31, 31, 31, 31, 31, 31, 0, p.border, p.mic, p.beep⟩⟩, 0) := by
  obtain ⟨k1, k2, k3, k4, k5⟩ := bits_back c.iff c.ei c.halt M.locked (decide (M.screen = 3))
  obtain ⟨u1, u2, u3⟩ := ula_back h.border.1 h.border.2 p.mic p.beep
  have ec : cuS (headS c M p ++ R) = c := by
    show (⟨c.r0, c.r1, c.r2, c.r3, c.r4, c.r5, c.r6, c.r7, c.f, c.sp, c.pc, bitAt (bitsS c M) 1, bitAt (bitsS c M) 2, bitAt (bitsS c M) 4⟩ : Cu) = c
    unfold bitsS
    rw [k1, k2, k3]
  have em : ∀ B, meS rom (headS c M p ++ R) B = ⟨rom, B, M.page, M.screen, M.locked⟩ := fun B => by
    show (⟨rom, B, M.page, 1 + 2 * (bitsS c M / 16 % 2), bitAt (bitsS c M) 8⟩ : Mem) = _
    unfold bitsS
    rw [k4, k5]
    rcases h.screen with e | e
    · rw [e]; rfl
    · rw [e]; rfl
  have ep : poS ((headS c M p ++ R).getD 14 0) = ⟨31, 31, 31, 31, 31, 31, 31, 31, 0, p.border, p.mic, p.beep⟩ := by
    show poS (ulaS p) = _
    unfold poS ulaS
    rw [u1, u2, u3]
  have hd : (headS c M p ++ R).drop 15 = R := List.drop_left' rfl
  have b2 := b1_bd c.iff
  have b3 := b1_bd c.ei
  have b4 := b1_bd c.halt
  have b5 := b1_bd M.locked
  have b6 := b1_bd (decide (M.screen = 3))
  have b7 := b1_bd p.mic
  have b8 := b1_bd p.beep
  have t12 : (headS c M p ++ R).getD 12 0 = bitsS c M := rfl
  have t13 : (headS c M p ++ R).getD 13 0 = M.page := rfl
  have t14 : (headS c M p ++ R).getD 14 0 = ulaS p := rfl
  unfold rdS
  rw [if_neg (by rw [List.length_append, headS_len]; omega), if_neg (fun hh => hh rfl), if_neg, hd, ec, em, ep]
  rw [ec, t12, t13, t14, h.c]
  have hp := h.page
  have hb := h.border
  unfold bitsS ulaS
  intro hh
  rcases hh with hh | hh | hh | hh
  · omega
  · omega
  · omega
  · cases hh
/-- a snapshot is read back -/
theorem snap_back {c : Cu} {M : Mem} {p : Po} (h : Right c M p) (rom : List Int) : rdS rom (snapL c M p) = (⟨c, ⟨rom, M.ram, M.page, M.screen, M.locked⟩, ⟨31, 31, 31, 31, 31, 31, 31, 31, 0, p.border, p.mic, p.beep⟩⟩, 0) := by
  unfold snapL
  rw [rdS_head h]
  have := rd_back M.ram [] h.bank
  rw [List.append_nil, h.ram] at this
  rw [this]
  rfl
/-- with more behind it, it is none -/
theorem snap_more {c : Cu} {M : Mem} {p : Po} (h : Right c M p) (rom : List Int) (x : Int) (X : List Int) : (rdS rom (snapL c M p ++ x :: X)).2 = 8 := by
  unfold snapL
  rw [List.append_assoc, rdS_head h]
  have := rd_back M.ram (x :: X) h.bank
  rw [h.ram] at this
  rw [this]
  rfl
/-- cut off it is at its end -/
theorem snap_cut {c : Cu} {M : Mem} {p : Po} (h : Right c M p) (rom : List Int) {j : Nat} (hj : j < (snapL c M p).length) : (rdS rom ((snapL c M p).take j)).2 = 9 := by
  by_cases h15 : j < 15
  · unfold rdS
    rw [if_pos (by rw [List.length_take]; omega)]
  · obtain ⟨i, rfl⟩ : ∃ i, j = 15 + i := ⟨j - 15, by omega⟩
    unfold snapL at hj ⊢
    rw [List.length_append, headS_len] at hj
    have e : (headS c M p ++ bnksL M.ram).take (15 + i) = headS c M p ++ (bnksL M.ram).take i := by
      rw [List.take_append, List.take_of_length_le (by rw [headS_len]; omega), headS_len, show 15 + i - 15 = i by omega]
    rw [e, rdS_head h]
    have := rd_cut M.ram i h.bank (by omega)
    rw [h.ram] at this
    rw [this]
    rfl
/-- of another version it is none -/
theorem snap_bent {t : List Int} (rom : List Int) (h : 15 ≤ t.length) (h0 : t.getD 0 0 ≠ 3) : (rdS rom t).2 = 18 := by
  unfold rdS
  rw [if_neg (by omega), if_pos h0]
end Go.Proofs.YtifcdojaocndhaaDoor

/- Snapshots as values; what the specification says of a right one. -/
namespace Go.Proofs.YtifcdojaocndhaaDoor
open Go.ChangeShapes Go.WideShapes Go.ChangeAt Go.RowKit
set_option linter.unusedVariables false
set_option linter.unusedSimpArgs false

abbrev snA (s : Sn) (vr vm : Value) : Array Value := #[.int .i64 s.c.r0, .int .i64 s.c.r1, .int .i64 s.c.r2, .int .i64 s.c.r3, .int .i64 s.c.r4, .int .i64 s.c.r5, .int .i64 s.c.r6, .int .i64 s.c.r7, .int .i64 s.c.f, .int .i64 s.c.sp, .int .i64 s.c.pc, .bool s.c.iff, .bool s.c.ei, .bool s.c.halt,
  vr, vm, .int .i64 s.m.page, .int .i64 s.m.screen, .bool s.m.locked,
  .int .i64 s.p.k0, .int .i64 s.p.k1, .int .i64 s.p.k2, .int .i64 s.p.k3, .int .i64 s.p.k4, .int .i64 s.p.k5, .int .i64 s.p.k6, .int .i64 s.p.k7, .int .i64 s.p.joy, .int .i64 s.p.border, .bool s.p.mic, .bool s.p.beep]
/-- a snapshot that can be read in this world -/
def SnR (w : World) (v : Value) (s : Sn) : Prop := ∃ vr vm, v = .agg (snA s vr vm) ∧ MemR w (memV vr vm s.m.page s.m.screen s.m.locked) s.m
def okSn (s : Sn) : Bool := okC s.c && okM s.m && okPo s.p
theorem SnR.below {w w' : World} {v : Value} {s : Sn} (h : SnR w v s) (hb : Below w.heap.size w w') : SnR w' v s := by
  obtain ⟨vr, vm, e, h1⟩ := h
  exact ⟨vr, vm, e, h1.below hb⟩
theorem blk_range {W : World} {b : Nat} {A : Array Value} (h : Blk W b A) (X cs Y : List Value) (e : A.toList = X ++ cs ++ Y) : W.rangeAt b X.length cs := fun j v hv => by
  rw [h.cell, ← Array.getElem?_toList, e, List.append_assoc, List.getElem?_append_right (by omega), Nat.add_sub_cancel_left, List.getElem?_append_left (List.getElem?_eq_some_iff.1 hv).1]
  exact hv
theorem sn_cpu {W : World} {b : Nat} {s : Sn} {vr vm : Value} (h : Blk W b (snA s vr vm)) : W.rangeAt b 0 (cuA s.c).toList := blk_range h [] _ _ rfl
theorem sn_mem {W : World} {b : Nat} {s : Sn} {vr vm : Value} (h : Blk W b (snA s vr vm)) : W.rangeAt b 14 [vr, vm, .int .i64 s.m.page, .int .i64 s.m.screen, .bool s.m.locked] := blk_range h (cuA s.c).toList _ (poA s.p).toList rfl
theorem sn_po {W : World} {b : Nat} {s : Sn} {vr vm : Value} (h : Blk W b (snA s vr vm)) : W.rangeAt b 19 (poA s.p).toList := blk_range h ((cuA s.c).toList ++ [vr, vm, .int .i64 s.m.page, .int .i64 s.m.screen, .bool s.m.locked]) _ [] rfl
theorem ld_want {ops : Array Oper} {rest : List Oper} {op : Oper} {a : Act} {w : World} {Q : Exit → Act → World → Prop} (ty : TypeId) (x : Operand) (ho : op.op = .load ty x)
    (b o : Nat) (hx : a.eval x = .pointer (some ⟨b, o, none⟩)) (hw : Region.wanted op (yielded ops a.tmps) = true) (cs : List Value) (d : TypeDesc) (hc : w.rangeAt b o cs)
    (hu : Tryd.prog.underlying ty = some d) (hd : d.isRow = true) (hi : (Tryd.prog.info? ty).map (·.size) = some cs.length)
    (h : wpList Tryd.prog ops Q rest (a.put op.dst (.agg cs.toArray)) w) : wpList Tryd.prog ops Q (op :: rest) a w :=
  wpList_step fun _ hK => by
    rw [if_pos hw]
    exact wp_load_mid ty x ho b o hx cs d hc hu hd hi (hK _ _ h)
theorem szC (c : Cu) : (Tryd.prog.info? 26).map (·.size) = some (cuA c).toList.length := by
  show _ = some 14
  kernel_rfl
theorem szM (vr vm a b c : Value) : (Tryd.prog.info? 30).map (·.size) = some [vr, vm, a, b, c].length := by
  show _ = some 5
  kernel_rfl
theorem szP (p : Po) : (Tryd.prog.info? 32).map (·.size) = some (poA p).toList.length := by
  show _ = some 12
  kernel_rfl
end Go.Proofs.YtifcdojaocndhaaDoor

/- The bits of a snapshot: a list of truths as a number. -/
namespace Go.Proofs.YtifcdojaocndhaaDoor
open Go.ChangeShapes Go.WideShapes Go.ChangeAt Go.RowKit
set_option linter.unusedVariables false
set_option linter.unusedSimpArgs false

def bitsN (f : Nat → Bool) : Nat → Nat
  | 0 => 0
  | k + 1 => bitsN f k + (if f k = true then 2 ^ k else 0)
theorem bitsN_lt (f : Nat → Bool) (k : Nat) : bitsN f k < 2 ^ k := by
  induction k with
  | zero => exact Nat.one_pos
  | succ k ih =>
    have e : 2 ^ (k + 1) = 2 ^ k + 2 ^ k := by rw [Nat.pow_succ]; omega
    unfold bitsN
    split <;> omega
theorem lor_pow {n k : Nat} (h : n < 2 ^ k) : Nat.lor n (2 ^ k) = n + 2 ^ k := by
  have := Nat.two_pow_add_eq_or_of_lt h 1
  rw [Nat.mul_one, Nat.add_comm] at this
  rw [this]
  exact Nat.or_comm _ _
/-- one more bit, as the program counts -/
theorem bits_or {n k : Nat} (h : n < 2 ^ k) (hk : k < 8) : bits .or .i64 (n : Int) ((2 ^ k : Nat) : Int) = ((n + 2 ^ k : Nat) : Int) := by
  have h8 : 2 ^ k ≤ 2 ^ 8 := Nat.pow_le_pow_right (by omega) (by omega)
  rw [bOr n (2 ^ k) (by omega) (by omega), lor_pow h]
theorem bits_or0 {n : Nat} (h : n < 256) : bits .or .i64 (n : Int) 0 = (n : Int) := by
  have := bOr n 0 (by omega) (by omega)
  rw [show ((0 : Nat) : Int) = 0 from rfl] at this
  rw [this]
  congr 1
  exact Nat.or_zero n
theorem bitE_spec (b : Bool) (w : World) : Calls Tryd.prog 151 #[.bool b] w fun e w' => e = .returned (.int .i64 (if b = true then 1 else 0)) ∧ w' = w := by
  cases b
  all_goals
    go_enter Tryd.func151, Tryd.ntmps151
    go_wp2
    go_ret
    exact ⟨rfl, rfl⟩
end Go.Proofs.YtifcdojaocndhaaDoor

/- A drawn region by slots, where a slot that is read is written later on: what was not written yet is as it was. -/
namespace Go.Proofs.YtifcdojaocndhaaDoor
open Go.ChangeShapes Go.WideShapes Go.ChangeAt Go.RowKit
set_option linter.unusedVariables false
set_option linter.unusedSimpArgs false

def Kept (ops : Array Oper) (A : Act) (f : Nat → Bool) (a : Act) : Prop := ∀ i s, dstAt ops i = some s → f i = false → a.tmps.getD s undef = A.tmps.getD s undef
theorem Kept.put {ops : Array Oper} {A : Act} {f : Nat → Bool} {a : Act} (h : Kept ops A f a) (hsz : a.tmps.size = A.tmps.size) (hin : ∀ i s, dstAt ops i = some s → s < A.tmps.size) {i : Nat} {o : Oper} (ho : ops[i]? = some o) (v : Value) (hd : dstOK ops = true) : Kept ops A (fun j => j == i || f j) (a.put o.dst v) := by
  have hdi : dstAt ops i = o.dst := by unfold dstAt; rw [ho]; rfl
  intro j s hj hfj
  have hfj : (j == i || f j) = false := hfj
  rw [Bool.or_eq_false_iff] at hfj
  obtain ⟨h1, h2⟩ := hfj
  cases hds : o.dst with
  | none => exact h j s hj h2
  | some k =>
    have hk : k < a.tmps.size := by rw [hsz]; exact hin i k (by rw [hdi, hds])
    rw [put_get a k s v hk]
    by_cases e : k = s
    · subst e
      have : i = j := dst_apart hd (by rw [hdi, hds]) hj
      subst this
      simp at h1
    · rw [if_neg e]
      exact h j s hj h2
theorem wp_region_slotsK {P : Program} {ops : Array Oper} {Q : Exit → Act → World → Prop} {id : Nat} {A : Act} {w1 : World} {E : Type} (V : Nat → E → Value) (J : (Nat → Bool) → E → World → Prop) (hm : P.follows .mixedOrders = true) (hac : acyc .any ops = true) (hd : dstOK ops = true) (hin : ∀ i s, dstAt ops i = some s → s < A.tmps.size)
    (step : ∀ (f : Nat → Bool) (e : E) (a : Act) (w : World) (i : Nat) (o : Oper), i < ops.size → ops[i]? = some o → f i = false → (∀ d ∈ o.after, Region.binds .any d = true → f d.on = true) → J f e w → Fr ops A f (fun j => V j e) a → Kept ops A f a →
      ∀ K : Act → World → Prop, (∀ v e' w', v = V i e' → (∀ j, f j = true → V j e' = V j e) → J (fun j => j == i || f j) e' w' → K (a.put o.dst v) w') → if Region.wanted o (yielded ops a.tmps) = true then Oper.wp P o a w K Q else K (a.put o.dst undef) w)
    (e0 : E) (start : J (fun _ => false) e0 w1.drew)
    (done : ∀ (f : Nat → Bool) (e : E) (a : Act) (w : World), (∀ i, i < ops.size → f i = true) → J f e w → Fr ops A f (fun j => V j e) a → Q .normal a w) :
    (Code.region id ops true).wp P Q A w1 := by
  refine wp_region_inv hm (fun listed a w => ∃ f e, listed = arrOf ops.size f ∧ Fr ops A f (fun j => V j e) a ∧ Kept ops A f a ∧ J f e w) ?_ hac ?_ ?_ ?_
  · rintro listed a w i o ⟨f, e, rfl, hF, hP, hJ⟩ hun ho hdep K hK
    have hi : i < ops.size := (Array.getElem?_eq_some_iff.1 ho).1
    rw [arrOf_get, if_pos hi] at hun
    refine step f e a w i o hi ho hun (fun d hd1 hd2 => ?_) hJ hF hP K (fun v e' w' hv hV hJ' => hK _ _ ⟨_, e', arrOf_set _ _ _, hF.put hd hin ho hun (V' := fun j => V j e') hv hV, hP.put hF.size hin ho v hd, hJ'⟩)
    have := hdep d hd1 hd2
    rw [arrOf_get] at this
    split at this
    · exact this
    · cases this
  · rintro listed a w ⟨f, e, rfl, _⟩
    simp [arrOf]
  · rintro listed a w ⟨f, e, rfl, hF, hP, hJ⟩ hall
    refine done f e a w (fun i hi => ?_) hJ hF
    have := hall i hi
    rw [arrOf_get, if_pos hi] at this
    exact this
  · exact ⟨fun _ => false, e0, arrOf_false _, ⟨rfl, rfl, fun _ _ => rfl, fun i s _ h => by cases h⟩, fun _ _ _ _ => rfl, start⟩
end Go.Proofs.YtifcdojaocndhaaDoor

/- The head of a snapshot's text: the specification's drawn region. -/
namespace Go.Proofs.YtifcdojaocndhaaDoor
open Go.ChangeShapes Go.WideShapes Go.ChangeAt Go.RowKit
set_option linter.unusedVariables false
set_option linter.unusedSimpArgs false

theorem gtr13 {a b c : World} {r : Option Nat} (h : a.grownBy b r) (k : b.grownBy c r) : a.grownBy c r :=
  ⟨k.os.trans h.os, k.tape.trans h.tape, k.output.trans h.output, Nat.le_trans h.size k.size, fun i hi hne => (k.block i (Nat.lt_of_lt_of_le hi h.size) hne).trans (h.block i hi hne)⟩
theorem ne_own {w : World} {base : Nat} {t : TypeId} {z n g : Nat} {v : Value} {L : List Value} (h : w.ownsRow base t z v n L) (hg : w.heap.size ≤ g) : some g ≠ v.ownBlock := fun e => by
  have := (h.lt g e.symm).2
  omega
end Go.Proofs.YtifcdojaocndhaaDoor
