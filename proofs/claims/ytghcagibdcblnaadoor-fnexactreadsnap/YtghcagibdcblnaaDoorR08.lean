/- What the specification and the program say of ports that are right, and of new ones. -/
import Derived.Test.YtghcagibdcblnaaDoorR06
import Derived.Test.YtghcagibdcblnaaDoorR00
import Derived.Test.YtghcagibdcblnaaDoorEbr
import Derived.Deep.MidRow
namespace Go.Proofs.YtghcagibdcblnaaDoor
open Go.ChangeShapes Go.WideShapes Go.ChangeAt Go.RowKit
set_option linter.unusedVariables false
set_option linter.unusedSimpArgs false

theorem iswP_impl (n a b : Int) (w : World) : Calls Tryd.prog 60 #[.int .i64 n, .int .i64 a, .int .i64 b] w fun e w' => e = .returned (.bool (inB n a b)) ∧ w' = w := by
  go_enter Tryd.func60, Tryd.ntmps60
  go_wp2
  all_goals go_ret
  all_goals exact ⟨ret_bool (by rw [Bool.eq_iff_iff]; simp [inB]; try omega), rfl⟩
theorem isbP_impl (n : Int) (w : World) : Calls Tryd.prog 58 #[.int .i64 n] w fun e w' => e = .returned (.bool (inB n 0 255)) ∧ w' = w := by
  go_enter Tryd.func58, Tryd.ntmps58
  go_wp2
  all_goals go_ret
  all_goals exact ⟨ret_bool (by rw [Bool.eq_iff_iff]; simp [inB]; try omega), rfl⟩
theorem kyP_at (c : Po) (k : Nat) (hk : k < 8) (w : World) : (Instr.index 22 (.agg #[.int .i64 c.k0, .int .i64 c.k1, .int .i64 c.k2, .int .i64 c.k3, .int .i64 c.k4, .int .i64 c.k5, .int .i64 c.k6, .int .i64 c.k7]) (.int .i64 (k : Int))).run Tryd.prog w = .ok (.int .i64 (c.key k)) w := by
  rcases (by omega : k = 0 ∨ k = 1 ∨ k = 2 ∨ k = 3 ∨ k = 4 ∨ k = 5 ∨ k = 6 ∨ k = 7) with rfl | rfl | rfl | rfl | rfl | rfl | rfl | rfl <;> kernel_rfl
set_option maxRecDepth 100000 in
set_option maxHeartbeats 1000000 in
theorem pok_impl (c : Po) (w : World) : Calls Tryd.prog 71 #[poV c] w fun e w' => e = .returned (.bool (okPo c)) ∧ Below w.heap.size w w' := by
  have hno : Hid (∀ k, k < 8 → inB (c.key k) 0 31 = false → okPo c = false) := fun k hk => keys_no hk
  have hall : Hid ((∀ i, i < 8 → inB (c.key i) 0 31 = true) → okPo c = (inB c.joy 0 31 && inB c.border 0 7)) := fun h => by unfold okPo; rw [keys_all h, Bool.true_and]
  have hB := hid ((Below.refl w.heap.size w).alloc (Nat.le_refl _) (.cells (poA c) 30))
  have q1 := (Blk.new w (poA c) 30).cell
  have hix := hid (kyP_at c)
  obtain ⟨Q, hQ⟩ : ∃ Q, okPo c = Q := ⟨_, rfl⟩
  rw [hQ] at hno hall ⊢
  clear hQ
  go_enter Tryd.func71, Tryd.ntmps71
  go_upto_region 1 with fail
  obtain ⟨V, hV⟩ : ∃ V, w.alloc (Obj.cells (poA c) 30) = V := ⟨_, rfl⟩
  rw [hV] at hB q1 ⊢
  clear hV
  go_wp2
  go_loop [7] (fun i => ∃ k : Nat, k ≤ 8 ∧ i = .int .i64 k ∧ ∀ j, j < k → inB (c.key j) 0 31 = true) (fun i => 8 - (intOf i).toNat)
  case atStart => exact ⟨0, by omega, rfl, fun j hj => by omega⟩
  case round =>
    obtain ⟨k, hk, rfl, hj⟩ := hrel
    by_cases hlt : k < 8
    · have i1 := hix.out k hlt
      cases hb : inB (c.key k) 0 31
      · have hE := hid (hno.out k hlt hb)
        clear hj hno hall hk
        generalize c.key k = y at *
        go_wp2_with (go_at_call 60; refine (iswP_impl _ _ _ _).mono ?_; rintro e w' ⟨rfl, rfl⟩; rw [hb])
        go_ret
        exact ⟨ret_bool hE.out.symm, hB.out⟩
      · have hj2 : Hid (∀ j, j < k + 1 → inB (c.key j) 0 31 = true) := fun j hj1 => by
          by_cases e : j = k
          · rw [e]; exact hb
          · exact hj j (by omega)
        clear hj hno hall hk
        generalize c.key k = y at *
        go_wp2_with (go_at_call 60; refine (iswP_impl _ _ _ _).mono ?_; rintro e w' ⟨rfl, rfl⟩; rw [hb])
        go_round
        case rel => exact ⟨k + 1, by omega, by go_num, hj2.out⟩
        case measure => simp [intOf]; omega
    · obtain rfl : k = 8 := by omega
      have hE := hall.out hj
      clear hj hno hall hk hlt hix
      cases h1 : inB c.joy 0 31
      · rw [h1] at hE
        replace hE := hid hE
        go_wp2_with (go_at_call 60; refine (iswP_impl _ _ _ _).mono ?_; rintro e w' ⟨rfl, rfl⟩; rw [h1])
        go_ret
        exact ⟨ret_bool (by rw [hE.out]; rfl), hB.out⟩
      · rw [h1] at hE
        replace hE := hid hE
        go_wp2_with (go_at_call 60; refine (iswP_impl _ _ _ _).mono ?_; rintro e w' ⟨rfl, rfl⟩; try rw [h1])
        go_ret
        exact ⟨ret_bool (by rw [hE.out]; simp), hB.out⟩
/-- new ports -/
abbrev neP : Po := ⟨31, 31, 31, 31, 31, 31, 31, 31, 0, 7, false, false⟩
/-- new ports while the first k rows are laid -/
def nkZ (k i : Nat) : Value := .int .i64 (if i < k then 31 else 0)
def nkA (k : Nat) : Array Value := #[nkZ k 0, nkZ k 1, nkZ k 2, nkZ k 3, nkZ k 4, nkZ k 5, nkZ k 6, nkZ k 7, .int .i64 0, .int .i64 7, .bool false, .bool false]
theorem nkA_all : nkA 8 = poA neP := rfl
theorem nkA_succ (k : Nat) (hk : k < 8) : (nkA k).setIfInBounds k (.int .i64 31) = nkA (k + 1) := by
  rcases eight hk with rfl | rfl | rfl | rfl | rfl | rfl | rfl | rfl <;> rfl
theorem nkA_at (k : Nat) (hk : k < 8) : (nkA k)[k]? = some (.int .i64 0) := by
  rcases eight hk with rfl | rfl | rfl | rfl | rfl | rfl | rfl | rfl <;> rfl
set_option maxRecDepth 100000 in
set_option maxHeartbeats 1000000 in
theorem newpo_spec (w : World) : Calls Tryd.prog 17 #[] w fun e w' => e = .returned (poV neP) ∧ Below w.heap.size w w' := by
  have hs := hid (two_in (w := w) (poA zeP) (nkA 0) 30 30)
  go_enter Tryd.func17, Tryd.ntmps17
  go_wp2
  go_loopw [2] (fun i wr => ∃ k : Nat, k ≤ 8 ∧ i = .int .i64 k ∧ Blk wr w.heap.size (poA zeP) ∧ Blk wr (w.heap.size + 1) (nkA k) ∧ Below w.heap.size w wr) (fun i _ => 8 - (intOf i).toNat)
  case atStart => exact ⟨0, by omega, rfl, hs.out⟩
  case round =>
    obtain ⟨k, hk, rfl, q0, q1, hB⟩ := hrel
    clear hs
    by_cases hlt : k < 8
    · have x1 := q1.cell k
      rw [nkA_at k hlt] at x1
      have f1 := q1.frozen k
      have q2 := q1.set k (.int .i64 31)
      rw [nkA_succ k hlt] at q2
      have hn : Hid (Blk (wr.setCell ⟨w.heap.size + 1, k, none⟩ (.int .i64 31)) w.heap.size (poA zeP) ∧ Blk (wr.setCell ⟨w.heap.size + 1, k, none⟩ (.int .i64 31)) (w.heap.size + 1) (nkA (k + 1)) ∧ Below w.heap.size w (wr.setCell ⟨w.heap.size + 1, k, none⟩ (.int .i64 31))) := ⟨q0.other (by simp) _, q2, hB.setCell (p := ⟨w.heap.size + 1, k, none⟩) (by simp only []; omega) _⟩
      clear q0 q1 hB q2
      go_wp2
      go_roundw
      case rel => exact ⟨k + 1, by omega, by go_num, hn.out⟩
      case measure => simp [intOf]; omega
    · obtain rfl : k = 8 := by omega
      rw [nkA_all] at q1
      have x0 := q0.cell
      have f0 := q0.frozen
      have l0 := q0.lt
      have x1 := q1.cell
      replace hB := hid hB
      clear q0 q1
      go_wp2
      refine bodyPost_ret (v := poV neP) (by simp [results, Tryd.results17, go_sem, x0]) rfl ⟨rfl, ?_⟩
      repeat refine Below.setCell ?_ (by first | omega | (simp; done) | (simp; omega)) _
      exact hB.out
set_option maxRecDepth 100000 in
set_option maxHeartbeats 1000000 in
theorem newpo_impl (w : World) : Calls Tryd.prog 57 #[] w fun e w' => e = .returned (poV neP) ∧ Below w.heap.size w w' := by
  have hs := hid (two_in (w := w) (poA zeP) (nkA 0) 30 30)
  go_enter Tryd.func57, Tryd.ntmps57
  go_wp2
  go_loopw [4] (fun i wr => ∃ k : Nat, k ≤ 8 ∧ i = .int .i64 k ∧ Blk wr w.heap.size (poA zeP) ∧ Blk wr (w.heap.size + 1) (nkA k) ∧ Below w.heap.size w wr) (fun i _ => 8 - (intOf i).toNat)
  case atStart => exact ⟨0, by omega, rfl, hs.out⟩
  case round =>
    obtain ⟨k, hk, rfl, q0, q1, hB⟩ := hrel
    clear hs
    by_cases hlt : k < 8
    · have x1 := q1.cell k
      rw [nkA_at k hlt] at x1
      have f1 := q1.frozen k
      have q2 := q1.set k (.int .i64 31)
      rw [nkA_succ k hlt] at q2
      have hn : Hid (Blk (wr.setCell ⟨w.heap.size + 1, k, none⟩ (.int .i64 31)) w.heap.size (poA zeP) ∧ Blk (wr.setCell ⟨w.heap.size + 1, k, none⟩ (.int .i64 31)) (w.heap.size + 1) (nkA (k + 1)) ∧ Below w.heap.size w (wr.setCell ⟨w.heap.size + 1, k, none⟩ (.int .i64 31))) := ⟨q0.other (by simp) _, q2, hB.setCell (p := ⟨w.heap.size + 1, k, none⟩) (by simp only []; omega) _⟩
      clear q0 q1 hB q2
      go_wp2
      go_roundw
      case rel => exact ⟨k + 1, by omega, by go_num, hn.out⟩
      case measure => simp [intOf]; omega
    · obtain rfl : k = 8 := by omega
      rw [nkA_all] at q1
      have x0 := q0.cell
      have f0 := q0.frozen
      have l0 := q0.lt
      have x1 := q1.cell
      replace hB := hid hB
      clear q0 q1
      go_wp2
      refine bodyPost_ret (v := poV neP) (by simp [results, Tryd.results57, go_sem, x0]) rfl ⟨rfl, ?_⟩
      repeat refine Below.setCell ?_ (by first | omega | (simp; done) | (simp; omega)) _
      exact hB.out
end Go.Proofs.YtghcagibdcblnaaDoor

/- Snapshots as values; what the specification says of a right one. -/
namespace Go.Proofs.YtghcagibdcblnaaDoor
open Go.ChangeShapes Go.WideShapes Go.ChangeAt Go.RowKit
set_option linter.unusedVariables false
set_option linter.unusedSimpArgs false

abbrev snA (s : Sn) (vr vm : Value) : Array Value := #[.int .i64 s.c.r0, .int .i64 s.c.r1, .int .i64 s.c.r2, .int .i64 s.c.r3, .int .i64 s.c.r4, .int .i64 s.c.r5, .int .i64 s.c.r6, .int .i64 s.c.r7, .int .i64 s.c.f, .int .i64 s.c.sp, .int .i64 s.c.pc, .bool s.c.iff, .bool s.c.ei, .bool s.c.halt,
  vr, vm, .int .i64 s.m.page, .int .i64 s.m.screen, .bool s.m.locked,
  .int .i64 s.p.k0, .int .i64 s.p.k1, .int .i64 s.p.k2, .int .i64 s.p.k3, .int .i64 s.p.k4, .int .i64 s.p.k5, .int .i64 s.p.k6, .int .i64 s.p.k7, .int .i64 s.p.joy, .int .i64 s.p.border, .bool s.p.mic, .bool s.p.beep]
/-- a snapshot that can be read in this world -/
def SnR (w : World) (v : Value) (s : Sn) : Prop := ∃ vr vm, v = .agg (snA s vr vm) ∧ MemR w (memV vr vm s.m.page s.m.screen s.m.locked) s.m
def okSn (s : Sn) : Bool := okC s.c && okM s.m && okPo s.p
theorem SnR.below {w w' : World} {v : Value} {s : Sn} (h : SnR w v s) (hb : Below w.heap.size w w') : SnR w' v s := by
  obtain ⟨vr, vm, e, h1⟩ := h
  exact ⟨vr, vm, e, h1.below hb⟩
theorem blk_range {W : World} {b : Nat} {A : Array Value} (h : Blk W b A) (X cs Y : List Value) (e : A.toList = X ++ cs ++ Y) : W.rangeAt b X.length cs := fun j v hv => by
  rw [h.cell, ← Array.getElem?_toList, e, List.append_assoc, List.getElem?_append_right (by omega), Nat.add_sub_cancel_left, List.getElem?_append_left (List.getElem?_eq_some_iff.1 hv).1]
  exact hv
theorem sn_cpu {W : World} {b : Nat} {s : Sn} {vr vm : Value} (h : Blk W b (snA s vr vm)) : W.rangeAt b 0 (cuA s.c).toList := blk_range h [] _ _ rfl
theorem sn_mem {W : World} {b : Nat} {s : Sn} {vr vm : Value} (h : Blk W b (snA s vr vm)) : W.rangeAt b 14 [vr, vm, .int .i64 s.m.page, .int .i64 s.m.screen, .bool s.m.locked] := blk_range h (cuA s.c).toList _ (poA s.p).toList rfl
theorem sn_po {W : World} {b : Nat} {s : Sn} {vr vm : Value} (h : Blk W b (snA s vr vm)) : W.rangeAt b 19 (poA s.p).toList := blk_range h ((cuA s.c).toList ++ [vr, vm, .int .i64 s.m.page, .int .i64 s.m.screen, .bool s.m.locked]) _ [] rfl
theorem ld_want {ops : Array Oper} {rest : List Oper} {op : Oper} {a : Act} {w : World} {Q : Exit → Act → World → Prop} (ty : TypeId) (x : Operand) (ho : op.op = .load ty x)
    (b o : Nat) (hx : a.eval x = .pointer (some ⟨b, o, none⟩)) (hw : Region.wanted op (yielded ops a.tmps) = true) (cs : List Value) (d : TypeDesc) (hc : w.rangeAt b o cs)
    (hu : Tryd.prog.underlying ty = some d) (hd : d.isRow = true) (hi : (Tryd.prog.info? ty).map (·.size) = some cs.length)
    (h : wpList Tryd.prog ops Q rest (a.put op.dst (.agg cs.toArray)) w) : wpList Tryd.prog ops Q (op :: rest) a w :=
  wpList_step fun _ hK => by
    rw [if_pos hw]
    exact wp_load_mid ty x ho b o hx cs d hc hu hd hi (hK _ _ h)
theorem szC (c : Cu) : (Tryd.prog.info? 24).map (·.size) = some (cuA c).toList.length := by
  show _ = some 14
  kernel_rfl
theorem szM (vr vm a b c : Value) : (Tryd.prog.info? 28).map (·.size) = some [vr, vm, a, b, c].length := by
  show _ = some 5
  kernel_rfl
theorem szP (p : Po) : (Tryd.prog.info? 30).map (·.size) = some (poA p).toList.length := by
  show _ = some 12
  kernel_rfl
end Go.Proofs.YtghcagibdcblnaaDoor

/- The bits of a snapshot: a list of truths as a number. -/
namespace Go.Proofs.YtghcagibdcblnaaDoor
open Go.ChangeShapes Go.WideShapes Go.ChangeAt Go.RowKit
set_option linter.unusedVariables false
set_option linter.unusedSimpArgs false

def bitsN (f : Nat → Bool) : Nat → Nat
  | 0 => 0
  | k + 1 => bitsN f k + (if f k = true then 2 ^ k else 0)
theorem bitsN_lt (f : Nat → Bool) (k : Nat) : bitsN f k < 2 ^ k := by
  induction k with
  | zero => exact Nat.one_pos
  | succ k ih =>
    have e : 2 ^ (k + 1) = 2 ^ k + 2 ^ k := by rw [Nat.pow_succ]; omega
    unfold bitsN
    split <;> omega
theorem lor_pow {n k : Nat} (h : n < 2 ^ k) : Nat.lor n (2 ^ k) = n + 2 ^ k := by
  have := Nat.two_pow_add_eq_or_of_lt h 1
  rw [Nat.mul_one, Nat.add_comm] at this
  rw [this]
  exact Nat.or_comm _ _
/-- one more bit, as the program counts -/
theorem bits_or {n k : Nat} (h : n < 2 ^ k) (hk : k < 8) : bits .or .i64 (n : Int) ((2 ^ k : Nat) : Int) = ((n + 2 ^ k : Nat) : Int) := by
  have h8 : 2 ^ k ≤ 2 ^ 8 := Nat.pow_le_pow_right (by omega) (by omega)
  rw [bOr n (2 ^ k) (by omega) (by omega), lor_pow h]
theorem bits_or0 {n : Nat} (h : n < 256) : bits .or .i64 (n : Int) 0 = (n : Int) := by
  have := bOr n 0 (by omega) (by omega)
  rw [show ((0 : Nat) : Int) = 0 from rfl] at this
  rw [this]
  congr 1
  exact Nat.or_zero n
end Go.Proofs.YtghcagibdcblnaaDoor
