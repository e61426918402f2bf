/- Snapshots as values; what the specification says of a right one. -/
import Derived.Test.YtghcagibdcblnaaGreatDoorF05
import Derived.Deep.MidRow
import Derived.Test.YtghcagibdcblnaaGreatDoorF04
namespace Go.Proofs.YtghcagibdcblnaaGreatDoor
open Go.ChangeShapes Go.WideShapes Go.ChangeAt Go.RowKit
set_option linter.unusedVariables false
set_option linter.unusedSimpArgs false

abbrev snA (s : Sn) (vr vm : Value) : Array Value := #[.int .i64 s.c.r0, .int .i64 s.c.r1, .int .i64 s.c.r2, .int .i64 s.c.r3, .int .i64 s.c.r4, .int .i64 s.c.r5, .int .i64 s.c.r6, .int .i64 s.c.r7, .int .i64 s.c.f, .int .i64 s.c.sp, .int .i64 s.c.pc, .bool s.c.iff, .bool s.c.ei, .bool s.c.halt,
  vr, vm, .int .i64 s.m.page, .int .i64 s.m.screen, .bool s.m.locked,
  .int .i64 s.p.k0, .int .i64 s.p.k1, .int .i64 s.p.k2, .int .i64 s.p.k3, .int .i64 s.p.k4, .int .i64 s.p.k5, .int .i64 s.p.k6, .int .i64 s.p.k7, .int .i64 s.p.joy, .int .i64 s.p.border, .bool s.p.mic, .bool s.p.beep]
/-- a snapshot that can be read in this world -/
def SnR (w : World) (v : Value) (s : Sn) : Prop := ∃ vr vm, v = .agg (snA s vr vm) ∧ MemR w (memV vr vm s.m.page s.m.screen s.m.locked) s.m
def okSn (s : Sn) : Bool := okC s.c && okM s.m && okPo s.p
theorem SnR.below {w w' : World} {v : Value} {s : Sn} (h : SnR w v s) (hb : Below w.heap.size w w') : SnR w' v s := by
  obtain ⟨vr, vm, e, h1⟩ := h
  exact ⟨vr, vm, e, h1.below hb⟩
theorem blk_range {W : World} {b : Nat} {A : Array Value} (h : Blk W b A) (X cs Y : List Value) (e : A.toList = X ++ cs ++ Y) : W.rangeAt b X.length cs := fun j v hv => by
  rw [h.cell, ← Array.getElem?_toList, e, List.append_assoc, List.getElem?_append_right (by omega), Nat.add_sub_cancel_left, List.getElem?_append_left (List.getElem?_eq_some_iff.1 hv).1]
  exact hv
theorem sn_cpu {W : World} {b : Nat} {s : Sn} {vr vm : Value} (h : Blk W b (snA s vr vm)) : W.rangeAt b 0 (cuA s.c).toList := blk_range h [] _ _ rfl
theorem sn_mem {W : World} {b : Nat} {s : Sn} {vr vm : Value} (h : Blk W b (snA s vr vm)) : W.rangeAt b 14 [vr, vm, .int .i64 s.m.page, .int .i64 s.m.screen, .bool s.m.locked] := blk_range h (cuA s.c).toList _ (poA s.p).toList rfl
theorem sn_po {W : World} {b : Nat} {s : Sn} {vr vm : Value} (h : Blk W b (snA s vr vm)) : W.rangeAt b 19 (poA s.p).toList := blk_range h ((cuA s.c).toList ++ [vr, vm, .int .i64 s.m.page, .int .i64 s.m.screen, .bool s.m.locked]) _ [] rfl
theorem ld_want {ops : Array Oper} {rest : List Oper} {op : Oper} {a : Act} {w : World} {Q : Exit → Act → World → Prop} (ty : TypeId) (x : Operand) (ho : op.op = .load ty x)
    (b o : Nat) (hx : a.eval x = .pointer (some ⟨b, o, none⟩)) (hw : Region.wanted op (yielded ops a.tmps) = true) (cs : List Value) (d : TypeDesc) (hc : w.rangeAt b o cs)
    (hu : Tryz.prog.underlying ty = some d) (hd : d.isRow = true) (hi : (Tryz.prog.info? ty).map (·.size) = some cs.length)
    (h : wpList Tryz.prog ops Q rest (a.put op.dst (.agg cs.toArray)) w) : wpList Tryz.prog ops Q (op :: rest) a w :=
  wpList_step fun _ hK => by
    rw [if_pos hw]
    exact wp_load_mid ty x ho b o hx cs d hc hu hd hi (hK _ _ h)
theorem szC (c : Cu) : (Tryz.prog.info? 25).map (·.size) = some (cuA c).toList.length := by
  show _ = some 14
  kernel_rfl
theorem szM (vr vm a b c : Value) : (Tryz.prog.info? 29).map (·.size) = some [vr, vm, a, b, c].length := by
  show _ = some 5
  kernel_rfl
theorem szP (p : Po) : (Tryz.prog.info? 31).map (·.size) = some (poA p).toList.length := by
  show _ = some 12
  kernel_rfl
set_option maxRecDepth 100000 in
theorem snok_spec (v : Value) (s : Sn) (w : World) (h : SnR w v s) (hl : s.m.rom.length ≤ 1000000000) (hm : s.m.ram.length ≤ 1000000000) (hr : ∀ i, i < s.m.ram.length → (s.m.ram.getD i []).length ≤ 1000000000) :
    Calls Tryz.prog 17 #[v] w fun e w' => e = .returned (.bool (okSn s)) ∧ Below w.heap.size w w' := by
  obtain ⟨vr, vm, rfl, hv⟩ := h
  have hB := hid ((Below.refl w.heap.size w).alloc (Nat.le_refl _) (.cells (snA s vr vm) 33))
  have q := hid (Blk.new w (snA s vr vm) 33)
  have hE : okSn s = (okC s.c && okM s.m && okPo s.p) := rfl
  have hC := hid (fun w1 => cpuok_spec s.c w1)
  have hM := hid (fun w1 (b1 : Below w.heap.size w w1) => ok_spec (memV vr vm s.m.page s.m.screen s.m.locked) s.m w1 (hv.below b1) hl hm hr)
  have hP := hid (fun w1 => pok_spec s.p w1)
  rw [hE]
  cases h1 : okC s.c
  · rw [h1] at hC
    go_enter Tryz.func17, Tryz.ntmps17
    go_upto_region 1 with fail
    obtain ⟨V, hV⟩ : ∃ V, w.alloc (Obj.cells (snA s vr vm) 33) = V := ⟨_, rfl⟩
    rw [hV] at hB q ⊢
    clear hV hM hP hE hv
    have x1 := hid (sn_cpu q.out)
    go_wp2_with (refine wpList_load_mid rfl 25 _ rfl w.heap.size 0 rfl (cuA s.c).toList _ x1.out Tryz.underlying25 rfl (szC s.c) ?_)
    refine (hC.out _).mono ?_
    rintro e w1 ⟨rfl, hb⟩
    have hB1 := hid (new_trans hB.out hb)
    clear hb hB q x1
    go_wp2_with fail
    go_ret
    exact ⟨rfl, hB1.out⟩
  · rw [h1] at hC
    cases h2 : okM s.m
    · rw [h2] at hM
      go_enter Tryz.func17, Tryz.ntmps17
      go_upto_region 1 with fail
      obtain ⟨V, hV⟩ : ∃ V, w.alloc (Obj.cells (snA s vr vm) 33) = V := ⟨_, rfl⟩
      rw [hV] at hB q ⊢
      clear hV hE hv hP
      have x1 := hid (sn_cpu q.out)
      go_wp2_with (refine wpList_load_mid rfl 25 _ rfl w.heap.size 0 rfl (cuA s.c).toList _ x1.out Tryz.underlying25 rfl (szC s.c) ?_)
      refine (hC.out _).mono ?_
      rintro e w1 ⟨rfl, hb⟩
      have hB1 := hid (new_trans hB.out hb)
      have q1 := hid (q.out.below hb q.out.lt)
      clear hb hB q x1
      have x2 := hid (sn_mem q1.out)
      go_wp2_with (first | (guard_target = wpList _ _ _ (Oper.mk _ (Op.load 29 _) _ _ _ (some _) :: _) _ _; refine ld_want 29 _ rfl w.heap.size 14 rfl (by kernel_rfl) [vr, vm, .int .i64 s.m.page, .int .i64 s.m.screen, .bool s.m.locked] _ x2.out Tryz.underlying29 rfl (szM _ _ _ _ _) ?_; simp only [Act.put, List.setIfInBounds_toArray, List.set_cons_zero, List.set_cons_succ]) | (guard_target = wpList _ _ _ (Oper.mk _ _ _ _ _ (some _) :: _) _ _; refine wpList_step (fun _ _ => ?_); rw [if_pos (by kernel_rfl)]; go_simp))
      refine (hM.out _ hB1.out).mono ?_
      rintro e w2 ⟨rfl, hb⟩
      have hB2 := hid (new_trans hB1.out hb)
      have q2 := hid (q1.out.below hb q1.out.lt)
      clear hb hB1 q1 x2
      clear q2
      go_wp2_with fail
      go_ret
      exact ⟨rfl, hB2.out⟩
    · rw [h2] at hM
      generalize okPo s.p = Q at *
      go_enter Tryz.func17, Tryz.ntmps17
      go_upto_region 1 with fail
      obtain ⟨V, hV⟩ : ∃ V, w.alloc (Obj.cells (snA s vr vm) 33) = V := ⟨_, rfl⟩
      rw [hV] at hB q ⊢
      clear hV hE hv 
      have x1 := hid (sn_cpu q.out)
      go_wp2_with (refine wpList_load_mid rfl 25 _ rfl w.heap.size 0 rfl (cuA s.c).toList _ x1.out Tryz.underlying25 rfl (szC s.c) ?_)
      refine (hC.out _).mono ?_
      rintro e w1 ⟨rfl, hb⟩
      have hB1 := hid (new_trans hB.out hb)
      have q1 := hid (q.out.below hb q.out.lt)
      clear hb hB q x1
      have x2 := hid (sn_mem q1.out)
      go_wp2_with (first | (guard_target = wpList _ _ _ (Oper.mk _ (Op.load 29 _) _ _ _ (some _) :: _) _ _; refine ld_want 29 _ rfl w.heap.size 14 rfl (by kernel_rfl) [vr, vm, .int .i64 s.m.page, .int .i64 s.m.screen, .bool s.m.locked] _ x2.out Tryz.underlying29 rfl (szM _ _ _ _ _) ?_; simp only [Act.put, List.setIfInBounds_toArray, List.set_cons_zero, List.set_cons_succ]) | (guard_target = wpList _ _ _ (Oper.mk _ _ _ _ _ (some _) :: _) _ _; refine wpList_step (fun _ _ => ?_); rw [if_pos (by kernel_rfl)]; go_simp))
      refine (hM.out _ hB1.out).mono ?_
      rintro e w2 ⟨rfl, hb⟩
      have hB2 := hid (new_trans hB1.out hb)
      have q2 := hid (q1.out.below hb q1.out.lt)
      clear hb hB1 q1 x2
      have x3 := hid (sn_po q2.out)
      go_wp2_with (first | (guard_target = wpList _ _ _ (Oper.mk _ (Op.load 31 _) _ _ _ (some _) :: _) _ _; refine ld_want 31 _ rfl w.heap.size 19 rfl (by kernel_rfl) (poA s.p).toList _ x3.out Tryz.underlying31 rfl (szP s.p) ?_; simp only [Act.put, List.setIfInBounds_toArray, List.set_cons_zero, List.set_cons_succ]) | (guard_target = wpList _ _ _ (Oper.mk _ _ _ _ _ (some _) :: _) _ _; refine wpList_step (fun _ _ => ?_); rw [if_pos (by kernel_rfl)]; go_simp))
      refine (hP.out _).mono ?_
      rintro e w3 ⟨rfl, hb⟩
      have hB3 := hid (new_trans hB2.out hb)
      clear hb hB2 q2 x3
      go_wp2_with fail
      go_ret
      exact ⟨rfl, hB3.out⟩
end Go.Proofs.YtghcagibdcblnaaGreatDoor

/- The bits of a snapshot: a list of truths as a number. -/
namespace Go.Proofs.YtghcagibdcblnaaGreatDoor
open Go.ChangeShapes Go.WideShapes Go.ChangeAt Go.RowKit
set_option linter.unusedVariables false
set_option linter.unusedSimpArgs false

def bitsN (f : Nat → Bool) : Nat → Nat
  | 0 => 0
  | k + 1 => bitsN f k + (if f k = true then 2 ^ k else 0)
theorem bitsN_lt (f : Nat → Bool) (k : Nat) : bitsN f k < 2 ^ k := by
  induction k with
  | zero => exact Nat.one_pos
  | succ k ih =>
    have e : 2 ^ (k + 1) = 2 ^ k + 2 ^ k := by rw [Nat.pow_succ]; omega
    unfold bitsN
    split <;> omega
theorem lor_pow {n k : Nat} (h : n < 2 ^ k) : Nat.lor n (2 ^ k) = n + 2 ^ k := by
  have := Nat.two_pow_add_eq_or_of_lt h 1
  rw [Nat.mul_one, Nat.add_comm] at this
  rw [this]
  exact Nat.or_comm _ _
/-- one more bit, as the program counts -/
theorem bits_or {n k : Nat} (h : n < 2 ^ k) (hk : k < 8) : bits .or .i64 (n : Int) ((2 ^ k : Nat) : Int) = ((n + 2 ^ k : Nat) : Int) := by
  have h8 : 2 ^ k ≤ 2 ^ 8 := Nat.pow_le_pow_right (by omega) (by omega)
  rw [bOr n (2 ^ k) (by omega) (by omega), lor_pow h]
theorem bits_or0 {n : Nat} (h : n < 256) : bits .or .i64 (n : Int) 0 = (n : Int) := by
  have := bOr n 0 (by omega) (by omega)
  rw [show ((0 : Nat) : Int) = 0 from rfl] at this
  rw [this]
  congr 1
  exact Nat.or_zero n
theorem bitE_spec (b : Bool) (w : World) : Calls Tryz.prog 67 #[.bool b] w fun e w' => e = .returned (.int .i64 (if b = true then 1 else 0)) ∧ w' = w := by
  cases b
  all_goals
    go_enter Tryz.func67, Tryz.ntmps67
    go_wp2
    go_ret
    exact ⟨rfl, rfl⟩
set_option maxRecDepth 100000 in
set_option maxHeartbeats 1000000 in
theorem bits13_spec (f : Nat → Bool) (n : Nat) (g : Nat) (w : World) (hn : n ≤ 5) (hc : ∀ i, i < n → w.cell? ⟨g, i, none⟩ = some (.bool (f i))) :
    Calls Tryz.prog 37 #[.slice (some ⟨g, 0, none⟩) n n] w fun e w' => e = .returned (.int .i64 (bitsN f n : Nat)) ∧ w' = w := by
  replace hc := hid hc
  have hlt := hid (bitsN_lt f)
  have hS : Hid (∀ k, bitsN f (k + 1) = bitsN f k + (if f k = true then 2 ^ k else 0)) := fun k => rfl
  have h0 : Hid (bitsN f 0 = 0) := rfl
  generalize bitsN f = B at *
  go_enter Tryz.func37, Tryz.ntmps37
  go_wp2
  go_loop [3, 4] (fun s i => ∃ k : Nat, k ≤ n ∧ i = .int .i64 k ∧ s = .int .i64 (B k : Nat)) (fun s i => n - (intOf i).toNat)
  case atStart => exact ⟨0, by omega, rfl, by rw [h0.out]; rfl⟩
  case round =>
    obtain ⟨k, hk, rfl, rfl⟩ := hrel
    by_cases hkn : k < n
    · have hx := hc.out k hkn
      have hB1 := hS.out k
      have hB2 := hlt.out k
      have o1 := bits_or hB2 (by omega)
      have o2 := bits_or0 (n := B k) (by have : 2 ^ k ≤ 2 ^ 8 := Nat.pow_le_pow_right (by omega) (by omega); omega)
      clear hc hlt hS h0
      have hk5 : k = 0 ∨ k = 1 ∨ k = 2 ∨ k = 3 ∨ k = 4 := by omega
      cases hf : f k
      · rw [hf] at hx
        rw [hf, if_neg (by decide)] at hB1
        replace hB1 := hid hB1
        clear o1 hB2
        rcases hk5 with rfl | rfl | rfl | rfl | rfl
        · have hv : B 1 = B 0 + 0 := hB1.out
          go_wp2_with (go_at_call 67; refine (bitE_spec _ _).mono ?_; rintro e w' ⟨rfl, hww⟩; obtain rfl := hww.symm)
          refine ⟨⟨1, by omega, rfl, by rw [hv]; rfl⟩, by simp only [intOf]; omega⟩
        · have hv : B 2 = B 1 + 0 := hB1.out
          go_wp2_with (go_at_call 67; refine (bitE_spec _ _).mono ?_; rintro e w' ⟨rfl, hww⟩; obtain rfl := hww.symm)
          refine ⟨⟨2, by omega, rfl, by rw [hv]; rfl⟩, by simp only [intOf]; omega⟩
        · have hv : B 3 = B 2 + 0 := hB1.out
          go_wp2_with (go_at_call 67; refine (bitE_spec _ _).mono ?_; rintro e w' ⟨rfl, hww⟩; obtain rfl := hww.symm)
          refine ⟨⟨3, by omega, rfl, by rw [hv]; rfl⟩, by simp only [intOf]; omega⟩
        · have hv : B 4 = B 3 + 0 := hB1.out
          go_wp2_with (go_at_call 67; refine (bitE_spec _ _).mono ?_; rintro e w' ⟨rfl, hww⟩; obtain rfl := hww.symm)
          refine ⟨⟨4, by omega, rfl, by rw [hv]; rfl⟩, by simp only [intOf]; omega⟩
        · have hv : B 5 = B 4 + 0 := hB1.out
          go_wp2_with (go_at_call 67; refine (bitE_spec _ _).mono ?_; rintro e w' ⟨rfl, hww⟩; obtain rfl := hww.symm)
          refine ⟨⟨5, by omega, rfl, by rw [hv]; rfl⟩, by simp only [intOf]; omega⟩
      · rw [hf] at hx
        rw [hf, if_pos rfl] at hB1
        replace hB1 := hid hB1
        clear o2 hB2
        rcases hk5 with rfl | rfl | rfl | rfl | rfl
        · have hv : B 1 = B 0 + 1 := hB1.out
          have o3 : bits .or .i64 (B 0 : Int) 1 = ((B 0 + 1 : Nat) : Int) := o1
          clear o1
          go_wp2_with (go_at_call 67; refine (bitE_spec _ _).mono ?_; rintro e w' ⟨rfl, hww⟩; obtain rfl := hww.symm)
          refine ⟨⟨1, by omega, rfl, by rw [hv]; rfl⟩, by simp only [intOf]; omega⟩
        · have hv : B 2 = B 1 + 2 := hB1.out
          have o3 : bits .or .i64 (B 1 : Int) 2 = ((B 1 + 2 : Nat) : Int) := o1
          clear o1
          go_wp2_with (go_at_call 67; refine (bitE_spec _ _).mono ?_; rintro e w' ⟨rfl, hww⟩; obtain rfl := hww.symm)
          refine ⟨⟨2, by omega, rfl, by rw [hv]; rfl⟩, by simp only [intOf]; omega⟩
        · have hv : B 3 = B 2 + 4 := hB1.out
          have o3 : bits .or .i64 (B 2 : Int) 4 = ((B 2 + 4 : Nat) : Int) := o1
          clear o1
          go_wp2_with (go_at_call 67; refine (bitE_spec _ _).mono ?_; rintro e w' ⟨rfl, hww⟩; obtain rfl := hww.symm)
          refine ⟨⟨3, by omega, rfl, by rw [hv]; rfl⟩, by simp only [intOf]; omega⟩
        · have hv : B 4 = B 3 + 8 := hB1.out
          have o3 : bits .or .i64 (B 3 : Int) 8 = ((B 3 + 8 : Nat) : Int) := o1
          clear o1
          go_wp2_with (go_at_call 67; refine (bitE_spec _ _).mono ?_; rintro e w' ⟨rfl, hww⟩; obtain rfl := hww.symm)
          refine ⟨⟨4, by omega, rfl, by rw [hv]; rfl⟩, by simp only [intOf]; omega⟩
        · have hv : B 5 = B 4 + 16 := hB1.out
          have o3 : bits .or .i64 (B 4 : Int) 16 = ((B 4 + 16 : Nat) : Int) := o1
          clear o1
          go_wp2_with (go_at_call 67; refine (bitE_spec _ _).mono ?_; rintro e w' ⟨rfl, hww⟩; obtain rfl := hww.symm)
          refine ⟨⟨5, by omega, rfl, by rw [hv]; rfl⟩, by simp only [intOf]; omega⟩
    · obtain rfl : k = n := by omega
      clear hc hlt hS h0
      go_wp2
      go_ret
      exact ⟨rfl, rfl⟩
end Go.Proofs.YtghcagibdcblnaaGreatDoor
