/- What the machine's copy does. -/
import Derived.Test.YtgpmpfikeindfaaGreatDoorV10
import Derived.BigRegion
import Derived.Deep.RegionWith
namespace Go.Proofs.YtgpmpfikeindfaaGreatDoor
open Go.ChangeShapes Go.WideShapes Go.ChangeAt Go.RowKit
set_option linter.unusedVariables false
set_option linter.unusedSimpArgs false

set_option maxRecDepth 100000 in
set_option maxHeartbeats 2000000 in
theorem copy_spec (w : Bs) (W : World) (X : Nat) (x : Mx) (n : Nat) (vr vm cv : Value) (h : NSt w W X x n vr vm cv) (hl : x.cy.length ≤ 900) (hk : okM x.m = true) (hc : x.c.ok) :
    Calls Tryz.prog 118 #[.pointer (some ⟨X, 0, none⟩)] W fun e W' => e = .returned (.tuple #[]) ∧ ∃ vr' vm' cv', NSt w W' X x.copy n vr' vm' cv' := by
  obtain ⟨hb, _, hd, _, hh, _, ha, hf, _, _⟩ := hc
  have hv := (peek_byte hk hh).2
  have x0 := h.blk.cell
  have hrd := hid (read_spec x.c.h w W X x n vr vm cv h (by omega) hk hh)
  obtain ⟨v, hv2⟩ : ∃ v, peekN x.m x.c.h = v := ⟨_, rfl⟩
  rw [hv2] at hrd hv
  have r1 := and255 (x.c.h + 1) (by omega)
  have r2 := and255 (x.c.d + 1) (by omega)
  have r3 := and255m x.c.b hb
  push_cast at r1 r2
  have m1 : ((x.c.h : Int) + 1) % 256 = (((x.c.h + 1) % 256 : Nat) : Int) := by omega
  have m2 : ((x.c.d : Int) + 1) % 256 = (((x.c.d + 1) % 256 : Nat) : Int) := by omega
  have m3 : ((x.c.b : Int) - 1) % 256 = (((x.c.b + 255) % 256 : Nat) : Int) := by omega
  have hX : x.copy = { ((x.read x.c.h).write x.c.d v) with c := { x.c with h := (x.c.h + 1) % 256, d := (x.c.d + 1) % 256, b := (x.c.b + 255) % 256, f := copyF x.c.f (v + x.c.a) ((x.c.b + 255) % 256) } } := by rw [← hv2]; rfl
  rw [hX]
  clear hX hv2 h
  generalize (x.c.h + 1) % 256 = s1 at *
  generalize (x.c.d + 1) % 256 = s2 at *
  generalize (x.c.b + 255) % 256 = s3 at *
  go_enter Tryz.func118, Tryz.ntmps118
  go_wp2_with fail
  refine hrd.out.mono ?_
  rintro e w1 ⟨rfl, cv1, h1⟩
  have x1 : ∀ i, w1.cell? ⟨X, i, none⟩ = (macA x.c vr vm x.m.page x.m.screen x.m.locked cv1 n)[i]? := h1.blk.cell
  have hwr := hid (write_spec x.c.d v w w1 X (x.read x.c.h) n vr vm cv1 h1 (by show (x.cy ++ [_]).length ≤ 1000; simp; omega) hk hd)
  clear hrd x0 h1
  go_wp2_with fail
  refine hwr.out.mono ?_
  rintro e w2 ⟨rfl, vr2, vm2, cv2, h2⟩
  clear hwr x1
  obtain ⟨Y, hY⟩ : ∃ Y, (x.read x.c.h).write x.c.d v = Y := ⟨_, rfl⟩
  have hYc : Y.c = x.c := by rw [← hY]; rfl
  rw [hY] at h2
  have x2 : ∀ i, w2.cell? ⟨X, i, none⟩ = (macA x.c vr2 vm2 Y.m.page Y.m.screen Y.m.locked cv2 n)[i]? := by rw [← hYc]; exact h2.blk.cell
  have f2 := h2.blk.frozen
  have z2 := h2.blk.lt
  go_upto_region 2 with fail
  go_region
  obtain ⟨w3, hW3⟩ : ∃ V, (w2.setCell ⟨X, 4, none⟩ (.int .i64 (s1 : Int))).drew = V := ⟨_, rfl⟩
  have h3 := h2.put 4 (.int .i64 (s1 : Int)) { Y.c with h := s1 } rfl
  have h3 := h3.drew
  rw [hW3] at h3 ⊢
  clear hW3 x2 f2 z2 h2
  have x3 : ∀ i, w3.cell? ⟨X, i, none⟩ = (macA { x.c with h := s1 } vr2 vm2 Y.m.page Y.m.screen Y.m.locked cv2 n)[i]? := by rw [← hYc]; exact h3.blk.cell
  have f3 := h3.blk.frozen
  have z3 := h3.blk.lt
  go_upto_region 3 with fail
  go_region
  obtain ⟨w4, hW4⟩ : ∃ V, (w3.setCell ⟨X, 2, none⟩ (.int .i64 (s2 : Int))).drew = V := ⟨_, rfl⟩
  have h4 := h3.put 2 (.int .i64 (s2 : Int)) { Y.c with h := s1, d := s2 } rfl
  have h4 := h4.drew
  rw [hW4] at h4 ⊢
  clear hW4 x3 f3 z3 h3
  have x4 : ∀ i, w4.cell? ⟨X, i, none⟩ = (macA { x.c with h := s1, d := s2 } vr2 vm2 Y.m.page Y.m.screen Y.m.locked cv2 n)[i]? := by rw [← hYc]; exact h4.blk.cell
  have f4 := h4.blk.frozen
  have z4 := h4.blk.lt
  go_upto_region 4 with fail
  go_region
  obtain ⟨w5, hW5⟩ : ∃ V, (w4.setCell ⟨X, 0, none⟩ (.int .i64 (s3 : Int))).drew = V := ⟨_, rfl⟩
  have h5 := h4.put 0 (.int .i64 (s3 : Int)) { Y.c with h := s1, d := s2, b := s3 } rfl
  have h5 := h5.drew
  rw [hW5] at h5 ⊢
  clear hW5 x4 f4 z4 h4
  have x5 : ∀ i, w5.cell? ⟨X, i, none⟩ = (macA { x.c with h := s1, d := s2, b := s3 } vr2 vm2 Y.m.page Y.m.screen Y.m.locked cv2 n)[i]? := by rw [← hYc]; exact h5.blk.cell
  have f5 := h5.blk.frozen
  have z5 := h5.blk.lt
  obtain ⟨N1, hN1⟩ : ∃ N1, v + x.c.a = N1 := ⟨_, rfl⟩
  have hN2 : (v : Int) + (x.c.a : Int) = (N1 : Int) := by omega
  have a1 : bits .and .i64 (x.c.f : Int) 193 = ((Nat.land x.c.f 193 : Nat) : Int) := bAnd x.c.f 193 (by omega) (by omega)
  have a2 : bits .and .i64 (N1 : Int) 8 = ((Nat.land N1 8 : Nat) : Int) := bAnd N1 8 (by omega) (by omega)
  have a3 : bits .and .i64 ((N1 : Int) * 16) 32 = ((Nat.land (N1 * 16) 32 : Nat) : Int) := by
    have e : (N1 : Int) * 16 = ((N1 * 16 : Nat) : Int) := by push_cast; rfl
    rw [e]
    exact bAnd (N1 * 16) 32 (by omega) (by omega)
  have l1 : Nat.land x.c.f 193 < 2 ^ 8 := Nat.and_lt_two_pow _ (by omega)
  have l2 : Nat.land N1 8 < 2 ^ 8 := Nat.and_lt_two_pow _ (by omega)
  have l3 : Nat.land (N1 * 16) 32 < 2 ^ 8 := Nat.and_lt_two_pow _ (by omega)
  have o1 : bits .or .i64 ((Nat.land x.c.f 193 : Nat) : Int) ((Nat.land N1 8 : Nat) : Int) = ((Nat.lor (Nat.land x.c.f 193) (Nat.land N1 8) : Nat) : Int) := bOr _ _ (by omega) (by omega)
  have l4 : Nat.lor (Nat.land x.c.f 193) (Nat.land N1 8) < 2 ^ 8 := Nat.or_lt_two_pow l1 l2
  have o2 : bits .or .i64 ((Nat.lor (Nat.land x.c.f 193) (Nat.land N1 8) : Nat) : Int) ((Nat.land (N1 * 16) 32 : Nat) : Int) = ((Nat.lor (Nat.lor (Nat.land x.c.f 193) (Nat.land N1 8)) (Nat.land (N1 * 16) 32) : Nat) : Int) := bOr _ _ (by omega) (by omega)
  have l5 : Nat.lor (Nat.lor (Nat.land x.c.f 193) (Nat.land N1 8)) (Nat.land (N1 * 16) 32) < 2 ^ 8 := Nat.or_lt_two_pow l4 l3
  obtain ⟨P4, hP4⟩ : ∃ P4, (if s3 = 0 then 0 else 4 : Nat) = P4 := ⟨_, rfl⟩
  obtain ⟨q, hq⟩ : ∃ q, ((s3 : Int) != 0) = q := ⟨_, rfl⟩
  have p4 : (4 : Int) * ((btN q : Nat) : Int) = (P4 : Int) := by
    rw [← hq, ← hP4]
    by_cases hs : s3 = 0
    · subst hs; rfl
    · have : ((s3 : Int) != 0) = true := by simp; omega
      rw [this, if_neg hs]; rfl
  have l6 : P4 < 2 ^ 8 := by rw [← hP4]; split <;> omega
  have o3 : bits .or .i64 ((Nat.lor (Nat.lor (Nat.land x.c.f 193) (Nat.land N1 8)) (Nat.land (N1 * 16) 32) : Nat) : Int) (P4 : Int) = ((copyF x.c.f N1 s3 : Nat) : Int) := by
    unfold copyF
    rw [hP4]
    exact bOr _ _ (by omega) (by omega)
  have n4 : (btN q : Nat) < 2 := by cases q <;> decide
  have hcf : copyF x.c.f N1 s3 < 2 ^ 8 := by
    unfold copyF
    rw [hP4]
    exact Nat.or_lt_two_pow l5 l6
  obtain ⟨R, hR⟩ : ∃ R, copyF x.c.f N1 s3 = R := ⟨_, rfl⟩
  rw [hR] at o3 hcf
  have hR2 := hid (show copyF x.c.f (v + x.c.a) s3 = R by rw [hN1, hR])
  clear hR hN1
  generalize Nat.lor (Nat.lor (Nat.land x.c.f 193) (Nat.land N1 8)) (Nat.land (N1 * 16) 32) = O2 at *
  generalize Nat.lor (Nat.land x.c.f 193) (Nat.land N1 8) = O1 at *
  generalize Nat.land x.c.f 193 = A1 at *
  generalize Nat.land N1 8 = A2 at *
  generalize Nat.land (N1 * 16) 32 = A3 at *
  have hbit := hid (fun W => bit_spec q W)
  generalize (btN q : Nat) = B at *
  clear r1 r2 r3 m1 m2 m3 hP4
  obtain ⟨M, hM⟩ : ∃ M : Nat, N1 * 16 = M := ⟨_, rfl⟩
  have hM2 : (N1 : Int) * 16 = (M : Int) := by omega
  rw [hM2] at a3
  have l7 : M < 2 ^ 20 := by omega
  have wr1 : IntKind.i64.wrap (M : Int) = (M : Int) := by rw [IntKind.wrap_i64]; omega
  have wr2 : IntKind.i64.wrap (P4 : Int) = (P4 : Int) := by rw [IntKind.wrap_i64]; omega
  have e1 := hid wr1
  have e2 := hid wr2
  clear wr1 wr2
  clear hM
  go_upto_region 6 with fail
  go_region_with (go_at_call 139; refine (hbit.out _).mono ?_; rintro e w' ⟨rfl, rfl⟩)
  all_goals simp only [e1.out, e2.out, a3, o2, o3]
  all_goals
    have h6 := (h5.put 8 (.int .i64 (R : Int)) { Y.c with h := s1, d := s2, b := s3, f := R } rfl).drew
    refine bodyPost_end (v := .tuple #[]) (by simp [results, Tryz.results118]) rfl ⟨rfl, vr2, vm2, cv2, ?_⟩
    rw [hR2.out, hY, ← hYc]
    exact h6
end Go.Proofs.YtgpmpfikeindfaaGreatDoor

/- What an instruction does, as plain numbers; the way to its arm. -/
namespace Go.Proofs.YtgpmpfikeindfaaGreatDoor
open Go.ChangeShapes Go.WideShapes Go.ChangeAt Go.RowKit
set_option linter.unusedVariables false
set_option linter.unusedSimpArgs false

def Mx.run (x : Mx) (n a b m : Nat) : Nat → Mx
  | 1 => (x.getX b).set a (x.getV b)
  | 2 => x.set a m
  | 3 => { x.read m with c := { x.c with a := peekN x.m m } }
  | 4 => x.write m x.c.a
  | 5 => (x.getX b).alu a (x.getV b)
  | 6 => x.alu a m
  | 7 => ({ x.getX a with c := { x.c with f := incF (x.getV a) x.c.f } } : Mx).set a (incV (x.getV a))
  | 8 => ({ x.getX a with c := { x.c with f := decF (x.getV a) x.c.f } } : Mx).set a (decV (x.getV a))
  | 9 => ({ x.getX b with c := { x.c with f := turnF a (x.getV b) (Nat.land x.c.f 1) } } : Mx).set b (turnV a (x.getV b) (Nat.land x.c.f 1))
  | 10 => { x.getX b with c := { x.c with f := tstF a (x.getV b) x.c.f } }
  | 11 => { x with c := { x.c with a := daaV x.c.a x.c.f, f := daaF x.c.a x.c.f } }
  | 12 => if holdN x.c.f a = true then { x with c := { x.c with pc := m } } else x
  | 13 => if holdN x.c.f a = true then { x.push x.c.pc with c := { (x.push x.c.pc).c with pc := m } } else x
  | 14 => if holdN x.c.f a = true then { x.popX with c := { x.popX.c with pc := x.popV } } else x
  | 15 => x.push (if a = 6 then x.c.f else x.c.reg a)
  | 16 => if a = 6 then { x.popX with c := { x.popX.c with f := x.popV } } else { x.popX with c := x.popX.c.put x.popV a }
  | 17 => { x.note 4 m n with c := { x.c with a := n, f := Nat.lor (Nat.land x.c.f 1) (szpN n) } }
  | 18 => x.note 5 m x.c.a
  | 19 => { x with c := { x.c with halt := true } }
  | 20 => { x with c := { x.c with iff := true, ei := true } }
  | 21 => { x with c := { x.c with iff := false, ei := false } }
  | 22 => x.copy
  | _ => x
theorem getX_c (x : Mx) (r : Nat) : (x.getX r).c = x.c := by unfold Mx.getX; split <;> rfl
theorem getX_m (x : Mx) (r : Nat) : (x.getX r).m = x.m := by unfold Mx.getX; split <;> rfl
theorem getX_l (x : Mx) (r : Nat) : (x.getX r).cy.length ≤ x.cy.length + 1 := by
  unfold Mx.getX
  split
  · show (x.cy ++ [_]).length ≤ _; simp
  · omega
theorem getV_lt {x : Mx} (hk : okM x.m = true) (hc : x.c.ok) (r : Nat) : x.getV r < 256 := by
  unfold Mx.getV
  split
  · exact (peek_byte hk hc.2.2.2.2.1).2
  · exact reg_lt hc r
end Go.Proofs.YtgpmpfikeindfaaGreatDoor

/- One step as plain numbers; the machine at first, and what it gives back. -/
namespace Go.Proofs.YtgpmpfikeindfaaGreatDoor
open Go.ChangeShapes Go.WideShapes Go.ChangeAt Go.RowKit
set_option linter.unusedVariables false
set_option linter.unusedSimpArgs false

/-- one step, as plain numbers -/
def stepP (c : Cp) (M : Mem) : Mx := ⟨{ c with ei := false }, M, [(1, c.pc, peekN M c.pc)]⟩
def stepQ (c : Cp) (M : Mem) : Mx :=
  if decL (peekN M c.pc) = 2 then { ({ stepP c M with c := { c with ei := false, pc := (c.pc + 1) % 256 } } : Mx).read ((c.pc + 1) % 256) with c := { c with ei := false, pc := (c.pc + 2) % 256 } }
  else { stepP c M with c := { c with ei := false, pc := (c.pc + 1) % 256 } }
def stepM (c : Cp) (M : Mem) (n : Nat) : Mx :=
  if c.halt = true then stepP c M
  else (stepQ c M).run n (decA (peekN M c.pc)).toNat (decB (peekN M c.pc) (peekN M ((c.pc + 1) % 256))).toNat (decN (peekN M c.pc) (peekN M ((c.pc + 1) % 256))).toNat (decO (peekN M c.pc)).toNat
/-- what a step gives back, as it lies in a world -/
structure Out (w W : World) (x : Mx) (vr vm cv : Value) : Prop where
  own : W.ownsRow w.heap.size 42 3 cv x.cy.length (cyV x.cy)
  mem : MemR (W.veil (fun b => cv.ownBlock == some b)) (memV vr vm x.m.page x.m.screen x.m.locked) x.m
  bel : Below w.heap.size w W
theorem NSt.start {w W : World} {k : List (Nat × Array Value)} {M : Mem} {vr vm : Value} (hB : Below w.heap.size w W) (hk : ∀ b A, (b, A) ∈ k → Blk W b A ∧ w.heap.size ≤ b) (hm : MemR w (memV vr vm M.page M.screen M.locked) M) (c : Cp) (n : Nat) (t : TypeId) :
    NSt ⟨w, k⟩ ((W.alloc (.cells #[] 42)).alloc (.cells (macA c vr vm M.page M.screen M.locked (.slice (some ⟨W.heap.size, 0, none⟩) 0 0) n) t)) (W.heap.size + 1) ⟨c, M, []⟩ n vr vm (.slice (some ⟨W.heap.size, 0, none⟩) 0 0) := by
  have hs := hB.size
  have hb1 : Below W.heap.size W ((W.alloc (.cells #[] 42)).alloc (.cells (macA c vr vm M.page M.screen M.locked (.slice (some ⟨W.heap.size, 0, none⟩) 0 0) n) t)) := ((Below.refl _ _).alloc (Nat.le_refl _) _).alloc (by simp) _
  have hb2 := hB.trans (hb1.mono hs)
  have q := Blk.new (W.alloc (.cells #[] 42)) (macA c vr vm M.page M.screen M.locked (.slice (some ⟨W.heap.size, 0, none⟩) 0 0) n) t
  rw [World.size_alloc] at q
  have o1 : (W.alloc (.cells #[] 42)).ownsRow w.heap.size 42 3 (.slice (some ⟨W.heap.size, 0, none⟩) 0 0) 0 [] := World.ownsRow_lit W #[] 0 hs (by decide) rfl
  refine ⟨q, own3_below o1 ((Below.refl _ _).alloc (Nat.le_refl _) _), ?_, by simp [Value.ownBlock], hb2, by show w.heap.size ≤ W.heap.size + 1; omega, fun b A hm => ?_⟩
  · refine hm.mono (fun b i u hu => ?_)
    have hlt : b < w.heap.size := World.block_lt_of_cell? w _ hu
    rw [veil_cell, vl_no (by omega) (by simp [Value.ownBlock]; omega) (fun A hA => by have := (hk b A hA).2; omega)]
    have e := hb2.block b hlt
    show World.cell? _ ⟨b, i, none⟩ = some u
    rw [World.cell?_of_block (w := w) (a := ⟨b, i, none⟩) e]
    exact hu
  · have hbk := (hk b A hm).1
    have hl := hbk.lt
    exact ⟨hbk.below hb1 hl, by omega, by simp [Value.ownBlock]; omega⟩
/-- cells of one block are set, one after another -/
def sets (W : World) (b : Nat) : Nat → List Value → World
  | _, [] => W
  | i, u :: t => sets (W.setCell ⟨b, i, none⟩ u) b (i + 1) t
theorem sets_grown (b : Nat) (l : List Value) : ∀ (W : World) (i : Nat), W.grownBy (sets W b i l) (some b) := by
  induction l with
  | nil => exact fun W i => ⟨rfl, rfl, rfl, Nat.le_refl _, fun _ _ _ => rfl⟩
  | cons u t ih =>
    intro W i
    have h1 := set_grown W b i u
    have h2 := ih (W.setCell ⟨b, i, none⟩ u) (i + 1)
    refine ⟨h2.os.trans h1.os, h2.tape.trans h1.tape, h2.output.trans h1.output, Nat.le_trans h1.size h2.size, fun k hk hne => (h2.block k (Nat.lt_of_lt_of_le hk h1.size) hne).trans (h1.block k hk hne)⟩
def setsA : Nat → List Value → Array Value → Array Value
  | _, [], A => A
  | i, u :: t, A => setsA (i + 1) t (A.setIfInBounds i u)
theorem sets_blk (b : Nat) (l : List Value) : ∀ (W : World) (i : Nat) (A : Array Value), Blk W b A → Blk (sets W b i l) b (setsA i l A) := by
  induction l with
  | nil => exact fun _ _ _ h => h
  | cons u t ih => exact fun W i A h => ih _ _ _ (h.set i u)
/-- the answer is laid down: the processor in block b, the memory in block g -/
theorem NSt.fin {w : World} {k : List (Nat × Array Value)} {W : World} {X b g : Nat} {x : Mx} {n : Nat} {vr vm cv : Value} {A B : Array Value} (h : NSt ⟨w, k⟩ W X x n vr vm cv) (h1 : (b, A) ∈ k) (h2 : (g, B) ∈ k) (hbg : b ≠ g) (lb : w.heap.size ≤ b) (lg : w.heap.size ≤ g) (L1 L2 : List Value) :
    Blk (sets (sets W b 0 L1) g 0 L2) b (setsA 0 L1 A) ∧ Blk (sets (sets W b 0 L1) g 0 L2) g (setsA 0 L2 B) ∧ Out w (sets (sets W b 0 L1) g 0 L2) x vr vm cv := by
  obtain ⟨q1, x1, c1⟩ := h.keep b A h1
  obtain ⟨q2, x2, c2⟩ := h.keep g B h2
  have g1 := sets_grown b L1 W 0
  have g2 := sets_grown g L2 (sets W b 0 L1) 0
  refine ⟨(sets_blk b L1 W 0 A q1).grown g2 (by simp [hbg]), sets_blk g L2 _ 0 B (q2.grown g1 (by simp; exact fun e => hbg e.symm)), (h.own.kept g1 (.inr c1)).kept g2 (.inr c2), ?_, (h.bel.grown g1 h.bel.size (fun y hy => by cases hy; exact lb)).grown g2 (Nat.le_trans h.bel.size g1.size) (fun y hy => by cases hy; exact lg)⟩
  have m1 := (h.mem.mono (cle_grown (q := vl k X cv) g1 (fun y e => by cases e; exact vl_in h1) (fun y _ hq => hq))).mono (cle_grown (q := vl k X cv) g2 (fun y e => by cases e; exact vl_in h2) (fun y _ hq => hq))
  refine m1.mono (fun y i u hu => ?_)
  rw [veil_cell] at hu ⊢
  cases hp : vl k X cv y
  · rw [hp] at hu
    have : (cv.ownBlock == some y) = false := by
      cases hh : (cv.ownBlock == some y)
      · rfl
      · rw [vl_own (by simpa using hh)] at hp; cases hp
    rw [this]
    exact hu
  · rw [hp] at hu; cases hu
theorem Out.drew {w W : World} {x : Mx} {vr vm cv : Value} (h : Out w W x vr vm cv) : Out w W.drew x vr vm cv := ⟨h.own, h.mem, h.bel.drew⟩
theorem NSt.heldC {w : World} {k : List (Nat × Array Value)} {W : World} {X s : Nat} {x : Mx} {n : Nat} {vr vm cv : Value} {c : Cp} {v0 v1 v2 v3 v4 : Value} (h : NSt ⟨w, (s, cpA c) :: (s + 1, #[v0, v1, v2, v3, v4]) :: k⟩ W X x n vr vm cv) :
    W.cell? ⟨s, 10, none⟩ = some (.int .i64 (c.pc : Int)) ∧ W.cell? ⟨s + 1, 0, none⟩ = some v0 ∧ W.cell? ⟨s + 1, 1, none⟩ = some v1 ∧ W.cell? ⟨s + 1, 2, none⟩ = some v2 ∧ W.cell? ⟨s + 1, 3, none⟩ = some v3 ∧ W.cell? ⟨s + 1, 4, none⟩ = some v4 := by
  have q0 := (h.keep s (cpA c) (by simp)).1
  have q1 := (h.keep (s + 1) #[v0, v1, v2, v3, v4] (by simp)).1
  exact ⟨q0.cell 10, q1.cell 0, q1.cell 1, q1.cell 2, q1.cell 3, q1.cell 4⟩
/-- four things are made -/
theorem four_new (w : World) (A0 A1 A2 A3 : Array Value) (t0 t1 t2 t3 : TypeId) :
    let W := (((w.alloc (.cells A0 t0)).alloc (.cells A1 t1)).alloc (.cells A2 t2)).alloc (.cells A3 t3)
    Below w.heap.size w W ∧ W.heap.size = w.heap.size + 1 + 1 + 1 + 1 ∧ ∀ b A, (b, A) ∈ [(w.heap.size, A0), (w.heap.size + 1, A1), (w.heap.size + 1 + 1, A2), (w.heap.size + 1 + 1 + 1, A3)] → Blk W b A ∧ w.heap.size ≤ b := by
  intro W
  obtain ⟨q0, q1, hB⟩ := two_newC w A0 A1 t0 t1
  have q2 := Blk.new ((w.alloc (.cells A0 t0)).alloc (.cells A1 t1)) A2 t2
  have q3 := Blk.new (((w.alloc (.cells A0 t0)).alloc (.cells A1 t1)).alloc (.cells A2 t2)) A3 t3
  simp only [World.size_alloc] at q2 q3
  refine ⟨(hB.alloc hB.size _).alloc (by simp; omega) _, by simp [W], fun b A hm => ?_⟩
  simp only [List.mem_cons, List.not_mem_nil, or_false] at hm
  rcases hm with e | e | e | e <;> cases e
  · exact ⟨(q0.alloc _).alloc _, by omega⟩
  · exact ⟨(q1.alloc _).alloc _, by omega⟩
  · exact ⟨q2.alloc _, by omega⟩
  · exact ⟨q3, by omega⟩
abbrev zC : Array Value := #[.int .i64 0, .int .i64 0, .int .i64 0, .int .i64 0, .int .i64 0, .int .i64 0, .int .i64 0, .int .i64 0, .int .i64 0, .int .i64 0, .int .i64 0, .bool false, .bool false, .bool false]
abbrev zM : Array Value := #[.slice none 0 0, .slice none 0 0, .int .i64 0, .int .i64 0, .bool false]
abbrev cpuL (c : Cp) : List Value := [.int .i64 (c.b : Int), .int .i64 (c.c : Int), .int .i64 (c.d : Int), .int .i64 (c.e : Int), .int .i64 (c.h : Int), .int .i64 (c.l : Int), .int .i64 0, .int .i64 (c.a : Int), .int .i64 (c.f : Int), .int .i64 (c.sp : Int), .int .i64 (c.pc : Int), .bool c.iff, .bool c.ei, .bool c.halt]
abbrev meL (vr vm : Value) (M : Mem) : List Value := [vr, vm, .int .i64 M.page, .int .i64 M.screen, .bool M.locked]
theorem Blk.drew {w : World} {b : Nat} {A : Array Value} (h : Blk w b A) : Blk w.drew b A := h.below (n := w.heap.size) ⟨rfl, rfl, rfl, Nat.le_refl _, fun _ _ => rfl⟩ h.lt
theorem setsC (c : Cp) : setsA 0 (cpuL c) zC = cpA c := by simp only [setsA, cpuL, zC, Nat.zero_add, Nat.reduceAdd, List.setIfInBounds_toArray, List.set_cons_zero, List.set_cons_succ]
theorem setsM (vr vm : Value) (M : Mem) : setsA 0 (meL vr vm M) zM = #[vr, vm, .int .i64 M.page, .int .i64 M.screen, .bool M.locked] := by simp only [setsA, meL, zM, Nat.zero_add, Nat.reduceAdd, List.setIfInBounds_toArray, List.set_cons_zero, List.set_cons_succ]
theorem NSt.fin2 {w : World} {k : List (Nat × Array Value)} {W : World} {X b g : Nat} {x : Mx} {n : Nat} {vr vm cv : Value} (h : NSt ⟨w, k⟩ W X x n vr vm cv) (h1 : (b, zC) ∈ k) (h2 : (g, zM) ∈ k) (hbg : b ≠ g) (lb : w.heap.size ≤ b) (lg : w.heap.size ≤ g) :
    (∀ i, (sets (sets W b 0 (cpuL x.c)) g 0 (meL vr vm x.m)).drew.cell? ⟨b, i, none⟩ = (cpA x.c)[i]?) ∧ (∀ i, (sets (sets W b 0 (cpuL x.c)) g 0 (meL vr vm x.m)).drew.cell? ⟨g, i, none⟩ = (#[vr, vm, .int .i64 x.m.page, .int .i64 x.m.screen, .bool x.m.locked] : Array Value)[i]?) ∧ Out w (sets (sets W b 0 (cpuL x.c)) g 0 (meL vr vm x.m)).drew x vr vm cv := by
  obtain ⟨qa, qb, O⟩ := h.fin h1 h2 hbg lb lg (cpuL x.c) (meL vr vm x.m)
  rw [setsC] at qa
  rw [setsM] at qb
  exact ⟨qa.drew.cell, qb.drew.cell, O.drew⟩
theorem stepQ_m (c : Cp) (M : Mem) : (stepQ c M).m = M := by unfold stepQ; split <;> rfl
theorem stepQ_l (c : Cp) (M : Mem) : (stepQ c M).cy.length ≤ 2 := by
  unfold stepQ
  split
  · show ([_] ++ [_] : List (Nat × Nat × Nat)).length ≤ 2; simp
  · show [_].length ≤ 2; simp
theorem stepQ_c {c : Cp} (M : Mem) (hc : c.ok) : (stepQ c M).c.ok := by
  obtain ⟨h0, h1, h2, h3, h4, h5, h6, h7, h8, h9⟩ := hc
  unfold stepQ
  split
  · exact ⟨h0, h1, h2, h3, h4, h5, h6, h7, h8, Nat.mod_lt _ (by omega)⟩
  · exact ⟨h0, h1, h2, h3, h4, h5, h6, h7, h8, Nat.mod_lt _ (by omega)⟩
theorem NSt.form {w : Bs} {W : World} {X : Nat} {x : Mx} {n : Nat} {vr vm cv : Value} (h : NSt w W X x n vr vm cv) : ∃ e1 p1 e2 p2, vr = .slice e1 x.m.rom.length p1 ∧ vm = .slice e2 x.m.ram.length p2 := by
  obtain ⟨a1, p1, a2, p2, e, _, _⟩ := h.mem.form
  simp only [memV, Value.agg.injEq, Array.mk.injEq, List.cons.injEq] at e
  exact ⟨a1, p1, a2, p2, e.1, e.2.1⟩
end Go.Proofs.YtgpmpfikeindfaaGreatDoor
