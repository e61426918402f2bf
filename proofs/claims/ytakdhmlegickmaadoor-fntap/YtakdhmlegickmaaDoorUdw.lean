/- A block that is taken off a cursor: the specification. -/
import Derived.Test.YtakdhmlegickmaaDoorUcw
import Derived.Test.YtakdhmlegickmaaDoorTow
namespace Go.Proofs.YtakdhmlegickmaaDoor
open Go.ChangeShapes Go.WideShapes Go.ChangeAt Go.RowKit
set_option linter.unusedVariables false
set_option linter.unusedSimpArgs false


abbrev curA (s : ByteArray) (a : Int) : Array Value := #[.string s, .int .i64 a]
/-- the cursor behind it, the block, the code -/
abbrev tkT (x : ((ByteArray × Int) × (Int × ByteArray)) × Int) : Value := .tuple #[cur x.1.1.1 x.1.1.2, bkV x.1.2.1 x.1.2.2, .int .i64 x.2]
def wordOf (t : ByteArray) : Int := byt t 0 + 256 * byt t 1
def tkB (s : ByteArray) (a : Int) : ((ByteArray × Int) × (Int × ByteArray)) × Int :=
  if stB s a = false then (((ByteArray.empty, 0), (0, ByteArray.empty)), 1)
  else if (takeV s a 2).2.2 ≠ 0 then (((s, a), (0, ByteArray.empty)), (takeV s a 2).2.2)
  else if (takeV (takeV s a 2).1.1 (takeV s a 2).1.2 (wordOf (takeV s a 2).2.1)).2.2 ≠ 0 then (((s, a), (0, ByteArray.empty)), (takeV (takeV s a 2).1.1 (takeV s a 2).1.2 (wordOf (takeV s a 2).2.1)).2.2)
  else if (ofB (takeV (takeV s a 2).1.1 (takeV s a 2).1.2 (wordOf (takeV s a 2).2.1)).2.1).2 ≠ 0 then (((s, a), (0, ByteArray.empty)), (ofB (takeV (takeV s a 2).1.1 (takeV s a 2).1.2 (wordOf (takeV s a 2).2.1)).2.1).2)
  else (((takeV (takeV s a 2).1.1 (takeV s a 2).1.2 (wordOf (takeV s a 2).2.1)).1, (ofB (takeV (takeV s a 2).1.1 (takeV s a 2).1.2 (wordOf (takeV s a 2).2.1)).2.1).1), 0)
/-- the cursor's box, and room for the answer -/
structure K3 (w W : World) (s : ByteArray) (a : Int) : Prop where
  q0 : Blk W w.heap.size (curA s a)
  q1 : Blk W (w.heap.size + 1) (curA eS 0)
  q2 : Blk W (w.heap.size + 1 + 1) (bkA 0 eS)
  bel : Below w.heap.size w W
theorem K3.below {w W W' : World} {s : ByteArray} {a : Int} (h : K3 w W s a) (hb : Below W.heap.size W W') : K3 w W' s a :=
  ⟨h.q0.below hb h.q0.lt, h.q1.below hb h.q1.lt, h.q2.below hb h.q2.lt, h.bel.trans (hb.mono h.bel.size)⟩
theorem K3.start (w : World) (s : ByteArray) (a : Int) (t t1 t2 : TypeId) : K3 w (((w.alloc (.cells (curA s a) t)).alloc (.cells (curA eS 0) t1)).alloc (.cells (bkA 0 eS) t2)) s a := by
  have hB1 : Below w.heap.size w (w.alloc (.cells (curA s a) t)) := (Below.refl _ _).alloc (Nat.le_refl _) _
  have hB2 := hB1.alloc hB1.size (.cells (curA eS 0) t1)
  have q1 : Blk ((w.alloc (.cells (curA s a) t)).alloc (.cells (curA eS 0) t1)) (w.heap.size + 1) (curA eS 0) := by
    have := Blk.new (w.alloc (.cells (curA s a) t)) (curA eS 0) t1
    rw [World.size_alloc] at this
    exact this
  refine ⟨((Blk.new w _ t).alloc _).alloc _, q1.alloc _, ?_, hB2.alloc hB2.size _⟩
  have := Blk.new ((w.alloc (.cells (curA s a) t)).alloc (.cells (curA eS 0) t1)) (bkA 0 eS) t2
  rw [World.size_alloc, World.size_alloc] at this
  exact this
set_option maxRecDepth 100000 in
set_option maxHeartbeats 2000000 in
theorem tk_a (s : ByteArray) (a : Int) (w : World) (hC : ∀ W, Calls Tryd.prog 75 #[cur s a] W fun e w' => e = .returned (.int .i64 1) ∧ Below W.heap.size W w') : Calls Tryd.prog 50 #[cur s a] w fun e w' => e = .returned (tkT (((ByteArray.empty, 0), (0, ByteArray.empty)), 1)) ∧ Below w.heap.size w w' := by
  have hs0 := hid (K3.start w s a 39 39 33)
  go_enter Tryd.func50, Tryd.ntmps50
  go_upto_region 1 with fail
  obtain ⟨W0, hW0⟩ : ∃ W, ((w.alloc (.cells (curA s a) 39)).alloc (.cells (curA eS 0) 39)).alloc (.cells (bkA 0 eS) 33) = W := ⟨_, rfl⟩
  rw [hW0] at hs0 ⊢
  clear hW0
  have x0 := hs0.out.q0.cell
  go_wp2_with fail
  refine (hC _).mono ?_
  rintro e w1 ⟨rfl, hb⟩
  have hs1 := hid (hs0.out.below hb)
  clear hb x0 hs0
  have x0 := hs1.out.q0.cell
  have x1 := hs1.out.q1.cell
  have x2 := hs1.out.q2.cell
  have f1 := hs1.out.q1.frozen
  have f2 := hs1.out.q2.frozen
  have l1 := hs1.out.q1.lt
  have l2 := hs1.out.q2.lt
  have hB := hid hs1.out.bel
  clear hs1
  go_wp2
  exact bodyPost_ret (v := tkT (((ByteArray.empty, 0), (0, ByteArray.empty)), 1)) (by simp [results, Tryd.results50, go_sem, x1, x2]; try rfl) rfl ⟨rfl, by repeat (first | exact hB.out | refine Below.drew ?_ | refine Below.setCell ?_ (by first | omega | (simp; omega) | simp) _)⟩
set_option maxRecDepth 100000 in
set_option maxHeartbeats 2000000 in
theorem tk_b (s : ByteArray) (a : Int) (w : World) (S : ByteArray) (A n c : Int) (hc : c ≠ 0) (hC : ∀ W, Calls Tryd.prog 75 #[cur s a] W fun e w' => e = .returned (.int .i64 0) ∧ Below W.heap.size W w') (hT : ∀ W, Calls Tryd.prog 76 #[cur s a] W fun e w' => e = .returned (.tuple #[cur S A, .int .i64 n, .int .i64 c]) ∧ Below W.heap.size W w') : Calls Tryd.prog 50 #[cur s a] w fun e w' => e = .returned (tkT (((s, a), (0, ByteArray.empty)), c)) ∧ Below w.heap.size w w' := by
  have hs0 := hid (K3.start w s a 39 39 33)
  go_enter Tryd.func50, Tryd.ntmps50
  go_upto_region 1 with fail
  obtain ⟨W0, hW0⟩ : ∃ W, ((w.alloc (.cells (curA s a) 39)).alloc (.cells (curA eS 0) 39)).alloc (.cells (bkA 0 eS) 33) = W := ⟨_, rfl⟩
  rw [hW0] at hs0 ⊢
  clear hW0
  have x0 := hs0.out.q0.cell
  go_wp2_with fail
  refine (hC _).mono ?_
  rintro e w1 ⟨rfl, hb⟩
  have hs1 := hid (hs0.out.below hb)
  clear hb x0 hs0
  have x0 := hs1.out.q0.cell
  go_wp2_with fail
  refine (hT _).mono ?_
  rintro e w2 ⟨rfl, hb⟩
  have hal := (Below.refl w2.heap.size w2).alloc (Nat.le_refl _) (.cells (curA S A) 39)
  have hs2 := hid ((hs1.out.below hb).below hal)
  have b6q2 := hid (Blk.new w2 (curA S A) 39)
  have lb6 := (hs1.out.below hb).q2.lt
  clear hal hb x0 hs1
  go_upto_region 5 with fail
  obtain ⟨b6, eb6⟩ : ∃ b, w2.heap.size = b := ⟨_, rfl⟩
  obtain ⟨W2, eW⟩ : ∃ W, w2.alloc (.cells (curA S A) 39) = W := ⟨_, rfl⟩
  rw [eW, eb6] at b6q2
  rw [eb6] at lb6
  rw [eW] at hs2 ⊢
  rw [eb6]
  clear eW eb6
  have x0 := hs2.out.q0.cell
  have x1 := hs2.out.q1.cell
  have x2 := hs2.out.q2.cell
  have f1 := hs2.out.q1.frozen
  have f2 := hs2.out.q2.frozen
  have l1 := hs2.out.q1.lt
  have l2 := hs2.out.q2.lt
  have xb6 := b6q2.out.cell
  have nab6 : ¬ b6 = w.heap.size + 1 := by omega
  have nbb6 : ¬ b6 = w.heap.size + 1 + 1 := by omega
  have ncb6 : ¬ w.heap.size + 1 = b6 := by omega
  have ndb6 : ¬ w.heap.size + 1 + 1 = b6 := by omega
  have hB := hid hs2.out.bel
  clear hs2 b6q2
  have h0 : (c == 0) = false := by simpa using hc
  go_wp2
  exact bodyPost_ret (v := tkT (((s, a), (0, ByteArray.empty)), c)) (by simp [results, Tryd.results50, go_sem, x1, x2]; try rfl) rfl ⟨rfl, by repeat (first | exact hB.out | refine Below.drew ?_ | refine Below.setCell ?_ (by first | omega | (simp; omega) | simp) _)⟩
set_option maxRecDepth 100000 in
set_option maxHeartbeats 2000000 in
theorem tk_c (s : ByteArray) (a : Int) (w : World) (S S2 T : ByteArray) (A A2 n c : Int) (hc : c ≠ 0) (hC : ∀ W, Calls Tryd.prog 75 #[cur s a] W fun e w' => e = .returned (.int .i64 0) ∧ Below W.heap.size W w') (hT : ∀ W, Calls Tryd.prog 76 #[cur s a] W fun e w' => e = .returned (.tuple #[cur S A, .int .i64 n, .int .i64 0]) ∧ Below W.heap.size W w') (hK : ∀ W, Calls Tryd.prog 77 #[cur S A, .int .i64 n] W fun e w' => e = .returned (.tuple #[cur S2 A2, .string T, .int .i64 c]) ∧ Below W.heap.size W w') : Calls Tryd.prog 50 #[cur s a] w fun e w' => e = .returned (tkT (((s, a), (0, ByteArray.empty)), c)) ∧ Below w.heap.size w w' := by
  have hs0 := hid (K3.start w s a 39 39 33)
  go_enter Tryd.func50, Tryd.ntmps50
  go_upto_region 1 with fail
  obtain ⟨W0, hW0⟩ : ∃ W, ((w.alloc (.cells (curA s a) 39)).alloc (.cells (curA eS 0) 39)).alloc (.cells (bkA 0 eS) 33) = W := ⟨_, rfl⟩
  rw [hW0] at hs0 ⊢
  clear hW0
  have x0 := hs0.out.q0.cell
  go_wp2_with fail
  refine (hC _).mono ?_
  rintro e w1 ⟨rfl, hb⟩
  have hs1 := hid (hs0.out.below hb)
  clear hb x0 hs0
  have x0 := hs1.out.q0.cell
  go_wp2_with fail
  refine (hT _).mono ?_
  rintro e w2 ⟨rfl, hb⟩
  have hal := (Below.refl w2.heap.size w2).alloc (Nat.le_refl _) (.cells (curA S A) 39)
  have hs2 := hid ((hs1.out.below hb).below hal)
  have b6q2 := hid (Blk.new w2 (curA S A) 39)
  have lb6 := (hs1.out.below hb).q2.lt
  clear hal hb x0 hs1
  go_upto_region 5 with fail
  obtain ⟨b6, eb6⟩ : ∃ b, w2.heap.size = b := ⟨_, rfl⟩
  obtain ⟨W2, eW⟩ : ∃ W, w2.alloc (.cells (curA S A) 39) = W := ⟨_, rfl⟩
  rw [eW, eb6] at b6q2
  rw [eb6] at lb6
  rw [eW] at hs2 ⊢
  rw [eb6]
  clear eW eb6
  have x0 := hs2.out.q0.cell
  have xb6 := b6q2.out.cell
  go_wp2_with fail
  refine (hK _).mono ?_
  rintro e w3 ⟨rfl, hb⟩
  have hal := (Below.refl w3.heap.size w3).alloc (Nat.le_refl _) (.cells (curA S2 A2) 39)
  have hs3 := hid ((hs2.out.below hb).below hal)
  have b9q3 := hid (Blk.new w3 (curA S2 A2) 39)
  have lb9 := (hs2.out.below hb).q2.lt
  have b6q3 := hid ((b6q2.out.below hb b6q2.out.lt).alloc (.cells (curA S2 A2) 39))
  clear hal hb x0 hs2 xb6 b6q2
  go_upto_region 8 with fail
  obtain ⟨b9, eb9⟩ : ∃ b, w3.heap.size = b := ⟨_, rfl⟩
  obtain ⟨W3, eW⟩ : ∃ W, w3.alloc (.cells (curA S2 A2) 39) = W := ⟨_, rfl⟩
  rw [eW, eb9] at b9q3
  rw [eb9] at lb9
  rw [eW] at hs3 b6q3 ⊢
  rw [eb9]
  clear eW eb9
  have x0 := hs3.out.q0.cell
  have x1 := hs3.out.q1.cell
  have x2 := hs3.out.q2.cell
  have f1 := hs3.out.q1.frozen
  have f2 := hs3.out.q2.frozen
  have l1 := hs3.out.q1.lt
  have l2 := hs3.out.q2.lt
  have xb6 := b6q3.out.cell
  have nab6 : ¬ b6 = w.heap.size + 1 := by omega
  have nbb6 : ¬ b6 = w.heap.size + 1 + 1 := by omega
  have ncb6 : ¬ w.heap.size + 1 = b6 := by omega
  have ndb6 : ¬ w.heap.size + 1 + 1 = b6 := by omega
  have xb9 := b9q3.out.cell
  have nab9 : ¬ b9 = w.heap.size + 1 := by omega
  have nbb9 : ¬ b9 = w.heap.size + 1 + 1 := by omega
  have ncb9 : ¬ w.heap.size + 1 = b9 := by omega
  have ndb9 : ¬ w.heap.size + 1 + 1 = b9 := by omega
  have hB := hid hs3.out.bel
  clear hs3 b6q3 b9q3
  have h0 : (c == 0) = false := by simpa using hc
  go_wp2
  exact bodyPost_ret (v := tkT (((s, a), (0, ByteArray.empty)), c)) (by simp [results, Tryd.results50, go_sem, x1, x2]; try rfl) rfl ⟨rfl, by repeat (first | exact hB.out | refine Below.drew ?_ | refine Below.setCell ?_ (by first | omega | (simp; omega) | simp) _)⟩
set_option maxRecDepth 100000 in
set_option maxHeartbeats 2000000 in
theorem tk_d (s : ByteArray) (a : Int) (w : World) (S S2 T D : ByteArray) (A A2 n F c : Int) (hc : c ≠ 0) (hC : ∀ W, Calls Tryd.prog 75 #[cur s a] W fun e w' => e = .returned (.int .i64 0) ∧ Below W.heap.size W w') (hT : ∀ W, Calls Tryd.prog 76 #[cur s a] W fun e w' => e = .returned (.tuple #[cur S A, .int .i64 n, .int .i64 0]) ∧ Below W.heap.size W w') (hK : ∀ W, Calls Tryd.prog 77 #[cur S A, .int .i64 n] W fun e w' => e = .returned (.tuple #[cur S2 A2, .string T, .int .i64 0]) ∧ Below W.heap.size W w') (hO : ∀ W, Calls Tryd.prog 78 #[.string T] W fun e w' => e = .returned (.tuple #[bkV F D, .int .i64 c]) ∧ Below W.heap.size W w') : Calls Tryd.prog 50 #[cur s a] w fun e w' => e = .returned (tkT (((s, a), (0, ByteArray.empty)), c)) ∧ Below w.heap.size w w' := by
  have hs0 := hid (K3.start w s a 39 39 33)
  go_enter Tryd.func50, Tryd.ntmps50
  go_upto_region 1 with fail
  obtain ⟨W0, hW0⟩ : ∃ W, ((w.alloc (.cells (curA s a) 39)).alloc (.cells (curA eS 0) 39)).alloc (.cells (bkA 0 eS) 33) = W := ⟨_, rfl⟩
  rw [hW0] at hs0 ⊢
  clear hW0
  have x0 := hs0.out.q0.cell
  go_wp2_with fail
  refine (hC _).mono ?_
  rintro e w1 ⟨rfl, hb⟩
  have hs1 := hid (hs0.out.below hb)
  clear hb x0 hs0
  have x0 := hs1.out.q0.cell
  go_wp2_with fail
  refine (hT _).mono ?_
  rintro e w2 ⟨rfl, hb⟩
  have hal := (Below.refl w2.heap.size w2).alloc (Nat.le_refl _) (.cells (curA S A) 39)
  have hs2 := hid ((hs1.out.below hb).below hal)
  have b6q2 := hid (Blk.new w2 (curA S A) 39)
  have lb6 := (hs1.out.below hb).q2.lt
  clear hal hb x0 hs1
  go_upto_region 5 with fail
  obtain ⟨b6, eb6⟩ : ∃ b, w2.heap.size = b := ⟨_, rfl⟩
  obtain ⟨W2, eW⟩ : ∃ W, w2.alloc (.cells (curA S A) 39) = W := ⟨_, rfl⟩
  rw [eW, eb6] at b6q2
  rw [eb6] at lb6
  rw [eW] at hs2 ⊢
  rw [eb6]
  clear eW eb6
  have x0 := hs2.out.q0.cell
  have xb6 := b6q2.out.cell
  go_wp2_with fail
  refine (hK _).mono ?_
  rintro e w3 ⟨rfl, hb⟩
  have hal := (Below.refl w3.heap.size w3).alloc (Nat.le_refl _) (.cells (curA S2 A2) 39)
  have hs3 := hid ((hs2.out.below hb).below hal)
  have b9q3 := hid (Blk.new w3 (curA S2 A2) 39)
  have lb9 := (hs2.out.below hb).q2.lt
  have b6q3 := hid ((b6q2.out.below hb b6q2.out.lt).alloc (.cells (curA S2 A2) 39))
  clear hal hb x0 hs2 xb6 b6q2
  go_upto_region 8 with fail
  obtain ⟨b9, eb9⟩ : ∃ b, w3.heap.size = b := ⟨_, rfl⟩
  obtain ⟨W3, eW⟩ : ∃ W, w3.alloc (.cells (curA S2 A2) 39) = W := ⟨_, rfl⟩
  rw [eW, eb9] at b9q3
  rw [eb9] at lb9
  rw [eW] at hs3 b6q3 ⊢
  rw [eb9]
  clear eW eb9
  have x0 := hs3.out.q0.cell
  have xb6 := b6q3.out.cell
  have xb9 := b9q3.out.cell
  go_wp2_with fail
  refine (hO _).mono ?_
  rintro e w4 ⟨rfl, hb⟩
  have hal := (Below.refl w4.heap.size w4).alloc (Nat.le_refl _) (.cells (bkA F D) 33)
  have hs4 := hid ((hs3.out.below hb).below hal)
  have b11q4 := hid (Blk.new w4 (bkA F D) 33)
  have lb11 := (hs3.out.below hb).q2.lt
  have b6q4 := hid ((b6q3.out.below hb b6q3.out.lt).alloc (.cells (bkA F D) 33))
  have b9q4 := hid ((b9q3.out.below hb b9q3.out.lt).alloc (.cells (bkA F D) 33))
  clear hal hb x0 hs3 xb6 b6q3 xb9 b9q3
  go_upto_region 11 with fail
  obtain ⟨b11, eb11⟩ : ∃ b, w4.heap.size = b := ⟨_, rfl⟩
  obtain ⟨W4, eW⟩ : ∃ W, w4.alloc (.cells (bkA F D) 33) = W := ⟨_, rfl⟩
  rw [eW, eb11] at b11q4
  rw [eb11] at lb11
  rw [eW] at hs4 b6q4 b9q4 ⊢
  rw [eb11]
  clear eW eb11
  have x0 := hs4.out.q0.cell
  have x1 := hs4.out.q1.cell
  have x2 := hs4.out.q2.cell
  have f1 := hs4.out.q1.frozen
  have f2 := hs4.out.q2.frozen
  have l1 := hs4.out.q1.lt
  have l2 := hs4.out.q2.lt
  have xb6 := b6q4.out.cell
  have nab6 : ¬ b6 = w.heap.size + 1 := by omega
  have nbb6 : ¬ b6 = w.heap.size + 1 + 1 := by omega
  have ncb6 : ¬ w.heap.size + 1 = b6 := by omega
  have ndb6 : ¬ w.heap.size + 1 + 1 = b6 := by omega
  have xb9 := b9q4.out.cell
  have nab9 : ¬ b9 = w.heap.size + 1 := by omega
  have nbb9 : ¬ b9 = w.heap.size + 1 + 1 := by omega
  have ncb9 : ¬ w.heap.size + 1 = b9 := by omega
  have ndb9 : ¬ w.heap.size + 1 + 1 = b9 := by omega
  have xb11 := b11q4.out.cell
  have nab11 : ¬ b11 = w.heap.size + 1 := by omega
  have nbb11 : ¬ b11 = w.heap.size + 1 + 1 := by omega
  have ncb11 : ¬ w.heap.size + 1 = b11 := by omega
  have ndb11 : ¬ w.heap.size + 1 + 1 = b11 := by omega
  have hB := hid hs4.out.bel
  clear hs4 b6q4 b9q4 b11q4
  have h0 : (c == 0) = false := by simpa using hc
  go_wp2
  exact bodyPost_ret (v := tkT (((s, a), (0, ByteArray.empty)), c)) (by simp [results, Tryd.results50, go_sem, x1, x2]; try rfl) rfl ⟨rfl, by repeat (first | exact hB.out | refine Below.drew ?_ | refine Below.setCell ?_ (by first | omega | (simp; omega) | simp) _)⟩
set_option maxRecDepth 100000 in
set_option maxHeartbeats 2000000 in
theorem tk_e (s : ByteArray) (a : Int) (w : World) (S S2 T D : ByteArray) (A A2 n F : Int) (hC : ∀ W, Calls Tryd.prog 75 #[cur s a] W fun e w' => e = .returned (.int .i64 0) ∧ Below W.heap.size W w') (hT : ∀ W, Calls Tryd.prog 76 #[cur s a] W fun e w' => e = .returned (.tuple #[cur S A, .int .i64 n, .int .i64 0]) ∧ Below W.heap.size W w') (hK : ∀ W, Calls Tryd.prog 77 #[cur S A, .int .i64 n] W fun e w' => e = .returned (.tuple #[cur S2 A2, .string T, .int .i64 0]) ∧ Below W.heap.size W w') (hO : ∀ W, Calls Tryd.prog 78 #[.string T] W fun e w' => e = .returned (.tuple #[bkV F D, .int .i64 0]) ∧ Below W.heap.size W w') : Calls Tryd.prog 50 #[cur s a] w fun e w' => e = .returned (tkT (((S2, A2), (F, D)), 0)) ∧ Below w.heap.size w w' := by
  have hs0 := hid (K3.start w s a 39 39 33)
  go_enter Tryd.func50, Tryd.ntmps50
  go_upto_region 1 with fail
  obtain ⟨W0, hW0⟩ : ∃ W, ((w.alloc (.cells (curA s a) 39)).alloc (.cells (curA eS 0) 39)).alloc (.cells (bkA 0 eS) 33) = W := ⟨_, rfl⟩
  rw [hW0] at hs0 ⊢
  clear hW0
  have x0 := hs0.out.q0.cell
  go_wp2_with fail
  refine (hC _).mono ?_
  rintro e w1 ⟨rfl, hb⟩
  have hs1 := hid (hs0.out.below hb)
  clear hb x0 hs0
  have x0 := hs1.out.q0.cell
  go_wp2_with fail
  refine (hT _).mono ?_
  rintro e w2 ⟨rfl, hb⟩
  have hal := (Below.refl w2.heap.size w2).alloc (Nat.le_refl _) (.cells (curA S A) 39)
  have hs2 := hid ((hs1.out.below hb).below hal)
  have b6q2 := hid (Blk.new w2 (curA S A) 39)
  have lb6 := (hs1.out.below hb).q2.lt
  clear hal hb x0 hs1
  go_upto_region 5 with fail
  obtain ⟨b6, eb6⟩ : ∃ b, w2.heap.size = b := ⟨_, rfl⟩
  obtain ⟨W2, eW⟩ : ∃ W, w2.alloc (.cells (curA S A) 39) = W := ⟨_, rfl⟩
  rw [eW, eb6] at b6q2
  rw [eb6] at lb6
  rw [eW] at hs2 ⊢
  rw [eb6]
  clear eW eb6
  have x0 := hs2.out.q0.cell
  have xb6 := b6q2.out.cell
  go_wp2_with fail
  refine (hK _).mono ?_
  rintro e w3 ⟨rfl, hb⟩
  have hal := (Below.refl w3.heap.size w3).alloc (Nat.le_refl _) (.cells (curA S2 A2) 39)
  have hs3 := hid ((hs2.out.below hb).below hal)
  have b9q3 := hid (Blk.new w3 (curA S2 A2) 39)
  have lb9 := (hs2.out.below hb).q2.lt
  have b6q3 := hid ((b6q2.out.below hb b6q2.out.lt).alloc (.cells (curA S2 A2) 39))
  clear hal hb x0 hs2 xb6 b6q2
  go_upto_region 8 with fail
  obtain ⟨b9, eb9⟩ : ∃ b, w3.heap.size = b := ⟨_, rfl⟩
  obtain ⟨W3, eW⟩ : ∃ W, w3.alloc (.cells (curA S2 A2) 39) = W := ⟨_, rfl⟩
  rw [eW, eb9] at b9q3
  rw [eb9] at lb9
  rw [eW] at hs3 b6q3 ⊢
  rw [eb9]
  clear eW eb9
  have x0 := hs3.out.q0.cell
  have xb6 := b6q3.out.cell
  have xb9 := b9q3.out.cell
  go_wp2_with fail
  refine (hO _).mono ?_
  rintro e w4 ⟨rfl, hb⟩
  have hal := (Below.refl w4.heap.size w4).alloc (Nat.le_refl _) (.cells (bkA F D) 33)
  have hs4 := hid ((hs3.out.below hb).below hal)
  have b11q4 := hid (Blk.new w4 (bkA F D) 33)
  have lb11 := (hs3.out.below hb).q2.lt
  have b6q4 := hid ((b6q3.out.below hb b6q3.out.lt).alloc (.cells (bkA F D) 33))
  have b9q4 := hid ((b9q3.out.below hb b9q3.out.lt).alloc (.cells (bkA F D) 33))
  clear hal hb x0 hs3 xb6 b6q3 xb9 b9q3
  go_upto_region 11 with fail
  obtain ⟨b11, eb11⟩ : ∃ b, w4.heap.size = b := ⟨_, rfl⟩
  obtain ⟨W4, eW⟩ : ∃ W, w4.alloc (.cells (bkA F D) 33) = W := ⟨_, rfl⟩
  rw [eW, eb11] at b11q4
  rw [eb11] at lb11
  rw [eW] at hs4 b6q4 b9q4 ⊢
  rw [eb11]
  clear eW eb11
  have x0 := hs4.out.q0.cell
  have x1 := hs4.out.q1.cell
  have x2 := hs4.out.q2.cell
  have f1 := hs4.out.q1.frozen
  have f2 := hs4.out.q2.frozen
  have l1 := hs4.out.q1.lt
  have l2 := hs4.out.q2.lt
  have xb6 := b6q4.out.cell
  have nab6 : ¬ b6 = w.heap.size + 1 := by omega
  have nbb6 : ¬ b6 = w.heap.size + 1 + 1 := by omega
  have ncb6 : ¬ w.heap.size + 1 = b6 := by omega
  have ndb6 : ¬ w.heap.size + 1 + 1 = b6 := by omega
  have xb9 := b9q4.out.cell
  have nab9 : ¬ b9 = w.heap.size + 1 := by omega
  have nbb9 : ¬ b9 = w.heap.size + 1 + 1 := by omega
  have ncb9 : ¬ w.heap.size + 1 = b9 := by omega
  have ndb9 : ¬ w.heap.size + 1 + 1 = b9 := by omega
  have xb11 := b11q4.out.cell
  have nab11 : ¬ b11 = w.heap.size + 1 := by omega
  have nbb11 : ¬ b11 = w.heap.size + 1 + 1 := by omega
  have ncb11 : ¬ w.heap.size + 1 = b11 := by omega
  have ndb11 : ¬ w.heap.size + 1 + 1 = b11 := by omega
  have hB := hid hs4.out.bel
  clear hs4 b6q4 b9q4 b11q4
  go_wp2
  go_region
  go_wp2
  exact bodyPost_ret (v := tkT (((S2, A2), (F, D)), 0)) (by simp [results, Tryd.results50, go_sem, x1, x2]; try rfl) rfl ⟨rfl, by repeat (first | exact hB.out | refine Below.drew ?_ | refine Below.setCell ?_ (by first | omega | (simp; omega) | simp) _)⟩
end Go.Proofs.YtakdhmlegickmaaDoor
