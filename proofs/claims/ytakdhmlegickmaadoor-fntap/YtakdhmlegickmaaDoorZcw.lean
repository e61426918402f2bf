/- A block that is taken off a cursor: the program. -/
import Derived.Test.YtakdhmlegickmaaDoorZrw
import Derived.Deep.DeepCutAuto
namespace Go.Proofs.YtakdhmlegickmaaDoor
open Go.ChangeShapes Go.WideShapes Go.ChangeAt Go.RowKit
set_option linter.unusedVariables false
set_option linter.unusedSimpArgs false

set_option maxRecDepth 100000 in
set_option maxHeartbeats 2000000 in
theorem tp_b (s : ByteArray) (a : Int) (w : World) (S T : ByteArray) (A : Int) (x : Addr) (e0 e1 e2 e3 e4 e5 : Addr) (hE : Err6 w e0 e1 e2 e3 e4 e5) (hT : ∀ W, Err6 W e0 e1 e2 e3 e4 e5 → Calls Tryd.prog 63 #[cur s a, .int .i64 2] W fun e w' => e = .returned (.tuple #[cur S A, .string T, iE x]) ∧ Below W.heap.size W w') : Calls Tryd.prog 42 #[cur s a] w fun e w' => e = .returned (.tuple #[cur S A, bkV 0 eS, iE x]) ∧ Below w.heap.size w w' := by
  have hs0 := hid (K3.start w s a 39 39 33)
  replace hE := hid hE
  go_enter Tryd.func42, Tryd.ntmps42
  go_upto_region 1 with fail
  obtain ⟨W0, hW0⟩ : ∃ W, ((w.alloc (.cells (curA s a) 39)).alloc (.cells (curA eS 0) 39)).alloc (.cells (bkA 0 eS) 33) = W := ⟨_, rfl⟩
  rw [hW0] at hs0 ⊢
  clear hW0
  have x0 := hs0.out.q0.cell
  go_wp2_with fail
  refine (hT _ (hE.out.below hs0.out.bel)).mono ?_
  rintro e w2 ⟨rfl, hb⟩
  have hal := (Below.refl w2.heap.size w2).alloc (Nat.le_refl _) (.cells (curA S A) 39)
  have hs2 := hid ((hs0.out.below hb).below hal)
  have b6q2 := hid (Blk.new w2 (curA S A) 39)
  have lb6 := (hs0.out.below hb).q2.lt
  clear hal hb x0 hs0
  go_upto_region 2 with fail
  obtain ⟨b6, eb6⟩ : ∃ b, w2.heap.size = b := ⟨_, rfl⟩
  obtain ⟨W2, eW⟩ : ∃ W, w2.alloc (.cells (curA S A) 39) = W := ⟨_, rfl⟩
  rw [eW, eb6] at b6q2
  rw [eb6] at lb6
  rw [eW] at hs2 ⊢
  rw [eb6]
  clear eW eb6
  have x0 := hs2.out.q0.cell
  have x1 := hs2.out.q1.cell
  have x2 := hs2.out.q2.cell
  have f1 := hs2.out.q1.frozen
  have f2 := hs2.out.q2.frozen
  have l1 := hs2.out.q1.lt
  have l2 := hs2.out.q2.lt
  have hB := hid hs2.out.bel
  have nab6 : ¬ b6 = w.heap.size + 1 := by omega
  have nbb6 : ¬ b6 = w.heap.size + 1 + 1 := by omega
  have ncb6 : ¬ w.heap.size + 1 = b6 := by omega
  have ndb6 : ¬ w.heap.size + 1 + 1 = b6 := by omega
  have x6 := b6q2.out.cell
  clear hs2 b6q2
  go_wp2
  exact bodyPost_ret (v := .tuple #[cur S A, bkV 0 eS, iE x]) (by simp [results, Tryd.results42, go_sem, x1, x2]; try rfl) rfl ⟨rfl, by repeat (first | exact hB.out | exact hB1.out | exact hB.out _ | refine Below.drew ?_ | refine Below.alloc ?_ (by first | omega | (simp; omega) | simp) _ | refine Below.setCell ?_ (by first | omega | (simp; omega) | simp) _)⟩
set_option maxRecDepth 100000 in
set_option maxHeartbeats 2000000 in
theorem tp_c (s : ByteArray) (a : Int) (w : World) (S T S2 T2 : ByteArray) (A A2 n : Int) (x : Addr) (e0 e1 e2 e3 e4 e5 : Addr) (hE : Err6 w e0 e1 e2 e3 e4 e5) (hT : ∀ W, Err6 W e0 e1 e2 e3 e4 e5 → Calls Tryd.prog 63 #[cur s a, .int .i64 2] W fun e w' => e = .returned (.tuple #[cur S A, .string T, .nilIface]) ∧ Below W.heap.size W w') (hW : ∀ W, Calls Tryd.prog 64 #[.string T] W fun e w' => e = .returned (.int .i64 n) ∧ w' = W.drew) (hK : ∀ W, Err6 W e0 e1 e2 e3 e4 e5 → Calls Tryd.prog 63 #[cur S A, .int .i64 n] W fun e w' => e = .returned (.tuple #[cur S2 A2, .string T2, iE x]) ∧ Below W.heap.size W w') : Calls Tryd.prog 42 #[cur s a] w fun e w' => e = .returned (.tuple #[cur s a, bkV 0 eS, iE x]) ∧ Below w.heap.size w w' := by
  have hs0 := hid (K3.start w s a 39 39 33)
  replace hE := hid hE
  go_enter Tryd.func42, Tryd.ntmps42
  go_upto_region 1 with fail
  obtain ⟨W0, hW0⟩ : ∃ W, ((w.alloc (.cells (curA s a) 39)).alloc (.cells (curA eS 0) 39)).alloc (.cells (bkA 0 eS) 33) = W := ⟨_, rfl⟩
  rw [hW0] at hs0 ⊢
  clear hW0
  have x0 := hs0.out.q0.cell
  go_wp2_with fail
  refine (hT _ (hE.out.below hs0.out.bel)).mono ?_
  rintro e w2 ⟨rfl, hb⟩
  have hal := (Below.refl w2.heap.size w2).alloc (Nat.le_refl _) (.cells (curA S A) 39)
  have hs2 := hid ((hs0.out.below hb).below hal)
  have b6q2 := hid (Blk.new w2 (curA S A) 39)
  have lb6 := (hs0.out.below hb).q2.lt
  clear hal hb x0 hs0
  go_upto_region 2 with fail
  obtain ⟨b6, eb6⟩ : ∃ b, w2.heap.size = b := ⟨_, rfl⟩
  obtain ⟨W2, eW⟩ : ∃ W, w2.alloc (.cells (curA S A) 39) = W := ⟨_, rfl⟩
  rw [eW, eb6] at b6q2
  rw [eb6] at lb6
  rw [eW] at hs2 ⊢
  rw [eb6]
  clear eW eb6
  have hE2 := hid (hE.out.below hs2.out.bel)
  go_upto_region 4 with fail
  refine tr_reg _ W2 _ S T S2 T2 A2 A n (iE x) b6 e0 e1 e2 e3 e4 e5 rfl rfl b6q2.out hE2.out hW hK (by simp) ?_
  intro w3 b9 ⟨hb3, q9, l9⟩
  simp only [putsA, Act.put, List.setIfInBounds_toArray, List.set_cons_zero, List.set_cons_succ]
  have l9b := hs2.out.q2.lt
  have hs3 := hid (hs2.out.below hb3)
  replace q9 := hid q9
  clear hb3 hs2 b6q2 hE2
  have x0 := hs3.out.q0.cell
  have x1 := hs3.out.q1.cell
  have x2 := hs3.out.q2.cell
  have f1 := hs3.out.q1.frozen
  have f2 := hs3.out.q2.frozen
  have l1 := hs3.out.q1.lt
  have l2 := hs3.out.q2.lt
  have hB := hid hs3.out.bel
  clear hs3 q9
  go_wp2
  exact bodyPost_ret (v := .tuple #[cur s a, bkV 0 eS, iE x]) (by simp [results, Tryd.results42, go_sem, x1, x2]; try rfl) rfl ⟨rfl, by repeat (first | exact hB.out | exact hB1.out | exact hB.out _ | refine Below.drew ?_ | refine Below.alloc ?_ (by first | omega | (simp; omega) | simp) _ | refine Below.setCell ?_ (by first | omega | (simp; omega) | simp) _)⟩
set_option maxRecDepth 100000 in
set_option maxHeartbeats 2000000 in
theorem tp_d (s : ByteArray) (a : Int) (w : World) (S T S2 T2 D : ByteArray) (A A2 n F : Int) (x : Addr) (e0 e1 e2 e3 e4 e5 : Addr) (hE : Err6 w e0 e1 e2 e3 e4 e5) (hT : ∀ W, Err6 W e0 e1 e2 e3 e4 e5 → Calls Tryd.prog 63 #[cur s a, .int .i64 2] W fun e w' => e = .returned (.tuple #[cur S A, .string T, .nilIface]) ∧ Below W.heap.size W w') (hW : ∀ W, Calls Tryd.prog 64 #[.string T] W fun e w' => e = .returned (.int .i64 n) ∧ w' = W.drew) (hK : ∀ W, Err6 W e0 e1 e2 e3 e4 e5 → Calls Tryd.prog 63 #[cur S A, .int .i64 n] W fun e w' => e = .returned (.tuple #[cur S2 A2, .string T2, .nilIface]) ∧ Below W.heap.size W w') (hO : ∀ W, Err6 W e0 e1 e2 e3 e4 e5 → Calls Tryd.prog 65 #[.string T2] W fun e w' => e = .returned (.tuple #[bkV F D, iE x]) ∧ Below W.heap.size W w') : Calls Tryd.prog 42 #[cur s a] w fun e w' => e = .returned (.tuple #[cur s a, bkV 0 eS, iE x]) ∧ Below w.heap.size w w' := by
  have hs0 := hid (K3.start w s a 39 39 33)
  replace hE := hid hE
  go_enter Tryd.func42, Tryd.ntmps42
  go_upto_region 1 with fail
  obtain ⟨W0, hW0⟩ : ∃ W, ((w.alloc (.cells (curA s a) 39)).alloc (.cells (curA eS 0) 39)).alloc (.cells (bkA 0 eS) 33) = W := ⟨_, rfl⟩
  rw [hW0] at hs0 ⊢
  clear hW0
  have x0 := hs0.out.q0.cell
  go_wp2_with fail
  refine (hT _ (hE.out.below hs0.out.bel)).mono ?_
  rintro e w2 ⟨rfl, hb⟩
  have hal := (Below.refl w2.heap.size w2).alloc (Nat.le_refl _) (.cells (curA S A) 39)
  have hs2 := hid ((hs0.out.below hb).below hal)
  have b6q2 := hid (Blk.new w2 (curA S A) 39)
  have lb6 := (hs0.out.below hb).q2.lt
  clear hal hb x0 hs0
  go_upto_region 2 with fail
  obtain ⟨b6, eb6⟩ : ∃ b, w2.heap.size = b := ⟨_, rfl⟩
  obtain ⟨W2, eW⟩ : ∃ W, w2.alloc (.cells (curA S A) 39) = W := ⟨_, rfl⟩
  rw [eW, eb6] at b6q2
  rw [eb6] at lb6
  rw [eW] at hs2 ⊢
  rw [eb6]
  clear eW eb6
  have hE2 := hid (hE.out.below hs2.out.bel)
  go_upto_region 4 with fail
  refine tr_reg _ W2 _ S T S2 T2 A2 A n (.nilIface) b6 e0 e1 e2 e3 e4 e5 rfl rfl b6q2.out hE2.out hW hK (by simp) ?_
  intro w3 b9 ⟨hb3, q9, l9⟩
  simp only [putsA, Act.put, List.setIfInBounds_toArray, List.set_cons_zero, List.set_cons_succ]
  have l9b := hs2.out.q2.lt
  have hs3 := hid (hs2.out.below hb3)
  replace q9 := hid q9
  clear hb3 hs2 b6q2 hE2
  have x9 := q9.out.cell
  have hE3 := hid (hE.out.below hs3.out.bel)
  go_wp2_with fail
  refine (hO _ hE3.out).mono ?_
  rintro e w4 ⟨rfl, hb⟩
  have hal := (Below.refl w4.heap.size w4).alloc (Nat.le_refl _) (.cells (bkA F D) 33)
  have hs4 := hid ((hs3.out.below hb).below hal)
  have q11 := hid (Blk.new w4 (bkA F D) 33)
  have q94 := hid ((q9.out.below hb q9.out.lt).alloc (.cells (bkA F D) 33))
  have lb11 := (hs3.out.below hb).q2.lt
  have lb12 := (q9.out.below hb q9.out.lt).lt
  clear hal hb hs3 q9 x9 hE3
  go_upto_region 8 with fail
  obtain ⟨b11, eb11⟩ : ∃ b, w4.heap.size = b := ⟨_, rfl⟩
  obtain ⟨W4, eW⟩ : ∃ W, w4.alloc (.cells (bkA F D) 33) = W := ⟨_, rfl⟩
  rw [eW, eb11] at q11
  rw [eb11] at lb11 lb12
  rw [eW] at hs4 q94 ⊢
  rw [eb11]
  clear eW eb11
  have x0 := hs4.out.q0.cell
  have x1 := hs4.out.q1.cell
  have x2 := hs4.out.q2.cell
  have f1 := hs4.out.q1.frozen
  have f2 := hs4.out.q2.frozen
  have l1 := hs4.out.q1.lt
  have l2 := hs4.out.q2.lt
  have hB := hid hs4.out.bel
  clear hs4 q11 q94
  go_wp2
  exact bodyPost_ret (v := .tuple #[cur s a, bkV 0 eS, iE x]) (by simp [results, Tryd.results42, go_sem, x1, x2]; try rfl) rfl ⟨rfl, by repeat (first | exact hB.out | exact hB1.out | exact hB.out _ | refine Below.drew ?_ | refine Below.alloc ?_ (by first | omega | (simp; omega) | simp) _ | refine Below.setCell ?_ (by first | omega | (simp; omega) | simp) _)⟩
set_option maxRecDepth 100000 in
set_option maxHeartbeats 2000000 in
theorem tp_e (s : ByteArray) (a : Int) (w : World) (S T S2 T2 D : ByteArray) (A A2 n F : Int) (e0 e1 e2 e3 e4 e5 : Addr) (hE : Err6 w e0 e1 e2 e3 e4 e5) (hT : ∀ W, Err6 W e0 e1 e2 e3 e4 e5 → Calls Tryd.prog 63 #[cur s a, .int .i64 2] W fun e w' => e = .returned (.tuple #[cur S A, .string T, .nilIface]) ∧ Below W.heap.size W w') (hW : ∀ W, Calls Tryd.prog 64 #[.string T] W fun e w' => e = .returned (.int .i64 n) ∧ w' = W.drew) (hK : ∀ W, Err6 W e0 e1 e2 e3 e4 e5 → Calls Tryd.prog 63 #[cur S A, .int .i64 n] W fun e w' => e = .returned (.tuple #[cur S2 A2, .string T2, .nilIface]) ∧ Below W.heap.size W w') (hO : ∀ W, Err6 W e0 e1 e2 e3 e4 e5 → Calls Tryd.prog 65 #[.string T2] W fun e w' => e = .returned (.tuple #[bkV F D, .nilIface]) ∧ Below W.heap.size W w') : Calls Tryd.prog 42 #[cur s a] w fun e w' => e = .returned (.tuple #[cur S2 A2, bkV F D, .nilIface]) ∧ Below w.heap.size w w' := by
  have hs0 := hid (K3.start w s a 39 39 33)
  replace hE := hid hE
  go_enter Tryd.func42, Tryd.ntmps42
  go_upto_region 1 with fail
  obtain ⟨W0, hW0⟩ : ∃ W, ((w.alloc (.cells (curA s a) 39)).alloc (.cells (curA eS 0) 39)).alloc (.cells (bkA 0 eS) 33) = W := ⟨_, rfl⟩
  rw [hW0] at hs0 ⊢
  clear hW0
  have x0 := hs0.out.q0.cell
  go_wp2_with fail
  refine (hT _ (hE.out.below hs0.out.bel)).mono ?_
  rintro e w2 ⟨rfl, hb⟩
  have hal := (Below.refl w2.heap.size w2).alloc (Nat.le_refl _) (.cells (curA S A) 39)
  have hs2 := hid ((hs0.out.below hb).below hal)
  have b6q2 := hid (Blk.new w2 (curA S A) 39)
  have lb6 := (hs0.out.below hb).q2.lt
  clear hal hb x0 hs0
  go_upto_region 2 with fail
  obtain ⟨b6, eb6⟩ : ∃ b, w2.heap.size = b := ⟨_, rfl⟩
  obtain ⟨W2, eW⟩ : ∃ W, w2.alloc (.cells (curA S A) 39) = W := ⟨_, rfl⟩
  rw [eW, eb6] at b6q2
  rw [eb6] at lb6
  rw [eW] at hs2 ⊢
  rw [eb6]
  clear eW eb6
  have hE2 := hid (hE.out.below hs2.out.bel)
  go_upto_region 4 with fail
  refine tr_reg _ W2 _ S T S2 T2 A2 A n (.nilIface) b6 e0 e1 e2 e3 e4 e5 rfl rfl b6q2.out hE2.out hW hK (by simp) ?_
  intro w3 b9 ⟨hb3, q9, l9⟩
  simp only [putsA, Act.put, List.setIfInBounds_toArray, List.set_cons_zero, List.set_cons_succ]
  have l9b := hs2.out.q2.lt
  have hs3 := hid (hs2.out.below hb3)
  replace q9 := hid q9
  clear hb3 hs2 b6q2 hE2
  have x9 := q9.out.cell
  have hE3 := hid (hE.out.below hs3.out.bel)
  go_wp2_with fail
  refine (hO _ hE3.out).mono ?_
  rintro e w4 ⟨rfl, hb⟩
  have hal := (Below.refl w4.heap.size w4).alloc (Nat.le_refl _) (.cells (bkA F D) 33)
  have hs4 := hid ((hs3.out.below hb).below hal)
  have q11 := hid (Blk.new w4 (bkA F D) 33)
  have q94 := hid ((q9.out.below hb q9.out.lt).alloc (.cells (bkA F D) 33))
  have lb11 := (hs3.out.below hb).q2.lt
  have lb12 := (q9.out.below hb q9.out.lt).lt
  clear hal hb hs3 q9 x9 hE3
  go_upto_region 8 with fail
  obtain ⟨b11, eb11⟩ : ∃ b, w4.heap.size = b := ⟨_, rfl⟩
  obtain ⟨W4, eW⟩ : ∃ W, w4.alloc (.cells (bkA F D) 33) = W := ⟨_, rfl⟩
  rw [eW, eb11] at q11
  rw [eb11] at lb11 lb12
  rw [eW] at hs4 q94 ⊢
  rw [eb11]
  clear eW eb11
  have x0 := hs4.out.q0.cell
  have x1 := hs4.out.q1.cell
  have x2 := hs4.out.q2.cell
  have f1 := hs4.out.q1.frozen
  have f2 := hs4.out.q2.frozen
  have l1 := hs4.out.q1.lt
  have l2 := hs4.out.q2.lt
  have hB := hid hs4.out.bel
  have nab9 : ¬ b9 = w.heap.size + 1 := by omega
  have nbb9 : ¬ b9 = w.heap.size + 1 + 1 := by omega
  have ncb9 : ¬ w.heap.size + 1 = b9 := by omega
  have ndb9 : ¬ w.heap.size + 1 + 1 = b9 := by omega
  have nab11 : ¬ b11 = w.heap.size + 1 := by omega
  have nbb11 : ¬ b11 = w.heap.size + 1 + 1 := by omega
  have ncb11 : ¬ w.heap.size + 1 = b11 := by omega
  have ndb11 : ¬ w.heap.size + 1 + 1 = b11 := by omega
  have x9 := q94.out.cell
  have x11 := q11.out.cell
  clear hs4 q11 q94
  go_wp2_with fail
  go_region
  go_wp2
  exact bodyPost_ret (v := .tuple #[cur S2 A2, bkV F D, .nilIface]) (by simp [results, Tryd.results42, go_sem, x1, x2]; try rfl) rfl ⟨rfl, by repeat (first | exact hB.out | exact hB1.out | exact hB.out _ | refine Below.drew ?_ | refine Below.alloc ?_ (by first | omega | (simp; omega) | simp) _ | refine Below.setCell ?_ (by first | omega | (simp; omega) | simp) _)⟩
abbrev tkE (e0 e1 e2 e3 e4 e5 : Addr) (x : ((ByteArray × Int) × (Int × ByteArray)) × Int) : Value := .tuple #[cur x.1.1.1 x.1.1.2, bkV x.1.2.1 x.1.2.2, errV6 e0 e1 e2 e3 e4 e5 x.2]
theorem errV6_take (e0 e1 e2 e3 e4 e5 : Addr) (c : Int) (h : c = 0 ∨ c = 1 ∨ c = 4 ∨ c = 9) : errV6 e0 e1 e2 e3 e4 e5 c = errV e0 e1 e2 c := by
  rcases h with rfl | rfl | rfl | rfl <;> rfl
theorem ofB_code (t : ByteArray) : (ofB t).2 = 0 ∨ (ofB t).2 = 8 ∨ (ofB t).2 = 10 := by
  unfold ofB
  repeat' split
  all_goals simp
theorem takeBlock_impl (s : ByteArray) (a : Int) (e0 e1 e2 e3 e4 e5 : Addr) (w : World) (hs : s.size ≤ maxLen) (hE : Err6 w e0 e1 e2 e3 e4 e5) : Calls Tryd.prog 42 #[cur s a] w fun e w' => e = .returned (tkE e0 e1 e2 e3 e4 e5 (tkB s a)) ∧ Below w.heap.size w w' := by
  have hT := fun W (h : Err6 W e0 e1 e2 e3 e4 e5) => take_impl s a 2 e0 e1 e2 W hs h.base
  have hz : (takeV s a 2).2.2 = 0 → (takeV s a 2).2.1.size = 2 ∧ (takeV s a 2).1.1 = s := fun h => ⟨(takeV_size s a 2 h).1, (takeV_size s a 2 h).2.1⟩
  have hc2 := takeV_code s a 2
  by_cases h1 : (takeV s a 2).2.2 ≠ 0
  · have e : tkB s a = (((takeV s a 2).1, (0, ByteArray.empty)), (takeV s a 2).2.2) := by
      cases hst : stB s a
      · have e1 : takeV s a 2 = ((ByteArray.empty, 0), ByteArray.empty, 1) := by unfold takeV; rw [if_pos hst]
        unfold tkB
        rw [if_pos hst, e1]
      · have e1 : (takeV s a 2).1 = (s, a) := by
          unfold takeV at h1 ⊢
          rw [if_neg (by rw [hst]; simp), if_neg (by omega)] at h1 ⊢
          split
          · rfl
          · rename_i hno
            rw [if_neg hno] at h1
            exact absurd rfl h1
        unfold tkB
        rw [if_neg (by rw [hst]; simp), if_pos h1, e1]
    rw [e]
    obtain ⟨x, hx⟩ := errV_some e0 e1 e2 _ h1
    show Calls _ _ _ _ fun r w' => r = .returned (.tuple #[cur (takeV s a 2).1.1 (takeV s a 2).1.2, bkV 0 eS, errV6 e0 e1 e2 e3 e4 e5 (takeV s a 2).2.2]) ∧ _
    rw [errV6_take e0 e1 e2 e3 e4 e5 _ hc2, hx]
    unfold takeE at hT
    rw [hx] at hT
    exact tp_b s a w _ _ _ x e0 e1 e2 e3 e4 e5 hE hT
  · have h1' : (takeV s a 2).2.2 = 0 := Decidable.not_not.1 h1
    have hst : stB s a = true := by
      cases h : stB s a
      · exfalso
        have e1 : takeV s a 2 = ((ByteArray.empty, 0), ByteArray.empty, 1) := by unfold takeV; rw [if_pos h]
        rw [e1] at h1'
        cases h1'
      · rfl
    obtain ⟨z1, z2⟩ := hz h1'
    unfold takeE at hT
    rw [h1'] at hT
    have hW := fun W => wordOf_impl (takeV s a 2).2.1 W z1
    obtain ⟨n, hn, hn2⟩ := wordOf_nat (takeV s a 2).2.1
    have hK := fun W (h : Err6 W e0 e1 e2 e3 e4 e5) => take_impl (takeV s a 2).1.1 (takeV s a 2).1.2 (wordOf (takeV s a 2).2.1) e0 e1 e2 W (by rw [z2]; exact hs) h.base
    have hc3 := takeV_code (takeV s a 2).1.1 (takeV s a 2).1.2 (wordOf (takeV s a 2).2.1)
    have hy := takeV_size (takeV s a 2).1.1 (takeV s a 2).1.2 n
    rw [← hn] at hy
    by_cases h2 : (takeV (takeV s a 2).1.1 (takeV s a 2).1.2 (wordOf (takeV s a 2).2.1)).2.2 ≠ 0
    · have e : tkB s a = (((s, a), (0, ByteArray.empty)), (takeV (takeV s a 2).1.1 (takeV s a 2).1.2 (wordOf (takeV s a 2).2.1)).2.2) := by unfold tkB; rw [if_neg (by rw [hst]; simp), if_neg h1, if_pos h2]
      rw [e]
      obtain ⟨x, hx⟩ := errV_some e0 e1 e2 _ h2
      show Calls _ _ _ _ fun r w' => r = .returned (.tuple #[cur s a, bkV 0 eS, errV6 e0 e1 e2 e3 e4 e5 (takeV (takeV s a 2).1.1 (takeV s a 2).1.2 (wordOf (takeV s a 2).2.1)).2.2]) ∧ _
      rw [errV6_take e0 e1 e2 e3 e4 e5 _ hc3, hx]
      unfold takeE at hK
      rw [hx] at hK
      exact tp_c s a w _ _ _ _ _ _ _ x e0 e1 e2 e3 e4 e5 hE hT hW hK
    · have h2' := Decidable.not_not.1 h2
      obtain ⟨y1, _⟩ := hy h2'
      unfold takeE at hK
      rw [h2'] at hK
      have hO := fun W (h : Err6 W e0 e1 e2 e3 e4 e5) => readBlock_impl (takeV (takeV s a 2).1.1 (takeV s a 2).1.2 (wordOf (takeV s a 2).2.1)).2.1 e0 e1 e2 e3 e4 e5 W (by rw [y1]; unfold maxLen; omega) h
      by_cases h3 : (ofB (takeV (takeV s a 2).1.1 (takeV s a 2).1.2 (wordOf (takeV s a 2).2.1)).2.1).2 ≠ 0
      · have e : tkB s a = (((s, a), (0, ByteArray.empty)), (ofB (takeV (takeV s a 2).1.1 (takeV s a 2).1.2 (wordOf (takeV s a 2).2.1)).2.1).2) := by unfold tkB; rw [if_neg (by rw [hst]; simp), if_neg h1, if_neg h2, if_pos h3]
        rw [e]
        obtain ⟨x, hx⟩ := errV6_some e0 e1 e2 e3 e4 e5 _ h3
        show Calls _ _ _ _ fun r w' => r = .returned (.tuple #[cur s a, bkV 0 eS, errV6 e0 e1 e2 e3 e4 e5 (ofB (takeV (takeV s a 2).1.1 (takeV s a 2).1.2 (wordOf (takeV s a 2).2.1)).2.1).2]) ∧ _
        rw [hx]
        unfold ofE at hO
        rw [hx] at hO
        exact tp_d s a w _ _ _ _ _ _ _ _ _ x e0 e1 e2 e3 e4 e5 hE hT hW hK hO
      · have h3' := Decidable.not_not.1 h3
        have e : tkB s a = (((takeV (takeV s a 2).1.1 (takeV s a 2).1.2 (wordOf (takeV s a 2).2.1)).1, (ofB (takeV (takeV s a 2).1.1 (takeV s a 2).1.2 (wordOf (takeV s a 2).2.1)).2.1).1), 0) := by unfold tkB; rw [if_neg (by rw [hst]; simp), if_neg h1, if_neg h2, if_neg h3]
        rw [e]
        unfold ofE at hO
        rw [h3'] at hO
        exact tp_e s a w _ _ _ _ _ _ _ _ _ e0 e1 e2 e3 e4 e5 hE hT hW hK hO
theorem tkB_code (s : ByteArray) (a : Int) : (tkB s a).2 = 0 ∨ (tkB s a).2 = 1 ∨ (tkB s a).2 = 4 ∨ (tkB s a).2 = 9 ∨ (tkB s a).2 = 8 ∨ (tkB s a).2 = 10 := by
  unfold tkB
  split
  · exact .inr (.inl rfl)
  · split
    · have := takeV_code s a 2
      show (takeV s a 2).2.2 = 0 ∨ _
      omega
    · split
      · have := takeV_code (takeV s a 2).1.1 (takeV s a 2).1.2 (wordOf (takeV s a 2).2.1)
        show (takeV (takeV s a 2).1.1 (takeV s a 2).1.2 (wordOf (takeV s a 2).2.1)).2.2 = 0 ∨ _
        omega
      · split
        · have := ofB_code (takeV (takeV s a 2).1.1 (takeV s a 2).1.2 (wordOf (takeV s a 2).2.1)).2.1
          show (ofB (takeV (takeV s a 2).1.1 (takeV s a 2).1.2 (wordOf (takeV s a 2).2.1)).2.1).2 = 0 ∨ _
          omega
        · exact .inl rfl
end Go.Proofs.YtakdhmlegickmaaDoor
