/- A block that is taken off a cursor, with its code: the program. -/
import Derived.Test.YtakdhmlegickmaaDoorZcw
namespace Go.Proofs.YtakdhmlegickmaaDoor
open Go.ChangeShapes Go.WideShapes Go.ChangeAt Go.RowKit
set_option linter.unusedVariables false
set_option linter.unusedSimpArgs false

theorem two_new (w : World) (A B : Array Value) (t u : TypeId) : Blk ((w.alloc (.cells A t)).alloc (.cells B u)) w.heap.size A ∧ Blk ((w.alloc (.cells A t)).alloc (.cells B u)) (w.heap.size + 1) B ∧ Below w.heap.size w ((w.alloc (.cells A t)).alloc (.cells B u)) := by
  refine ⟨(Blk.new w A t).alloc _, ?_, ((Below.refl _ _).alloc (Nat.le_refl _) _).alloc (by simp) _⟩
  have := Blk.new (w.alloc (.cells A t)) B u
  rw [World.size_alloc] at this
  exact this
set_option maxRecDepth 100000 in
set_option maxHeartbeats 2000000 in
theorem tkb_impl (s : ByteArray) (a : Int) (e0 e1 e2 e3 e4 e5 : Addr) (w : World) (hs : s.size ≤ maxLen) (hE : Err6 w e0 e1 e2 e3 e4 e5) : Calls Tryd.prog 16 #[cur s a] w fun e w' => e = .returned (tkT (tkB s a)) ∧ Below w.heap.size w w' := by
  have hT := hid (fun W (h : Err6 W e0 e1 e2 e3 e4 e5) => takeBlock_impl s a e0 e1 e2 e3 e4 e5 W hs h)
  have hc := tkB_code s a
  obtain ⟨X, hX⟩ : ∃ X, tkB s a = X := ⟨_, rfl⟩
  rw [hX] at hT hc ⊢
  clear hX
  obtain ⟨⟨⟨S, A⟩, ⟨F, D⟩⟩, c⟩ := X
  simp only at hc
  have hBC := hid (fun W (h : Err6 W e0 e1 e2 e3 e4 e5) => blockCode_any e0 e1 e2 e3 e4 e5 c W h (by omega))
  clear hc
  obtain ⟨R, hR⟩ : ∃ R, errV6 e0 e1 e2 e3 e4 e5 c = R := ⟨_, rfl⟩
  have hT2 : Hid (∀ W, Err6 W e0 e1 e2 e3 e4 e5 → Calls Tryd.prog 42 #[cur s a] W fun e w' => e = .returned (.tuple #[cur S A, bkV F D, R]) ∧ Below W.heap.size W w') := by
    have h := hT.out
    unfold tkE at h
    rw [hR] at h
    exact h
  rw [hR] at hBC
  clear hR hT
  show Calls _ _ _ _ fun e w' => e = .returned (.tuple #[cur S A, bkV F D, .int .i64 c]) ∧ _
  have hs0 := hid (K3.start w s a 39 39 33)
  replace hE := hid hE
  go_enter Tryd.func16, Tryd.ntmps16
  go_upto_region 1 with fail
  obtain ⟨W0, hW0⟩ : ∃ W, ((w.alloc (.cells (curA s a) 39)).alloc (.cells (curA eS 0) 39)).alloc (.cells (bkA 0 eS) 33) = W := ⟨_, rfl⟩
  rw [hW0] at hs0 ⊢
  clear hW0
  have x0 := hs0.out.q0.cell
  go_wp2_with fail
  refine (hT2.out _ (hE.out.below hs0.out.bel)).mono ?_
  rintro e w2 ⟨rfl, hb⟩
  obtain ⟨q5, q6, hal⟩ := two_new w2 (curA S A) (bkA F D) 39 33
  have hs2 := hid ((hs0.out.below hb).below hal)
  have lb5 := (hs0.out.below hb).q2.lt
  replace q5 := hid q5
  replace q6 := hid q6
  clear hal hb x0 hs0
  go_upto_region 2 with fail
  obtain ⟨b5, eb5⟩ : ∃ b, w2.heap.size = b := ⟨_, rfl⟩
  obtain ⟨W2, eW⟩ : ∃ W, (w2.alloc (.cells (curA S A) 39)).alloc (.cells (bkA F D) 33) = W := ⟨_, rfl⟩
  rw [eW, eb5] at q5 q6
  rw [eb5] at lb5
  rw [eW] at hs2 ⊢
  rw [eb5]
  clear eW eb5
  have x1 := hs2.out.q1.cell
  have x2 := hs2.out.q2.cell
  have f1 := hs2.out.q1.frozen
  have f2 := hs2.out.q2.frozen
  have l1 := hs2.out.q1.lt
  have l2 := hs2.out.q2.lt
  have x5 := q5.out.cell
  have x6 := q6.out.cell
  have hB := hid hs2.out.bel
  have n1 : ¬ b5 = w.heap.size + 1 := by omega
  have n2 : ¬ b5 = w.heap.size + 1 + 1 := by omega
  have n3 : ¬ w.heap.size + 1 = b5 := by omega
  have n4 : ¬ w.heap.size + 1 + 1 = b5 := by omega
  have n5 : ¬ b5 + 1 = w.heap.size + 1 := by omega
  have n6 : ¬ b5 + 1 = w.heap.size + 1 + 1 := by omega
  have n7 : ¬ w.heap.size + 1 = b5 + 1 := by omega
  have n8 : ¬ w.heap.size + 1 + 1 = b5 + 1 := by omega
  clear hs2 q5 q6
  go_region_with (go_at_call 38; refine (hBC.out _ (hE.out.below (by repeat (first | exact hB.out | refine Below.drew ?_ | refine Below.alloc ?_ (by first | omega | (simp; omega) | simp) _ | refine Below.setCell ?_ (by first | omega | (simp; omega) | simp) _)))).mono ?_; rintro e w' ⟨rfl, hww⟩; obtain rfl := hww.symm)
  all_goals
    go_wp2
    exact bodyPost_ret (v := .tuple #[cur S A, bkV F D, .int .i64 c]) (by simp [results, Tryd.results16, go_sem, x1, x2]; try rfl) rfl ⟨rfl, by repeat (first | exact hB.out | refine Below.drew ?_ | refine Below.alloc ?_ (by first | omega | (simp; omega) | simp) _ | refine Below.setCell ?_ (by first | omega | (simp; omega) | simp) _)⟩
end Go.Proofs.YtakdhmlegickmaaDoor
