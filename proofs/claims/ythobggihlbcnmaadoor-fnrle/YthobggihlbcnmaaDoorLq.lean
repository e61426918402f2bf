/- The runs of what was compressed, one by one to whoever asks for them: the program's iterator. -/
import Derived.Test.YthobggihlbcnmaaDoorLp
import Derived.Test.YthobggihlbcnmaaDoorVj
namespace Go.Proofs.YthobggihlbcnmaaDoor
open Go.ChangeShapes Go.WideShapes Go.ChangeAt Go.RowKit Go.Shelf
attribute [local go_sem] Oper.semAt_some
set_option linter.unusedVariables false
set_option linter.unusedSimpArgs false

set_option maxRecDepth 100000 in
set_option maxHeartbeats 1000000 in
theorem tr_cut (t : ByteArray) (a : Nat) (e0 e1 e2 : Addr) (w : World) (hE : Errs w e0 e1 e2) (ht : t.size ≤ 65536) (ha : a < t.size) (hp : pfB (t.extract a t.size) = true) (haz : t.size < a + 4) :
    Calls Tryd.prog 32 #[cur t (a : Int)] w fun e w' => e = .returned (.tuple #[cur t (a : Int), rnV 0 0, iX e2]) ∧ Below w.heap.size w w' := by
  have hP := hid (fun W => hp_impl (t.extract a t.size) W (by simp [ByteArray.size_extract]; omega))
  rw [hp] at hP
  have hT := hid (fun W (hW : Errs W e0 e1 e2) => take_impl t a (4 : Nat) e0 e1 e2 W (by unfold maxLen; omega) hW)
  rw [take_cut haz (by omega) ht (by omega)] at hT
  have hT2 : Hid (∀ W, Errs W e0 e1 e2 → Calls Tryd.prog 37 #[cur t (a : Int), .int .i64 4] W fun e w' => e = .returned (.tuple #[cur t (a : Int), .string ⟨#[]⟩, iX e2]) ∧ Below W.heap.size W w') := fun W hW => hT.out W hW
  clear hT hp
  replace hE := hid hE
  have ha2 : (a : Int) ≤ (t.size : Int) := by omega
  clear haz ha
  have hF := hid (three_newL w #[.string t, .int .i64 (a : Int)] #[.string ⟨#[]⟩, .int .i64 0] #[.int .u8 0, .int .i64 0] 61 61 39)
  go_enter Tryd.func32, Tryd.ntmps32
  go_wp2_with fail
  refine (hP.out _).mono ?_
  rintro e w1 ⟨rfl, hw1⟩
  rw [← hw1] at hF
  obtain ⟨hsz, q0, q1, q2, hb1⟩ := hF.out
  clear hF hw1 hP
  have hE1 := hid (hE.out.below (hb1.mono (Nat.le_refl _)))
  have x0 := q0.cell
  have l0 := q0.lt
  replace q0 := hid q0
  replace q1 := hid q1
  replace q2 := hid q2
  replace hb1 := hid hb1
  replace hsz := hid hsz
  go_wp2_with fail
  refine (hT2.out _ hE1.out).mono ?_
  rintro e w2 ⟨rfl, hb2⟩
  have q3 := q1.out.below hb2 q1.out.lt
  have q4 := q2.out.below hb2 q2.out.lt
  have q5 := q0.out.below hb2 q0.out.lt
  have hb3 := hid (new_trans hb1.out hb2)
  have hs2 : Hid (w.heap.size + 1 + 1 + 1 ≤ w2.heap.size) := by have h1 := hb2.size; have h2 := hsz.out; unfold Hid; omega
  have x3 := q3.cell
  have f3 := q3.frozen
  have l3 := q3.lt
  have x4 := q4.cell
  have f4 := q4.frozen
  have l4 := q4.lt
  have x5 := q5.cell
  have l5 := q5.lt
  clear hb2 x0 l0 q0 q1 q2 hE1 hb1 hT2 hsz q3 q4 q5
  go_wp2
  refine bodyPost_ret (v := .tuple #[cur t (a : Int), rnV 0 0, iX e2]) (by simp [results, Tryd.results32, go_sem, x3, x4, f3, f4, l3, l4]) rfl ⟨rfl, ?_⟩
  have hh := hs2.out
  have hb4 := hb3.out.alloc hb3.out.size (.cells #[.string t, .int .i64 (a : Int)] 61)
  repeat (first | exact hb4 | exact hb3.out | refine Below.drew ?_ | refine Below.setCell ?_ (by first | omega | (simp; omega) | simp) _ | refine Below.alloc ?_ (by first | omega | (simp; omega) | simp) _)
end Go.Proofs.YthobggihlbcnmaaDoor
