/- The channels of the sound chip and its level: the program. -/
import Derived.Test.YtjdgfbaioafjcaaDoorYm
import Derived.Deep.Matrix
import Derived.Test.YtjdgfbaioafjcaaDoorYn00
import Derived.Test.YtjdgfbaioafjcaaDoorYn01
import Derived.Test.YtjdgfbaioafjcaaDoorYn10
import Derived.Test.YtjdgfbaioafjcaaDoorYn11
namespace Go.Proofs.YtjdgfbaioafjcaaDoor
open Go.ChangeShapes Go.WideShapes Go.ChangeAt Go.RowKit
set_option linter.unusedVariables false
set_option linter.unusedSimpArgs false

theorem off_and : ∀ r : Nat, r < 16 → ∀ i : Nat, i < 4 → (Nat.beq (Nat.land r (2 ^ i)) 0) = !(offB r i) := by decide +kernel
theorem off_bit (r i : Nat) (hr : r < 16) (hi : i < 4) (p : Int) (hp : p = ((2 ^ i : Nat) : Int)) : (bits .and .i64 (r : Int) p == 0) = !(offB r i) := by
  have hp2 : 2 ^ i < 65536 := by rcases (by omega : i = 0 ∨ i = 1 ∨ i = 2 ∨ i = 3) with rfl | rfl | rfl | rfl <;> decide
  rw [hp, bAnd r (2 ^ i) (by omega) hp2, ← off_and r hr i hi, Bool.eq_iff_iff]
  simp
theorem odd_bit (s : Nat) (hs : s < 131072) : (bits .and .i64 (s : Int) 1 == 0) = !(Nat.beq (Nat.land s 1) 1) := by
  rw [odd_int s hs]
  cases Nat.beq (Nat.land s 1) 1 <;> rfl
abbrev chA (t0 n0 : Bool) (v0 : Int) (t1 n1 : Bool) (v1 : Int) : Array Value := #[.bool t0, .bool n0, .int .i64 v0, .bool t1, .bool n1, .int .i64 v1]
abbrev zeA : Array Value := chA false false 0 false false 0
/-- a chip in a block, room for the answer, the channels that are being made -/
structure C3s (w W : World) (c : Sg) (A : Array Value) : Prop where
  q0 : Blk W w.heap.size (sgA c)
  q1 : Blk W (w.heap.size + 1) zeA
  q2 : Blk W (w.heap.size + 2) A
  bel : Below w.heap.size w W
theorem C3s.below {w W W' : World} {c : Sg} {A : Array Value} (h : C3s w W c A) (hb : Below W.heap.size W W') : C3s w W' c A :=
  ⟨h.q0.below hb h.q0.lt, h.q1.below hb h.q1.lt, h.q2.below hb h.q2.lt, h.bel.trans (hb.mono h.bel.size)⟩
theorem C3s.drew {w W : World} {c : Sg} {A : Array Value} (h : C3s w W c A) : C3s w W.drew c A := h.below ⟨rfl, rfl, rfl, Nat.le_refl _, fun _ _ => rfl⟩
theorem C3s.set {w W : World} {c : Sg} {A : Array Value} (h : C3s w W c A) (i : Nat) (u : Value) : C3s w (W.setCell ⟨w.heap.size + 2, i, none⟩ u) c (A.setIfInBounds i u) :=
  ⟨h.q0.other (by simp) u, h.q1.other (by simp) u, h.q2.set i u, h.bel.setCell (p := ⟨w.heap.size + 2, i, none⟩) (by simp) u⟩
theorem C3s.start (w : World) (c : Sg) (t t1 t2 : TypeId) : C3s w (((w.alloc (.cells (sgA c) t)).alloc (.cells zeA t1)).alloc (.cells zeA t2)) c zeA := by
  obtain ⟨q0, q1, hB⟩ := two_in (w := w) (sgA c) zeA t t1
  have e : ((w.alloc (.cells (sgA c) t)).alloc (.cells zeA t1)).heap.size = w.heap.size + 2 := by simp
  refine ⟨q0.alloc _, q1.alloc _, ?_, hB.alloc hB.size _⟩
  rw [← e]
  exact Blk.new _ _ _
set_option maxRecDepth 100000 in
set_option maxHeartbeats 8000000 in
theorem chans0_impl (x0 x1 x2 x6 sel c0 c1 noise ec : Int) (r3 r4 r5 r7 s e : Nat) (o0 o1 : Bool) (w : World) (L3 : r3 < 16) (L4 : r4 < 32) (L5 : r5 < 32) (L7 : r7 < 4) (Ls : s < 131072) (Le : e < 32) : Calls Tryd.prog 37 #[sgV ⟨x0, x1, x2, r3, r4, r5, x6, r7, sel, c0, c1, o0, o1, noise, s, e, ec⟩] w fun r w' => r = .returned (.agg (chA (o0 || offB r3 0) (Nat.beq (Nat.land s 1) 1 || offB r3 2) (volN r7 e r4 : Nat) (o1 || offB r3 1) (Nat.beq (Nat.land s 1) 1 || offB r3 3) (volN r7 e r5 : Nat))) ∧ Below w.heap.size w w' := by
  have hS0 := hid (C3s.start w ⟨x0, x1, x2, r3, r4, r5, x6, r7, sel, c0, c1, o0, o1, noise, s, e, ec⟩ 27 53 53)
  have hv0 := hid (fun w1 => vol_impl ⟨x0, x1, x2, r3, r4, r5, x6, r7, sel, c0, c1, o0, o1, noise, s, e, ec⟩ 0 r4 e r7 w1 (by omega) L4 Le L7 rfl rfl rfl)
  have hv1 := hid (fun w1 => vol_impl ⟨x0, x1, x2, r3, r4, r5, x6, r7, sel, c0, c1, o0, o1, noise, s, e, ec⟩ 1 r5 e r7 w1 (by omega) L5 Le L7 rfl rfl rfl)
  have fT0 := off_bit r3 0 L3 (by omega) 1 rfl
  have fT1 := off_bit r3 1 L3 (by omega) 2 rfl
  have fN0 := off_bit r3 2 L3 (by omega) 4 rfl
  have fN1 := off_bit r3 3 L3 (by omega) 8 rfl
  have fS := odd_int s Ls
  generalize volN r7 e r4 = V0 at *
  generalize volN r7 e r5 = V1 at *
  generalize offB r3 0 = bT0 at *
  generalize offB r3 1 = bT1 at *
  generalize offB r3 2 = bN0 at *
  generalize offB r3 3 = bN1 at *
  generalize Nat.beq (Nat.land s 1) 1 = bS at *
  clear L4 L5 L7 Le
  replace fT0 := hid fT0
  replace fT1 := hid fT1
  replace fN0 := hid fN0
  replace fN1 := hid fN1
  replace fS := hid fS
  go_enter Tryd.func37, Tryd.ntmps37
  go_upto_region 2 with fail
  obtain ⟨V, hV⟩ : ∃ V, ((w.alloc (.cells (sgA (⟨x0, x1, x2, r3, r4, r5, x6, r7, sel, c0, c1, o0, o1, noise, s, e, ec⟩ : Sg)) 27)).alloc (.cells zeA 53)).alloc (.cells zeA 53) = V := ⟨_, rfl⟩
  rw [hV] at hS0 ⊢
  clear hV
  have y3 : V.cell? ⟨w.heap.size, 3, none⟩ = some (.int .i64 (r3 : Int)) := hS0.out.q0.cell 3
  go_wp2
  go_loopw [9] (fun i wr => (i = .int .i64 0 ∧ C3s w wr (⟨x0, x1, x2, r3, r4, r5, x6, r7, sel, c0, c1, o0, o1, noise, s, e, ec⟩ : Sg) zeA) ∨ (i = .int .i64 1 ∧ C3s w wr (⟨x0, x1, x2, r3, r4, r5, x6, r7, sel, c0, c1, o0, o1, noise, s, e, ec⟩ : Sg) (chA (o0 || bT0) (bS || bN0) V0 false false 0)) ∨ (i = .int .i64 2 ∧ C3s w wr (⟨x0, x1, x2, r3, r4, r5, x6, r7, sel, c0, c1, o0, o1, noise, s, e, ec⟩ : Sg) (chA (o0 || bT0) (bS || bN0) V0 (o1 || bT1) (bS || bN1) V1))) (fun i _ => 2 - (intOf i).toNat)
  case atStart => exact .inl ⟨rfl, hS0.out⟩
  case round =>
    clear hS0 y3
    rcases hrel with ⟨rfl, hS⟩ | ⟨rfl, hS⟩ | ⟨rfl, hS⟩
    · cases o0
      · skip
        cases bS
        · skip
          obtain ⟨ZT, gT, hZT⟩ : ∃ ZT : Int, Hid (bits .and .i64 (r3 : Int) 1 = ZT) ∧ Hid ((ZT != 0) = bT0) := ⟨_, rfl, by have := fT0.out; unfold Hid; unfold bne; rw [this]; cases bT0 <;> rfl⟩
          obtain ⟨ZN, gN, hZN⟩ : ∃ ZN : Int, Hid (bits .and .i64 (r3 : Int) 4 = ZN) ∧ Hid ((ZN != 0) = bN0) := ⟨_, rfl, by have := fN0.out; unfold Hid; unfold bne; rw [this]; cases bN0 <;> rfl⟩
          have gS : Hid (bits .and .i64 (s : Int) 1 = 0) := fS.out
          have hN : Hid (∀ W, Below wr.heap.size wr W → C3s w (((W.setCell ⟨w.heap.size + 2, 0, none⟩ (.bool (ZT != 0))).setCell ⟨w.heap.size + 2, 1, none⟩ (.bool (ZN != 0))).setCell ⟨w.heap.size + 2, 2, none⟩ (.int .i64 (V0 : Int))) (⟨x0, x1, x2, r3, r4, r5, x6, r7, sel, c0, c1, false, o1, noise, s, e, ec⟩ : Sg) (chA bT0 bN0 V0 false false 0)) := fun W hb => by rw [hZT.out, hZN.out]; exact ((((hS.below hb).set 0 (.bool bT0)).set 1 (.bool bN0)).set 2 (.int .i64 (V0 : Int)))
          have hSS : Hid (∀ W, Below wr.heap.size wr W → (∀ i, W.cell? ⟨w.heap.size, i, none⟩ = (sgA (⟨x0, x1, x2, r3, r4, r5, x6, r7, sel, c0, c1, false, o1, noise, s, e, ec⟩ : Sg))[i]?)) := fun W hb => (hS.q0.below hb hS.q0.lt).cell
          have hX2 : Hid (∀ W, Below wr.heap.size wr W → (∀ i, i < 6 → (W.cell? ⟨w.heap.size + 1 + 1, i, none⟩).isSome = true) ∧ (∀ i, W.frozen? ⟨w.heap.size + 1 + 1, i, none⟩ = false) ∧ w.heap.size + 1 + 1 < W.heap.size) := fun W hb => ⟨fun i hi => by rw [(hS.q2.below hb hS.q2.lt).cell i]; rcases (by omega : i = 0 ∨ i = 1 ∨ i = 2 ∨ i = 3 ∨ i = 4 ∨ i = 5) with rfl | rfl | rfl | rfl | rfl | rfl <;> rfl, (hS.q2.below hb hS.q2.lt).frozen, (hS.q2.below hb hS.q2.lt).lt⟩
          have hS3 : Hid (∀ W u v x, Below wr.heap.size wr W → ∀ i, (((W.setCell ⟨w.heap.size + 1 + 1, 0, none⟩ u).setCell ⟨w.heap.size + 1 + 1, 1, none⟩ v).setCell ⟨w.heap.size + 1 + 1, 2, none⟩ x).cell? ⟨w.heap.size, i, none⟩ = (sgA (⟨x0, x1, x2, r3, r4, r5, x6, r7, sel, c0, c1, false, o1, noise, s, e, ec⟩ : Sg))[i]?) := fun W u v x hb => ((((hS.below hb).set 0 u).set 1 v).set 2 x).q0.cell
          clear hS
          go_upto_region 6 with fail
          refine chr0ff hSS.out hS3.out hX2.out hv0.out gT.out gN.out gS.out ?_
          intro v12 v13 v14 v15 v16 v17 v18 v19 v20 v21 v22 v23 v24 v25 v26 v27 v28 v29 v30 v31 v32 v33 v34 v35 v36 v37 v38 v39 v40 W2 hb2
          replace hb2 := hid hb2
          clear gS
          go_wp2_with fail
          go_roundw
          case rel => exact .inr (.inl ⟨rfl, hN.out _ hb2.out⟩)
          case measure => simp [intOf]
        · skip
          obtain ⟨ZT, gT, hZT⟩ : ∃ ZT : Int, Hid (bits .and .i64 (r3 : Int) 1 = ZT) ∧ Hid ((ZT != 0) = bT0) := ⟨_, rfl, by have := fT0.out; unfold Hid; unfold bne; rw [this]; cases bT0 <;> rfl⟩
          have gS : Hid (bits .and .i64 (s : Int) 1 = 1) := fS.out
          have hN : Hid (∀ W, Below wr.heap.size wr W → C3s w (((W.setCell ⟨w.heap.size + 2, 0, none⟩ (.bool (ZT != 0))).setCell ⟨w.heap.size + 2, 1, none⟩ (.bool true)).setCell ⟨w.heap.size + 2, 2, none⟩ (.int .i64 (V0 : Int))) (⟨x0, x1, x2, r3, r4, r5, x6, r7, sel, c0, c1, false, o1, noise, s, e, ec⟩ : Sg) (chA bT0 true V0 false false 0)) := fun W hb => by rw [hZT.out]; exact ((((hS.below hb).set 0 (.bool bT0)).set 1 (.bool true)).set 2 (.int .i64 (V0 : Int)))
          have hSS : Hid (∀ W, Below wr.heap.size wr W → (∀ i, W.cell? ⟨w.heap.size, i, none⟩ = (sgA (⟨x0, x1, x2, r3, r4, r5, x6, r7, sel, c0, c1, false, o1, noise, s, e, ec⟩ : Sg))[i]?)) := fun W hb => (hS.q0.below hb hS.q0.lt).cell
          have hX2 : Hid (∀ W, Below wr.heap.size wr W → (∀ i, i < 6 → (W.cell? ⟨w.heap.size + 1 + 1, i, none⟩).isSome = true) ∧ (∀ i, W.frozen? ⟨w.heap.size + 1 + 1, i, none⟩ = false) ∧ w.heap.size + 1 + 1 < W.heap.size) := fun W hb => ⟨fun i hi => by rw [(hS.q2.below hb hS.q2.lt).cell i]; rcases (by omega : i = 0 ∨ i = 1 ∨ i = 2 ∨ i = 3 ∨ i = 4 ∨ i = 5) with rfl | rfl | rfl | rfl | rfl | rfl <;> rfl, (hS.q2.below hb hS.q2.lt).frozen, (hS.q2.below hb hS.q2.lt).lt⟩
          have hS3 : Hid (∀ W u v x, Below wr.heap.size wr W → ∀ i, (((W.setCell ⟨w.heap.size + 1 + 1, 0, none⟩ u).setCell ⟨w.heap.size + 1 + 1, 1, none⟩ v).setCell ⟨w.heap.size + 1 + 1, 2, none⟩ x).cell? ⟨w.heap.size, i, none⟩ = (sgA (⟨x0, x1, x2, r3, r4, r5, x6, r7, sel, c0, c1, false, o1, noise, s, e, ec⟩ : Sg))[i]?) := fun W u v x hb => ((((hS.below hb).set 0 u).set 1 v).set 2 x).q0.cell
          clear hS
          go_upto_region 6 with fail
          refine chr0ft hSS.out hS3.out hX2.out hv0.out gT.out gS.out ?_
          intro v12 v13 v14 v15 v16 v17 v18 v19 v20 v21 v22 v23 v24 v25 v26 v27 v28 v29 v30 v31 v32 v33 v34 v35 v36 v37 v38 v39 v40 W2 hb2
          replace hb2 := hid hb2
          clear gS
          go_wp2_with fail
          go_roundw
          case rel => exact .inr (.inl ⟨rfl, hN.out _ hb2.out⟩)
          case measure => simp [intOf]
      · skip
        cases bS
        · skip
          obtain ⟨ZN, gN, hZN⟩ : ∃ ZN : Int, Hid (bits .and .i64 (r3 : Int) 4 = ZN) ∧ Hid ((ZN != 0) = bN0) := ⟨_, rfl, by have := fN0.out; unfold Hid; unfold bne; rw [this]; cases bN0 <;> rfl⟩
          have gS : Hid (bits .and .i64 (s : Int) 1 = 0) := fS.out
          have hN : Hid (∀ W, Below wr.heap.size wr W → C3s w (((W.setCell ⟨w.heap.size + 2, 0, none⟩ (.bool true)).setCell ⟨w.heap.size + 2, 1, none⟩ (.bool (ZN != 0))).setCell ⟨w.heap.size + 2, 2, none⟩ (.int .i64 (V0 : Int))) (⟨x0, x1, x2, r3, r4, r5, x6, r7, sel, c0, c1, true, o1, noise, s, e, ec⟩ : Sg) (chA true bN0 V0 false false 0)) := fun W hb => by rw [hZN.out]; exact ((((hS.below hb).set 0 (.bool true)).set 1 (.bool bN0)).set 2 (.int .i64 (V0 : Int)))
          have hSS : Hid (∀ W, Below wr.heap.size wr W → (∀ i, W.cell? ⟨w.heap.size, i, none⟩ = (sgA (⟨x0, x1, x2, r3, r4, r5, x6, r7, sel, c0, c1, true, o1, noise, s, e, ec⟩ : Sg))[i]?)) := fun W hb => (hS.q0.below hb hS.q0.lt).cell
          have hX2 : Hid (∀ W, Below wr.heap.size wr W → (∀ i, i < 6 → (W.cell? ⟨w.heap.size + 1 + 1, i, none⟩).isSome = true) ∧ (∀ i, W.frozen? ⟨w.heap.size + 1 + 1, i, none⟩ = false) ∧ w.heap.size + 1 + 1 < W.heap.size) := fun W hb => ⟨fun i hi => by rw [(hS.q2.below hb hS.q2.lt).cell i]; rcases (by omega : i = 0 ∨ i = 1 ∨ i = 2 ∨ i = 3 ∨ i = 4 ∨ i = 5) with rfl | rfl | rfl | rfl | rfl | rfl <;> rfl, (hS.q2.below hb hS.q2.lt).frozen, (hS.q2.below hb hS.q2.lt).lt⟩
          have hS3 : Hid (∀ W u v x, Below wr.heap.size wr W → ∀ i, (((W.setCell ⟨w.heap.size + 1 + 1, 0, none⟩ u).setCell ⟨w.heap.size + 1 + 1, 1, none⟩ v).setCell ⟨w.heap.size + 1 + 1, 2, none⟩ x).cell? ⟨w.heap.size, i, none⟩ = (sgA (⟨x0, x1, x2, r3, r4, r5, x6, r7, sel, c0, c1, true, o1, noise, s, e, ec⟩ : Sg))[i]?) := fun W u v x hb => ((((hS.below hb).set 0 u).set 1 v).set 2 x).q0.cell
          clear hS
          go_upto_region 6 with fail
          refine chr0tf hSS.out hS3.out hX2.out hv0.out gN.out gS.out ?_
          intro v12 v13 v14 v15 v16 v17 v18 v19 v20 v21 v22 v23 v24 v25 v26 v27 v28 v29 v30 v31 v32 v33 v34 v35 v36 v37 v38 v39 v40 W2 hb2
          replace hb2 := hid hb2
          clear gS
          go_wp2_with fail
          go_roundw
          case rel => exact .inr (.inl ⟨rfl, hN.out _ hb2.out⟩)
          case measure => simp [intOf]
        · skip
          have gS : Hid (bits .and .i64 (s : Int) 1 = 1) := fS.out
          have hN : Hid (∀ W, Below wr.heap.size wr W → C3s w (((W.setCell ⟨w.heap.size + 2, 0, none⟩ (.bool true)).setCell ⟨w.heap.size + 2, 1, none⟩ (.bool true)).setCell ⟨w.heap.size + 2, 2, none⟩ (.int .i64 (V0 : Int))) (⟨x0, x1, x2, r3, r4, r5, x6, r7, sel, c0, c1, true, o1, noise, s, e, ec⟩ : Sg) (chA true true V0 false false 0)) := fun W hb => by exact ((((hS.below hb).set 0 (.bool true)).set 1 (.bool true)).set 2 (.int .i64 (V0 : Int)))
          have hSS : Hid (∀ W, Below wr.heap.size wr W → (∀ i, W.cell? ⟨w.heap.size, i, none⟩ = (sgA (⟨x0, x1, x2, r3, r4, r5, x6, r7, sel, c0, c1, true, o1, noise, s, e, ec⟩ : Sg))[i]?)) := fun W hb => (hS.q0.below hb hS.q0.lt).cell
          have hX2 : Hid (∀ W, Below wr.heap.size wr W → (∀ i, i < 6 → (W.cell? ⟨w.heap.size + 1 + 1, i, none⟩).isSome = true) ∧ (∀ i, W.frozen? ⟨w.heap.size + 1 + 1, i, none⟩ = false) ∧ w.heap.size + 1 + 1 < W.heap.size) := fun W hb => ⟨fun i hi => by rw [(hS.q2.below hb hS.q2.lt).cell i]; rcases (by omega : i = 0 ∨ i = 1 ∨ i = 2 ∨ i = 3 ∨ i = 4 ∨ i = 5) with rfl | rfl | rfl | rfl | rfl | rfl <;> rfl, (hS.q2.below hb hS.q2.lt).frozen, (hS.q2.below hb hS.q2.lt).lt⟩
          have hS3 : Hid (∀ W u v x, Below wr.heap.size wr W → ∀ i, (((W.setCell ⟨w.heap.size + 1 + 1, 0, none⟩ u).setCell ⟨w.heap.size + 1 + 1, 1, none⟩ v).setCell ⟨w.heap.size + 1 + 1, 2, none⟩ x).cell? ⟨w.heap.size, i, none⟩ = (sgA (⟨x0, x1, x2, r3, r4, r5, x6, r7, sel, c0, c1, true, o1, noise, s, e, ec⟩ : Sg))[i]?) := fun W u v x hb => ((((hS.below hb).set 0 u).set 1 v).set 2 x).q0.cell
          clear hS
          go_upto_region 6 with fail
          refine chr0tt hSS.out hS3.out hX2.out hv0.out gS.out ?_
          intro v12 v13 v14 v15 v16 v17 v18 v19 v20 v21 v22 v23 v24 v25 v26 v27 v28 v29 v30 v31 v32 v33 v34 v35 v36 v37 v38 v39 v40 W2 hb2
          replace hb2 := hid hb2
          clear gS
          go_wp2_with fail
          go_roundw
          case rel => exact .inr (.inl ⟨rfl, hN.out _ hb2.out⟩)
          case measure => simp [intOf]

    · cases o1
      · skip
        cases bS
        · skip
          obtain ⟨ZT, gT, hZT⟩ : ∃ ZT : Int, Hid (bits .and .i64 (r3 : Int) 2 = ZT) ∧ Hid ((ZT != 0) = bT1) := ⟨_, rfl, by have := fT1.out; unfold Hid; unfold bne; rw [this]; cases bT1 <;> rfl⟩
          obtain ⟨ZN, gN, hZN⟩ : ∃ ZN : Int, Hid (bits .and .i64 (r3 : Int) 8 = ZN) ∧ Hid ((ZN != 0) = bN1) := ⟨_, rfl, by have := fN1.out; unfold Hid; unfold bne; rw [this]; cases bN1 <;> rfl⟩
          have gS : Hid (bits .and .i64 (s : Int) 1 = 0) := fS.out
          have hN : Hid (∀ W, Below wr.heap.size wr W → C3s w (((W.setCell ⟨w.heap.size + 2, 3, none⟩ (.bool (ZT != 0))).setCell ⟨w.heap.size + 2, 4, none⟩ (.bool (ZN != 0))).setCell ⟨w.heap.size + 2, 5, none⟩ (.int .i64 (V1 : Int))) (⟨x0, x1, x2, r3, r4, r5, x6, r7, sel, c0, c1, o0, false, noise, s, e, ec⟩ : Sg) (chA (o0 || bT0) (false || bN0) V0 bT1 bN1 V1)) := fun W hb => by rw [hZT.out, hZN.out]; exact ((((hS.below hb).set 3 (.bool bT1)).set 4 (.bool bN1)).set 5 (.int .i64 (V1 : Int)))
          have hSS : Hid (∀ W, Below wr.heap.size wr W → (∀ i, W.cell? ⟨w.heap.size, i, none⟩ = (sgA (⟨x0, x1, x2, r3, r4, r5, x6, r7, sel, c0, c1, o0, false, noise, s, e, ec⟩ : Sg))[i]?)) := fun W hb => (hS.q0.below hb hS.q0.lt).cell
          have hX2 : Hid (∀ W, Below wr.heap.size wr W → (∀ i, i < 6 → (W.cell? ⟨w.heap.size + 1 + 1, i, none⟩).isSome = true) ∧ (∀ i, W.frozen? ⟨w.heap.size + 1 + 1, i, none⟩ = false) ∧ w.heap.size + 1 + 1 < W.heap.size) := fun W hb => ⟨fun i hi => by rw [(hS.q2.below hb hS.q2.lt).cell i]; rcases (by omega : i = 0 ∨ i = 1 ∨ i = 2 ∨ i = 3 ∨ i = 4 ∨ i = 5) with rfl | rfl | rfl | rfl | rfl | rfl <;> rfl, (hS.q2.below hb hS.q2.lt).frozen, (hS.q2.below hb hS.q2.lt).lt⟩
          have hS3 : Hid (∀ W u v x, Below wr.heap.size wr W → ∀ i, (((W.setCell ⟨w.heap.size + 1 + 1, 3, none⟩ u).setCell ⟨w.heap.size + 1 + 1, 4, none⟩ v).setCell ⟨w.heap.size + 1 + 1, 5, none⟩ x).cell? ⟨w.heap.size, i, none⟩ = (sgA (⟨x0, x1, x2, r3, r4, r5, x6, r7, sel, c0, c1, o0, false, noise, s, e, ec⟩ : Sg))[i]?) := fun W u v x hb => ((((hS.below hb).set 3 u).set 4 v).set 5 x).q0.cell
          clear hS
          go_upto_region 6 with fail
          refine chr1ff hSS.out hS3.out hX2.out hv1.out gT.out gN.out gS.out ?_
          intro v12 v13 v14 v15 v16 v17 v18 v19 v20 v21 v22 v23 v24 v25 v26 v27 v28 v29 v30 v31 v32 v33 v34 v35 v36 v37 v38 v39 v40 W2 hb2
          replace hb2 := hid hb2
          clear gS
          go_wp2_with fail
          go_roundw
          case rel => exact .inr (.inr ⟨rfl, hN.out _ hb2.out⟩)
          case measure => simp [intOf]
        · skip
          obtain ⟨ZT, gT, hZT⟩ : ∃ ZT : Int, Hid (bits .and .i64 (r3 : Int) 2 = ZT) ∧ Hid ((ZT != 0) = bT1) := ⟨_, rfl, by have := fT1.out; unfold Hid; unfold bne; rw [this]; cases bT1 <;> rfl⟩
          have gS : Hid (bits .and .i64 (s : Int) 1 = 1) := fS.out
          have hN : Hid (∀ W, Below wr.heap.size wr W → C3s w (((W.setCell ⟨w.heap.size + 2, 3, none⟩ (.bool (ZT != 0))).setCell ⟨w.heap.size + 2, 4, none⟩ (.bool true)).setCell ⟨w.heap.size + 2, 5, none⟩ (.int .i64 (V1 : Int))) (⟨x0, x1, x2, r3, r4, r5, x6, r7, sel, c0, c1, o0, false, noise, s, e, ec⟩ : Sg) (chA (o0 || bT0) (true || bN0) V0 bT1 true V1)) := fun W hb => by rw [hZT.out]; exact ((((hS.below hb).set 3 (.bool bT1)).set 4 (.bool true)).set 5 (.int .i64 (V1 : Int)))
          have hSS : Hid (∀ W, Below wr.heap.size wr W → (∀ i, W.cell? ⟨w.heap.size, i, none⟩ = (sgA (⟨x0, x1, x2, r3, r4, r5, x6, r7, sel, c0, c1, o0, false, noise, s, e, ec⟩ : Sg))[i]?)) := fun W hb => (hS.q0.below hb hS.q0.lt).cell
          have hX2 : Hid (∀ W, Below wr.heap.size wr W → (∀ i, i < 6 → (W.cell? ⟨w.heap.size + 1 + 1, i, none⟩).isSome = true) ∧ (∀ i, W.frozen? ⟨w.heap.size + 1 + 1, i, none⟩ = false) ∧ w.heap.size + 1 + 1 < W.heap.size) := fun W hb => ⟨fun i hi => by rw [(hS.q2.below hb hS.q2.lt).cell i]; rcases (by omega : i = 0 ∨ i = 1 ∨ i = 2 ∨ i = 3 ∨ i = 4 ∨ i = 5) with rfl | rfl | rfl | rfl | rfl | rfl <;> rfl, (hS.q2.below hb hS.q2.lt).frozen, (hS.q2.below hb hS.q2.lt).lt⟩
          have hS3 : Hid (∀ W u v x, Below wr.heap.size wr W → ∀ i, (((W.setCell ⟨w.heap.size + 1 + 1, 3, none⟩ u).setCell ⟨w.heap.size + 1 + 1, 4, none⟩ v).setCell ⟨w.heap.size + 1 + 1, 5, none⟩ x).cell? ⟨w.heap.size, i, none⟩ = (sgA (⟨x0, x1, x2, r3, r4, r5, x6, r7, sel, c0, c1, o0, false, noise, s, e, ec⟩ : Sg))[i]?) := fun W u v x hb => ((((hS.below hb).set 3 u).set 4 v).set 5 x).q0.cell
          clear hS
          go_upto_region 6 with fail
          refine chr1ft hSS.out hS3.out hX2.out hv1.out gT.out gS.out ?_
          intro v12 v13 v14 v15 v16 v17 v18 v19 v20 v21 v22 v23 v24 v25 v26 v27 v28 v29 v30 v31 v32 v33 v34 v35 v36 v37 v38 v39 v40 W2 hb2
          replace hb2 := hid hb2
          clear gS
          go_wp2_with fail
          go_roundw
          case rel => exact .inr (.inr ⟨rfl, hN.out _ hb2.out⟩)
          case measure => simp [intOf]
      · skip
        cases bS
        · skip
          obtain ⟨ZN, gN, hZN⟩ : ∃ ZN : Int, Hid (bits .and .i64 (r3 : Int) 8 = ZN) ∧ Hid ((ZN != 0) = bN1) := ⟨_, rfl, by have := fN1.out; unfold Hid; unfold bne; rw [this]; cases bN1 <;> rfl⟩
          have gS : Hid (bits .and .i64 (s : Int) 1 = 0) := fS.out
          have hN : Hid (∀ W, Below wr.heap.size wr W → C3s w (((W.setCell ⟨w.heap.size + 2, 3, none⟩ (.bool true)).setCell ⟨w.heap.size + 2, 4, none⟩ (.bool (ZN != 0))).setCell ⟨w.heap.size + 2, 5, none⟩ (.int .i64 (V1 : Int))) (⟨x0, x1, x2, r3, r4, r5, x6, r7, sel, c0, c1, o0, true, noise, s, e, ec⟩ : Sg) (chA (o0 || bT0) (false || bN0) V0 true bN1 V1)) := fun W hb => by rw [hZN.out]; exact ((((hS.below hb).set 3 (.bool true)).set 4 (.bool bN1)).set 5 (.int .i64 (V1 : Int)))
          have hSS : Hid (∀ W, Below wr.heap.size wr W → (∀ i, W.cell? ⟨w.heap.size, i, none⟩ = (sgA (⟨x0, x1, x2, r3, r4, r5, x6, r7, sel, c0, c1, o0, true, noise, s, e, ec⟩ : Sg))[i]?)) := fun W hb => (hS.q0.below hb hS.q0.lt).cell
          have hX2 : Hid (∀ W, Below wr.heap.size wr W → (∀ i, i < 6 → (W.cell? ⟨w.heap.size + 1 + 1, i, none⟩).isSome = true) ∧ (∀ i, W.frozen? ⟨w.heap.size + 1 + 1, i, none⟩ = false) ∧ w.heap.size + 1 + 1 < W.heap.size) := fun W hb => ⟨fun i hi => by rw [(hS.q2.below hb hS.q2.lt).cell i]; rcases (by omega : i = 0 ∨ i = 1 ∨ i = 2 ∨ i = 3 ∨ i = 4 ∨ i = 5) with rfl | rfl | rfl | rfl | rfl | rfl <;> rfl, (hS.q2.below hb hS.q2.lt).frozen, (hS.q2.below hb hS.q2.lt).lt⟩
          have hS3 : Hid (∀ W u v x, Below wr.heap.size wr W → ∀ i, (((W.setCell ⟨w.heap.size + 1 + 1, 3, none⟩ u).setCell ⟨w.heap.size + 1 + 1, 4, none⟩ v).setCell ⟨w.heap.size + 1 + 1, 5, none⟩ x).cell? ⟨w.heap.size, i, none⟩ = (sgA (⟨x0, x1, x2, r3, r4, r5, x6, r7, sel, c0, c1, o0, true, noise, s, e, ec⟩ : Sg))[i]?) := fun W u v x hb => ((((hS.below hb).set 3 u).set 4 v).set 5 x).q0.cell
          clear hS
          go_upto_region 6 with fail
          refine chr1tf hSS.out hS3.out hX2.out hv1.out gN.out gS.out ?_
          intro v12 v13 v14 v15 v16 v17 v18 v19 v20 v21 v22 v23 v24 v25 v26 v27 v28 v29 v30 v31 v32 v33 v34 v35 v36 v37 v38 v39 v40 W2 hb2
          replace hb2 := hid hb2
          clear gS
          go_wp2_with fail
          go_roundw
          case rel => exact .inr (.inr ⟨rfl, hN.out _ hb2.out⟩)
          case measure => simp [intOf]
        · skip
          have gS : Hid (bits .and .i64 (s : Int) 1 = 1) := fS.out
          have hN : Hid (∀ W, Below wr.heap.size wr W → C3s w (((W.setCell ⟨w.heap.size + 2, 3, none⟩ (.bool true)).setCell ⟨w.heap.size + 2, 4, none⟩ (.bool true)).setCell ⟨w.heap.size + 2, 5, none⟩ (.int .i64 (V1 : Int))) (⟨x0, x1, x2, r3, r4, r5, x6, r7, sel, c0, c1, o0, true, noise, s, e, ec⟩ : Sg) (chA (o0 || bT0) (true || bN0) V0 true true V1)) := fun W hb => by exact ((((hS.below hb).set 3 (.bool true)).set 4 (.bool true)).set 5 (.int .i64 (V1 : Int)))
          have hSS : Hid (∀ W, Below wr.heap.size wr W → (∀ i, W.cell? ⟨w.heap.size, i, none⟩ = (sgA (⟨x0, x1, x2, r3, r4, r5, x6, r7, sel, c0, c1, o0, true, noise, s, e, ec⟩ : Sg))[i]?)) := fun W hb => (hS.q0.below hb hS.q0.lt).cell
          have hX2 : Hid (∀ W, Below wr.heap.size wr W → (∀ i, i < 6 → (W.cell? ⟨w.heap.size + 1 + 1, i, none⟩).isSome = true) ∧ (∀ i, W.frozen? ⟨w.heap.size + 1 + 1, i, none⟩ = false) ∧ w.heap.size + 1 + 1 < W.heap.size) := fun W hb => ⟨fun i hi => by rw [(hS.q2.below hb hS.q2.lt).cell i]; rcases (by omega : i = 0 ∨ i = 1 ∨ i = 2 ∨ i = 3 ∨ i = 4 ∨ i = 5) with rfl | rfl | rfl | rfl | rfl | rfl <;> rfl, (hS.q2.below hb hS.q2.lt).frozen, (hS.q2.below hb hS.q2.lt).lt⟩
          have hS3 : Hid (∀ W u v x, Below wr.heap.size wr W → ∀ i, (((W.setCell ⟨w.heap.size + 1 + 1, 3, none⟩ u).setCell ⟨w.heap.size + 1 + 1, 4, none⟩ v).setCell ⟨w.heap.size + 1 + 1, 5, none⟩ x).cell? ⟨w.heap.size, i, none⟩ = (sgA (⟨x0, x1, x2, r3, r4, r5, x6, r7, sel, c0, c1, o0, true, noise, s, e, ec⟩ : Sg))[i]?) := fun W u v x hb => ((((hS.below hb).set 3 u).set 4 v).set 5 x).q0.cell
          clear hS
          go_upto_region 6 with fail
          refine chr1tt hSS.out hS3.out hX2.out hv1.out gS.out ?_
          intro v12 v13 v14 v15 v16 v17 v18 v19 v20 v21 v22 v23 v24 v25 v26 v27 v28 v29 v30 v31 v32 v33 v34 v35 v36 v37 v38 v39 v40 W2 hb2
          replace hb2 := hid hb2
          clear gS
          go_wp2_with fail
          go_roundw
          case rel => exact .inr (.inr ⟨rfl, hN.out _ hb2.out⟩)
          case measure => simp [intOf]

    · have x1 := hS.q1.cell
      have x2 := hS.q2.cell
      have f1 := hS.q1.frozen
      have l1 := hS.q1.lt
      have hB := hid hS.bel
      clear hS
      obtain ⟨u0, eu0⟩ : ∃ u, (o0 || bT0) = u := ⟨_, rfl⟩
      obtain ⟨u1, eu1⟩ : ∃ u, (o1 || bT1) = u := ⟨_, rfl⟩
      obtain ⟨m0, em0⟩ : ∃ u, (bS || bN0) = u := ⟨_, rfl⟩
      obtain ⟨m1, em1⟩ : ∃ u, (bS || bN1) = u := ⟨_, rfl⟩
      rw [eu0, eu1, em0, em1] at x2
      have hE : Hid (chA (o0 || bT0) (bS || bN0) (V0 : Int) (o1 || bT1) (bS || bN1) (V1 : Int) = chA u0 m0 V0 u1 m1 V1) := by unfold Hid; rw [eu0, eu1, em0, em1]
      clear eu0 eu1 em0 em1
      go_wp2
      refine bodyPost_ret (v := .agg (chA u0 m0 V0 u1 m1 V1)) (by simp [results, Tryd.results37, go_sem, x1]) rfl ⟨by rw [hE.out], ?_⟩
      iterate 6 refine Below.setCell ?_ (by first | omega | (simp; done) | (simp; omega)) _
      exact hB.out
theorem chans_impl (c : Sg) (w : World) (hok : okS c = true) : Calls Tryd.prog 37 #[sgV c] w fun e w' => e = .returned (.agg (chA (c.o0 || offB c.r3.toNat 0) (Nat.beq (Nat.land c.shift.toNat 1) 1 || offB c.r3.toNat 2) (volN c.r7.toNat c.env.toNat c.r4.toNat : Nat) (c.o1 || offB c.r3.toNat 1) (Nat.beq (Nat.land c.shift.toNat 1) 1 || offB c.r3.toNat 3) (volN c.r7.toNat c.env.toNat c.r5.toNat : Nat))) ∧ Below w.heap.size w w' := by
  obtain ⟨hr, hs, h0, h1, hn, hsh, he, hec⟩ := (okS_iff c).1 hok
  have b3 := hr 3 (by omega)
  have b4 := hr 4 (by omega)
  have b5 := hr 5 (by omega)
  have b7 := hr 7 (by omega)
  simp only [Sg.reg, maskN] at b3 b4 b5 b7
  have := chans0_impl c.r0 c.r1 c.r2 c.r6 c.sel c.c0 c.c1 c.noise c.ec c.r3.toNat c.r4.toNat c.r5.toNat c.r7.toNat c.shift.toNat c.env.toNat c.o0 c.o1 w (by omega) (by omega) (by omega) (by omega) (by omega) (by omega)
  rw [Int.toNat_of_nonneg b3.1, Int.toNat_of_nonneg b4.1, Int.toNat_of_nonneg b5.1, Int.toNat_of_nonneg b7.1, Int.toNat_of_nonneg (by omega : 0 ≤ c.shift), Int.toNat_of_nonneg he.1] at this
  exact this
end Go.Proofs.YtjdgfbaioafjcaaDoor
