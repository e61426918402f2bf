/- What instructions do to the machine: 0, 1, 2, 3, 4, 5, 6, 19, 20, 21, 22, 23. -/
import Derived.Test.YtgpmpfikeindfaaGreatDoorV11
namespace Go.Proofs.YtgpmpfikeindfaaGreatDoor
open Go.ChangeShapes Go.WideShapes Go.ChangeAt Go.RowKit
set_option linter.unusedVariables false
set_option linter.unusedSimpArgs false

set_option maxRecDepth 100000 in
set_option maxHeartbeats 2000000 in
theorem run_0 (a b m l : Nat) (w : Bs) (W : World) (X : Nat) (x : Mx) (n : Nat) (vr vm cv : Value) (h : NSt w W X x n vr vm cv) (hl : x.cy.length ≤ 900) (hk : okM x.m = true) (hc : x.c.ok) (ha : a < 8) (hb : b < 8) (hm : m < 256) (hn : n < 256) :
    Calls Tryz.prog 51 #[.pointer (some ⟨X, 0, none⟩), insV 0 a b m l] W fun e W' => e = .returned (.tuple #[]) ∧ ∃ vr' vm' cv', NSt w W' X (x.run n a b m 0) n vr' vm' cv' := by
  have e : x.run n a b m 0 = x := rfl
  rw [e]
  clear e
  obtain ⟨hcb, hcc, hcd, hce, hch, hcl, hca, hcf, hcs, hcp⟩ := id hc
  obtain ⟨w2, hw2⟩ : ∃ w2 : Bs, ({ w with k := (W.heap.size, #[.int .i64 0, .int .i64 (a : Int), .int .i64 (b : Int), .int .i64 (m : Int), .int .i64 (l : Int)]) :: w.k } : Bs) = w2 := ⟨_, rfl⟩
  have h1 := h.boxed #[.int .i64 0, .int .i64 (a : Int), .int .i64 (b : Int), .int .i64 (m : Int), .int .i64 (l : Int)] 64
  rw [hw2] at h1
  have hend : Hid (∀ W' y vr' vm' cv', NSt w2 W' X y n vr' vm' cv' → NSt w W' X y n vr' vm' cv') := fun W' y _ _ _ hh => by rw [← hw2] at hh; exact hh.less
  have hin : Hid (∀ W' y vr' vm' cv', NSt w2 W' X y n vr' vm' cv' → ∀ i, W'.cell? ⟨W.heap.size, i, none⟩ = (#[.int .i64 0, .int .i64 (a : Int), .int .i64 (b : Int), .int .i64 (m : Int), .int .i64 (l : Int)] : Array Value)[i]?) := fun W' y _ _ _ hh => by rw [← hw2] at hh; exact hh.kept.cell
  have i1 := hin.out _ _ _ _ _ h1
  have x1 := h1.blk.cell
  have f1 := h1.blk.frozen
  have z1 := h1.blk.lt
  replace h1 := hid h1
  clear h hw2
  go_enter Tryz.func51, Tryz.ntmps51
  go_upto_region 1 with fail
  obtain ⟨V, hV⟩ : ∃ V, W.alloc (Obj.cells #[.int .i64 0, .int .i64 (a : Int), .int .i64 (b : Int), .int .i64 (m : Int), .int .i64 (l : Int)] 64) = V := ⟨_, rfl⟩
  rw [hV] at h1 i1 x1 f1 z1 ⊢
  generalize W.heap.size = I at *
  clear hV
  go_wp2
  exact bodyPost_end (v := .tuple #[]) (by simp [results, Tryz.results51]) rfl ⟨rfl, _, _, _, hend.out _ _ _ _ _ (by first | exact h1.out | exact (h1.out).drew)⟩
set_option maxRecDepth 100000 in
set_option maxHeartbeats 2000000 in
theorem run_1 (a b m l : Nat) (w : Bs) (W : World) (X : Nat) (x : Mx) (n : Nat) (vr vm cv : Value) (h : NSt w W X x n vr vm cv) (hl : x.cy.length ≤ 900) (hk : okM x.m = true) (hc : x.c.ok) (ha : a < 8) (hb : b < 8) (hm : m < 256) (hn : n < 256) :
    Calls Tryz.prog 51 #[.pointer (some ⟨X, 0, none⟩), insV 1 a b m l] W fun e W' => e = .returned (.tuple #[]) ∧ ∃ vr' vm' cv', NSt w W' X (x.run n a b m 1) n vr' vm' cv' := by
  have e : x.run n a b m 1 = (x.getX b).set a (x.getV b) := rfl
  rw [e]
  clear e
  obtain ⟨hcb, hcc, hcd, hce, hch, hcl, hca, hcf, hcs, hcp⟩ := id hc
  obtain ⟨w2, hw2⟩ : ∃ w2 : Bs, ({ w with k := (W.heap.size, #[.int .i64 1, .int .i64 (a : Int), .int .i64 (b : Int), .int .i64 (m : Int), .int .i64 (l : Int)]) :: w.k } : Bs) = w2 := ⟨_, rfl⟩
  have h1 := h.boxed #[.int .i64 1, .int .i64 (a : Int), .int .i64 (b : Int), .int .i64 (m : Int), .int .i64 (l : Int)] 64
  rw [hw2] at h1
  have hend : Hid (∀ W' y vr' vm' cv', NSt w2 W' X y n vr' vm' cv' → NSt w W' X y n vr' vm' cv') := fun W' y _ _ _ hh => by rw [← hw2] at hh; exact hh.less
  have hin : Hid (∀ W' y vr' vm' cv', NSt w2 W' X y n vr' vm' cv' → ∀ i, W'.cell? ⟨W.heap.size, i, none⟩ = (#[.int .i64 1, .int .i64 (a : Int), .int .i64 (b : Int), .int .i64 (m : Int), .int .i64 (l : Int)] : Array Value)[i]?) := fun W' y _ _ _ hh => by rw [← hw2] at hh; exact hh.kept.cell
  have i1 := hin.out _ _ _ _ _ h1
  have x1 := h1.blk.cell
  have f1 := h1.blk.frozen
  have z1 := h1.blk.lt
  replace h1 := hid h1
  clear h hw2
  have hget := hid (fun W1 (hh : NSt w2 W1 X x n vr vm cv) => get_spec b w2 W1 X x n vr vm cv hh (by omega) hk hch hb)
  have hyc := getX_c x b
  have hym := getX_m x b
  have hyl := getX_l x b
  have hv := getV_lt hk hc b
  generalize x.getX b = y at *
  generalize x.getV b = v at *
  go_enter Tryz.func51, Tryz.ntmps51
  go_upto_region 1 with fail
  obtain ⟨V, hV⟩ : ∃ V, W.alloc (Obj.cells #[.int .i64 1, .int .i64 (a : Int), .int .i64 (b : Int), .int .i64 (m : Int), .int .i64 (l : Int)] 64) = V := ⟨_, rfl⟩
  rw [hV] at h1 i1 x1 f1 z1 ⊢
  generalize W.heap.size = I at *
  clear hV
  go_upto_region 3 with fail
  go_region_with (first | (go_at_call 106; refine (hget.out _ (by first | exact h1.out | exact h1.out.drew)).mono ?_; rintro e w1 ⟨rfl, cv1, h2⟩; have i2 := hin.out _ _ _ _ _ h2; have x2 := h2.blk.cell; replace h2 := hid h2; clear i1 x1 f1 z1) | (go_at_call 105; refine (set_spec a v w2 _ X y n vr vm _ (by first | exact h2.out | exact h2.out.drew) (by omega) (by rw [hym]; exact hk) (by rw [hyc]; exact hch) ha).mono ?_; rintro e w3 ⟨rfl, vr3, vm3, cv3, h3⟩; replace h3 := hid h3))
  all_goals (try go_wp2)
  all_goals exact bodyPost_end (v := .tuple #[]) (by simp [results, Tryz.results51]) rfl ⟨rfl, _, _, _, hend.out _ _ _ _ _ (by first | exact h3.out | exact h3.out.drew)⟩
set_option maxRecDepth 100000 in
set_option maxHeartbeats 2000000 in
theorem run_2 (a b m l : Nat) (w : Bs) (W : World) (X : Nat) (x : Mx) (n : Nat) (vr vm cv : Value) (h : NSt w W X x n vr vm cv) (hl : x.cy.length ≤ 900) (hk : okM x.m = true) (hc : x.c.ok) (ha : a < 8) (hb : b < 8) (hm : m < 256) (hn : n < 256) :
    Calls Tryz.prog 51 #[.pointer (some ⟨X, 0, none⟩), insV 2 a b m l] W fun e W' => e = .returned (.tuple #[]) ∧ ∃ vr' vm' cv', NSt w W' X (x.run n a b m 2) n vr' vm' cv' := by
  have e : x.run n a b m 2 = x.set a m := rfl
  rw [e]
  clear e
  obtain ⟨hcb, hcc, hcd, hce, hch, hcl, hca, hcf, hcs, hcp⟩ := id hc
  obtain ⟨w2, hw2⟩ : ∃ w2 : Bs, ({ w with k := (W.heap.size, #[.int .i64 2, .int .i64 (a : Int), .int .i64 (b : Int), .int .i64 (m : Int), .int .i64 (l : Int)]) :: w.k } : Bs) = w2 := ⟨_, rfl⟩
  have h1 := h.boxed #[.int .i64 2, .int .i64 (a : Int), .int .i64 (b : Int), .int .i64 (m : Int), .int .i64 (l : Int)] 64
  rw [hw2] at h1
  have hend : Hid (∀ W' y vr' vm' cv', NSt w2 W' X y n vr' vm' cv' → NSt w W' X y n vr' vm' cv') := fun W' y _ _ _ hh => by rw [← hw2] at hh; exact hh.less
  have hin : Hid (∀ W' y vr' vm' cv', NSt w2 W' X y n vr' vm' cv' → ∀ i, W'.cell? ⟨W.heap.size, i, none⟩ = (#[.int .i64 2, .int .i64 (a : Int), .int .i64 (b : Int), .int .i64 (m : Int), .int .i64 (l : Int)] : Array Value)[i]?) := fun W' y _ _ _ hh => by rw [← hw2] at hh; exact hh.kept.cell
  have i1 := hin.out _ _ _ _ _ h1
  have x1 := h1.blk.cell
  have f1 := h1.blk.frozen
  have z1 := h1.blk.lt
  replace h1 := hid h1
  clear h hw2
  go_enter Tryz.func51, Tryz.ntmps51
  go_upto_region 1 with fail
  obtain ⟨V, hV⟩ : ∃ V, W.alloc (Obj.cells #[.int .i64 2, .int .i64 (a : Int), .int .i64 (b : Int), .int .i64 (m : Int), .int .i64 (l : Int)] 64) = V := ⟨_, rfl⟩
  rw [hV] at h1 i1 x1 f1 z1 ⊢
  generalize W.heap.size = I at *
  clear hV
  go_wp2_with fail
  refine (set_spec a m w2 _ X x n vr vm _ h1.out (by omega) hk hch ha).mono ?_
  rintro e w3 ⟨rfl, vr3, vm3, cv3, h3⟩
  replace h3 := hid h3
  clear i1 x1 f1 z1
  go_wp2
  exact bodyPost_end (v := .tuple #[]) (by simp [results, Tryz.results51]) rfl ⟨rfl, _, _, _, hend.out _ _ _ _ _ h3.out⟩
set_option maxRecDepth 100000 in
set_option maxHeartbeats 2000000 in
theorem run_3 (a b m l : Nat) (w : Bs) (W : World) (X : Nat) (x : Mx) (n : Nat) (vr vm cv : Value) (h : NSt w W X x n vr vm cv) (hl : x.cy.length ≤ 900) (hk : okM x.m = true) (hc : x.c.ok) (ha : a < 8) (hb : b < 8) (hm : m < 256) (hn : n < 256) :
    Calls Tryz.prog 51 #[.pointer (some ⟨X, 0, none⟩), insV 3 a b m l] W fun e W' => e = .returned (.tuple #[]) ∧ ∃ vr' vm' cv', NSt w W' X (x.run n a b m 3) n vr' vm' cv' := by
  have e : x.run n a b m 3 = ({ x.read m with c := { x.c with a := peekN x.m m } } : Mx) := rfl
  rw [e]
  clear e
  obtain ⟨hcb, hcc, hcd, hce, hch, hcl, hca, hcf, hcs, hcp⟩ := id hc
  obtain ⟨w2, hw2⟩ : ∃ w2 : Bs, ({ w with k := (W.heap.size, #[.int .i64 3, .int .i64 (a : Int), .int .i64 (b : Int), .int .i64 (m : Int), .int .i64 (l : Int)]) :: w.k } : Bs) = w2 := ⟨_, rfl⟩
  have h1 := h.boxed #[.int .i64 3, .int .i64 (a : Int), .int .i64 (b : Int), .int .i64 (m : Int), .int .i64 (l : Int)] 64
  rw [hw2] at h1
  have hend : Hid (∀ W' y vr' vm' cv', NSt w2 W' X y n vr' vm' cv' → NSt w W' X y n vr' vm' cv') := fun W' y _ _ _ hh => by rw [← hw2] at hh; exact hh.less
  have hin : Hid (∀ W' y vr' vm' cv', NSt w2 W' X y n vr' vm' cv' → ∀ i, W'.cell? ⟨W.heap.size, i, none⟩ = (#[.int .i64 3, .int .i64 (a : Int), .int .i64 (b : Int), .int .i64 (m : Int), .int .i64 (l : Int)] : Array Value)[i]?) := fun W' y _ _ _ hh => by rw [← hw2] at hh; exact hh.kept.cell
  have i1 := hin.out _ _ _ _ _ h1
  have x1 := h1.blk.cell
  have f1 := h1.blk.frozen
  have z1 := h1.blk.lt
  replace h1 := hid h1
  clear h hw2
  have hrd := hid (fun W1 (hh : NSt w2 W1 X x n vr vm cv) => read_spec m w2 W1 X x n vr vm cv hh (by omega) hk hm)
  have hyc : (x.read m).c = x.c := rfl
  generalize x.read m = y at *
  generalize peekN x.m m = v at *
  go_enter Tryz.func51, Tryz.ntmps51
  go_upto_region 1 with fail
  obtain ⟨V, hV⟩ : ∃ V, W.alloc (Obj.cells #[.int .i64 3, .int .i64 (a : Int), .int .i64 (b : Int), .int .i64 (m : Int), .int .i64 (l : Int)] 64) = V := ⟨_, rfl⟩
  rw [hV] at h1 i1 x1 f1 z1 ⊢
  generalize W.heap.size = I at *
  clear hV
  go_upto_region 7 with fail
  go_region_with (go_at_call 50; refine (hrd.out _ (by first | exact h1.out | exact h1.out.drew)).mono ?_; rintro e w1 ⟨rfl, cv1, h2⟩; have x2 := h2.blk.cell; rw [hyc] at x2; have f2 := h2.blk.frozen; have z2 := h2.blk.lt; replace h2 := hid h2; clear i1 x1 f1 z1)
  all_goals (try go_wp2)
  all_goals exact bodyPost_end (v := .tuple #[]) (by simp [results, Tryz.results51]) rfl ⟨rfl, _, _, _, hend.out _ _ _ _ _ (by first | exact h2.out.put 7 (.int .i64 (v : Int)) { x.c with a := v } (by rw [hyc]; rfl) | exact (h2.out.put 7 (.int .i64 (v : Int)) { x.c with a := v } (by rw [hyc]; rfl)).drew)⟩
set_option maxRecDepth 100000 in
set_option maxHeartbeats 2000000 in
theorem run_4 (a b m l : Nat) (w : Bs) (W : World) (X : Nat) (x : Mx) (n : Nat) (vr vm cv : Value) (h : NSt w W X x n vr vm cv) (hl : x.cy.length ≤ 900) (hk : okM x.m = true) (hc : x.c.ok) (ha : a < 8) (hb : b < 8) (hm : m < 256) (hn : n < 256) :
    Calls Tryz.prog 51 #[.pointer (some ⟨X, 0, none⟩), insV 4 a b m l] W fun e W' => e = .returned (.tuple #[]) ∧ ∃ vr' vm' cv', NSt w W' X (x.run n a b m 4) n vr' vm' cv' := by
  have e : x.run n a b m 4 = x.write m x.c.a := rfl
  rw [e]
  clear e
  obtain ⟨hcb, hcc, hcd, hce, hch, hcl, hca, hcf, hcs, hcp⟩ := id hc
  obtain ⟨w2, hw2⟩ : ∃ w2 : Bs, ({ w with k := (W.heap.size, #[.int .i64 4, .int .i64 (a : Int), .int .i64 (b : Int), .int .i64 (m : Int), .int .i64 (l : Int)]) :: w.k } : Bs) = w2 := ⟨_, rfl⟩
  have h1 := h.boxed #[.int .i64 4, .int .i64 (a : Int), .int .i64 (b : Int), .int .i64 (m : Int), .int .i64 (l : Int)] 64
  rw [hw2] at h1
  have hend : Hid (∀ W' y vr' vm' cv', NSt w2 W' X y n vr' vm' cv' → NSt w W' X y n vr' vm' cv') := fun W' y _ _ _ hh => by rw [← hw2] at hh; exact hh.less
  have hin : Hid (∀ W' y vr' vm' cv', NSt w2 W' X y n vr' vm' cv' → ∀ i, W'.cell? ⟨W.heap.size, i, none⟩ = (#[.int .i64 4, .int .i64 (a : Int), .int .i64 (b : Int), .int .i64 (m : Int), .int .i64 (l : Int)] : Array Value)[i]?) := fun W' y _ _ _ hh => by rw [← hw2] at hh; exact hh.kept.cell
  have i1 := hin.out _ _ _ _ _ h1
  have x1 := h1.blk.cell
  have f1 := h1.blk.frozen
  have z1 := h1.blk.lt
  replace h1 := hid h1
  clear h hw2
  go_enter Tryz.func51, Tryz.ntmps51
  go_upto_region 1 with fail
  obtain ⟨V, hV⟩ : ∃ V, W.alloc (Obj.cells #[.int .i64 4, .int .i64 (a : Int), .int .i64 (b : Int), .int .i64 (m : Int), .int .i64 (l : Int)] 64) = V := ⟨_, rfl⟩
  rw [hV] at h1 i1 x1 f1 z1 ⊢
  generalize W.heap.size = I at *
  clear hV
  go_upto_region 9 with fail
  go_region_with (go_at_call 107; refine (write_spec m x.c.a w2 _ X x n vr vm _ (by first | exact h1.out | exact h1.out.drew) (by omega) hk hm).mono ?_; rintro e w3 ⟨rfl, vr3, vm3, cv3, h3⟩; replace h3 := hid h3; clear i1 x1 f1 z1)
  all_goals (try go_wp2)
  all_goals exact bodyPost_end (v := .tuple #[]) (by simp [results, Tryz.results51]) rfl ⟨rfl, _, _, _, hend.out _ _ _ _ _ (by first | exact h3.out | exact h3.out.drew)⟩
set_option maxRecDepth 100000 in
set_option maxHeartbeats 2000000 in
theorem run_5 (a b m l : Nat) (w : Bs) (W : World) (X : Nat) (x : Mx) (n : Nat) (vr vm cv : Value) (h : NSt w W X x n vr vm cv) (hl : x.cy.length ≤ 900) (hk : okM x.m = true) (hc : x.c.ok) (ha : a < 8) (hb : b < 8) (hm : m < 256) (hn : n < 256) :
    Calls Tryz.prog 51 #[.pointer (some ⟨X, 0, none⟩), insV 5 a b m l] W fun e W' => e = .returned (.tuple #[]) ∧ ∃ vr' vm' cv', NSt w W' X (x.run n a b m 5) n vr' vm' cv' := by
  have e : x.run n a b m 5 = (x.getX b).alu a (x.getV b) := rfl
  rw [e]
  clear e
  obtain ⟨hcb, hcc, hcd, hce, hch, hcl, hca, hcf, hcs, hcp⟩ := id hc
  obtain ⟨w2, hw2⟩ : ∃ w2 : Bs, ({ w with k := (W.heap.size, #[.int .i64 5, .int .i64 (a : Int), .int .i64 (b : Int), .int .i64 (m : Int), .int .i64 (l : Int)]) :: w.k } : Bs) = w2 := ⟨_, rfl⟩
  have h1 := h.boxed #[.int .i64 5, .int .i64 (a : Int), .int .i64 (b : Int), .int .i64 (m : Int), .int .i64 (l : Int)] 64
  rw [hw2] at h1
  have hend : Hid (∀ W' y vr' vm' cv', NSt w2 W' X y n vr' vm' cv' → NSt w W' X y n vr' vm' cv') := fun W' y _ _ _ hh => by rw [← hw2] at hh; exact hh.less
  have hin : Hid (∀ W' y vr' vm' cv', NSt w2 W' X y n vr' vm' cv' → ∀ i, W'.cell? ⟨W.heap.size, i, none⟩ = (#[.int .i64 5, .int .i64 (a : Int), .int .i64 (b : Int), .int .i64 (m : Int), .int .i64 (l : Int)] : Array Value)[i]?) := fun W' y _ _ _ hh => by rw [← hw2] at hh; exact hh.kept.cell
  have i1 := hin.out _ _ _ _ _ h1
  have x1 := h1.blk.cell
  have f1 := h1.blk.frozen
  have z1 := h1.blk.lt
  replace h1 := hid h1
  clear h hw2
  have hget := hid (fun W1 (hh : NSt w2 W1 X x n vr vm cv) => get_spec b w2 W1 X x n vr vm cv hh (by omega) hk hch hb)
  have hyc := getX_c x b
  have hym := getX_m x b
  have hyl := getX_l x b
  have hv := getV_lt hk hc b
  generalize x.getX b = y at *
  generalize x.getV b = v at *
  go_enter Tryz.func51, Tryz.ntmps51
  go_upto_region 1 with fail
  obtain ⟨V, hV⟩ : ∃ V, W.alloc (Obj.cells #[.int .i64 5, .int .i64 (a : Int), .int .i64 (b : Int), .int .i64 (m : Int), .int .i64 (l : Int)] 64) = V := ⟨_, rfl⟩
  rw [hV] at h1 i1 x1 f1 z1 ⊢
  generalize W.heap.size = I at *
  clear hV
  go_upto_region 11 with fail
  go_region_with (first | (go_at_call 106; refine (hget.out _ (by first | exact h1.out | exact h1.out.drew)).mono ?_; rintro e w1 ⟨rfl, cv1, h2⟩; have i2 := hin.out _ _ _ _ _ h2; have x2 := h2.blk.cell; replace h2 := hid h2; clear i1 x1 f1 z1) | (go_at_call 108; refine (alu_spec a v w2 _ X y n vr vm _ (by first | exact h2.out | exact h2.out.drew) (by rw [hyc]; exact hca) (by rw [hyc]; exact hcf) hv ha).mono ?_; rintro e w3 ⟨rfl, h3⟩; replace h3 := hid h3))
  all_goals (try go_wp2)
  all_goals exact bodyPost_end (v := .tuple #[]) (by simp [results, Tryz.results51]) rfl ⟨rfl, _, _, _, hend.out _ _ _ _ _ (by first | exact h3.out | exact h3.out.drew)⟩
set_option maxRecDepth 100000 in
set_option maxHeartbeats 2000000 in
theorem run_6 (a b m l : Nat) (w : Bs) (W : World) (X : Nat) (x : Mx) (n : Nat) (vr vm cv : Value) (h : NSt w W X x n vr vm cv) (hl : x.cy.length ≤ 900) (hk : okM x.m = true) (hc : x.c.ok) (ha : a < 8) (hb : b < 8) (hm : m < 256) (hn : n < 256) :
    Calls Tryz.prog 51 #[.pointer (some ⟨X, 0, none⟩), insV 6 a b m l] W fun e W' => e = .returned (.tuple #[]) ∧ ∃ vr' vm' cv', NSt w W' X (x.run n a b m 6) n vr' vm' cv' := by
  have e : x.run n a b m 6 = x.alu a m := rfl
  rw [e]
  clear e
  obtain ⟨hcb, hcc, hcd, hce, hch, hcl, hca, hcf, hcs, hcp⟩ := id hc
  obtain ⟨w2, hw2⟩ : ∃ w2 : Bs, ({ w with k := (W.heap.size, #[.int .i64 6, .int .i64 (a : Int), .int .i64 (b : Int), .int .i64 (m : Int), .int .i64 (l : Int)]) :: w.k } : Bs) = w2 := ⟨_, rfl⟩
  have h1 := h.boxed #[.int .i64 6, .int .i64 (a : Int), .int .i64 (b : Int), .int .i64 (m : Int), .int .i64 (l : Int)] 64
  rw [hw2] at h1
  have hend : Hid (∀ W' y vr' vm' cv', NSt w2 W' X y n vr' vm' cv' → NSt w W' X y n vr' vm' cv') := fun W' y _ _ _ hh => by rw [← hw2] at hh; exact hh.less
  have hin : Hid (∀ W' y vr' vm' cv', NSt w2 W' X y n vr' vm' cv' → ∀ i, W'.cell? ⟨W.heap.size, i, none⟩ = (#[.int .i64 6, .int .i64 (a : Int), .int .i64 (b : Int), .int .i64 (m : Int), .int .i64 (l : Int)] : Array Value)[i]?) := fun W' y _ _ _ hh => by rw [← hw2] at hh; exact hh.kept.cell
  have i1 := hin.out _ _ _ _ _ h1
  have x1 := h1.blk.cell
  have f1 := h1.blk.frozen
  have z1 := h1.blk.lt
  replace h1 := hid h1
  clear h hw2
  go_enter Tryz.func51, Tryz.ntmps51
  go_upto_region 1 with fail
  obtain ⟨V, hV⟩ : ∃ V, W.alloc (Obj.cells #[.int .i64 6, .int .i64 (a : Int), .int .i64 (b : Int), .int .i64 (m : Int), .int .i64 (l : Int)] 64) = V := ⟨_, rfl⟩
  rw [hV] at h1 i1 x1 f1 z1 ⊢
  generalize W.heap.size = I at *
  clear hV
  go_wp2_with fail
  refine (alu_spec a m w2 _ X x n vr vm _ h1.out hca hcf hm ha).mono ?_
  rintro e w3 ⟨rfl, h3⟩
  replace h3 := hid h3
  clear i1 x1 f1 z1
  go_wp2
  exact bodyPost_end (v := .tuple #[]) (by simp [results, Tryz.results51]) rfl ⟨rfl, _, _, _, hend.out _ _ _ _ _ h3.out⟩
set_option maxRecDepth 100000 in
set_option maxHeartbeats 2000000 in
theorem run_19 (a b m l : Nat) (w : Bs) (W : World) (X : Nat) (x : Mx) (n : Nat) (vr vm cv : Value) (h : NSt w W X x n vr vm cv) (hl : x.cy.length ≤ 900) (hk : okM x.m = true) (hc : x.c.ok) (ha : a < 8) (hb : b < 8) (hm : m < 256) (hn : n < 256) :
    Calls Tryz.prog 51 #[.pointer (some ⟨X, 0, none⟩), insV 19 a b m l] W fun e W' => e = .returned (.tuple #[]) ∧ ∃ vr' vm' cv', NSt w W' X (x.run n a b m 19) n vr' vm' cv' := by
  have e : x.run n a b m 19 = ({ x with c := { x.c with halt := true } } : Mx) := rfl
  rw [e]
  clear e
  obtain ⟨hcb, hcc, hcd, hce, hch, hcl, hca, hcf, hcs, hcp⟩ := id hc
  obtain ⟨w2, hw2⟩ : ∃ w2 : Bs, ({ w with k := (W.heap.size, #[.int .i64 19, .int .i64 (a : Int), .int .i64 (b : Int), .int .i64 (m : Int), .int .i64 (l : Int)]) :: w.k } : Bs) = w2 := ⟨_, rfl⟩
  have h1 := h.boxed #[.int .i64 19, .int .i64 (a : Int), .int .i64 (b : Int), .int .i64 (m : Int), .int .i64 (l : Int)] 64
  rw [hw2] at h1
  have hend : Hid (∀ W' y vr' vm' cv', NSt w2 W' X y n vr' vm' cv' → NSt w W' X y n vr' vm' cv') := fun W' y _ _ _ hh => by rw [← hw2] at hh; exact hh.less
  have hin : Hid (∀ W' y vr' vm' cv', NSt w2 W' X y n vr' vm' cv' → ∀ i, W'.cell? ⟨W.heap.size, i, none⟩ = (#[.int .i64 19, .int .i64 (a : Int), .int .i64 (b : Int), .int .i64 (m : Int), .int .i64 (l : Int)] : Array Value)[i]?) := fun W' y _ _ _ hh => by rw [← hw2] at hh; exact hh.kept.cell
  have i1 := hin.out _ _ _ _ _ h1
  have x1 := h1.blk.cell
  have f1 := h1.blk.frozen
  have z1 := h1.blk.lt
  replace h1 := hid h1
  clear h hw2
  go_enter Tryz.func51, Tryz.ntmps51
  go_upto_region 1 with fail
  obtain ⟨V, hV⟩ : ∃ V, W.alloc (Obj.cells #[.int .i64 19, .int .i64 (a : Int), .int .i64 (b : Int), .int .i64 (m : Int), .int .i64 (l : Int)] 64) = V := ⟨_, rfl⟩
  rw [hV] at h1 i1 x1 f1 z1 ⊢
  generalize W.heap.size = I at *
  clear hV
  go_wp2
  exact bodyPost_end (v := .tuple #[]) (by simp [results, Tryz.results51]) rfl ⟨rfl, _, _, _, hend.out _ _ _ _ _ (by first | exact h1.out.put 13 (.bool true) { x.c with halt := true } rfl | exact (h1.out.put 13 (.bool true) { x.c with halt := true } rfl).drew)⟩
set_option maxRecDepth 100000 in
set_option maxHeartbeats 2000000 in
theorem run_20 (a b m l : Nat) (w : Bs) (W : World) (X : Nat) (x : Mx) (n : Nat) (vr vm cv : Value) (h : NSt w W X x n vr vm cv) (hl : x.cy.length ≤ 900) (hk : okM x.m = true) (hc : x.c.ok) (ha : a < 8) (hb : b < 8) (hm : m < 256) (hn : n < 256) :
    Calls Tryz.prog 51 #[.pointer (some ⟨X, 0, none⟩), insV 20 a b m l] W fun e W' => e = .returned (.tuple #[]) ∧ ∃ vr' vm' cv', NSt w W' X (x.run n a b m 20) n vr' vm' cv' := by
  have e : x.run n a b m 20 = ({ x with c := { x.c with iff := true, ei := true } } : Mx) := rfl
  rw [e]
  clear e
  obtain ⟨hcb, hcc, hcd, hce, hch, hcl, hca, hcf, hcs, hcp⟩ := id hc
  obtain ⟨w2, hw2⟩ : ∃ w2 : Bs, ({ w with k := (W.heap.size, #[.int .i64 20, .int .i64 (a : Int), .int .i64 (b : Int), .int .i64 (m : Int), .int .i64 (l : Int)]) :: w.k } : Bs) = w2 := ⟨_, rfl⟩
  have h1 := h.boxed #[.int .i64 20, .int .i64 (a : Int), .int .i64 (b : Int), .int .i64 (m : Int), .int .i64 (l : Int)] 64
  rw [hw2] at h1
  have hend : Hid (∀ W' y vr' vm' cv', NSt w2 W' X y n vr' vm' cv' → NSt w W' X y n vr' vm' cv') := fun W' y _ _ _ hh => by rw [← hw2] at hh; exact hh.less
  have hin : Hid (∀ W' y vr' vm' cv', NSt w2 W' X y n vr' vm' cv' → ∀ i, W'.cell? ⟨W.heap.size, i, none⟩ = (#[.int .i64 20, .int .i64 (a : Int), .int .i64 (b : Int), .int .i64 (m : Int), .int .i64 (l : Int)] : Array Value)[i]?) := fun W' y _ _ _ hh => by rw [← hw2] at hh; exact hh.kept.cell
  have i1 := hin.out _ _ _ _ _ h1
  have x1 := h1.blk.cell
  have f1 := h1.blk.frozen
  have z1 := h1.blk.lt
  replace h1 := hid h1
  clear h hw2
  go_enter Tryz.func51, Tryz.ntmps51
  go_upto_region 1 with fail
  obtain ⟨V, hV⟩ : ∃ V, W.alloc (Obj.cells #[.int .i64 20, .int .i64 (a : Int), .int .i64 (b : Int), .int .i64 (m : Int), .int .i64 (l : Int)] 64) = V := ⟨_, rfl⟩
  rw [hV] at h1 i1 x1 f1 z1 ⊢
  generalize W.heap.size = I at *
  clear hV
  go_wp2
  exact bodyPost_end (v := .tuple #[]) (by simp [results, Tryz.results51]) rfl ⟨rfl, _, _, _, hend.out _ _ _ _ _ (by first | exact ((h1.out.put 11 (.bool true) { x.c with iff := true } rfl).put 12 (.bool true) { x.c with iff := true, ei := true } rfl) | exact (((h1.out.put 11 (.bool true) { x.c with iff := true } rfl).put 12 (.bool true) { x.c with iff := true, ei := true } rfl)).drew)⟩
set_option maxRecDepth 100000 in
set_option maxHeartbeats 2000000 in
theorem run_21 (a b m l : Nat) (w : Bs) (W : World) (X : Nat) (x : Mx) (n : Nat) (vr vm cv : Value) (h : NSt w W X x n vr vm cv) (hl : x.cy.length ≤ 900) (hk : okM x.m = true) (hc : x.c.ok) (ha : a < 8) (hb : b < 8) (hm : m < 256) (hn : n < 256) :
    Calls Tryz.prog 51 #[.pointer (some ⟨X, 0, none⟩), insV 21 a b m l] W fun e W' => e = .returned (.tuple #[]) ∧ ∃ vr' vm' cv', NSt w W' X (x.run n a b m 21) n vr' vm' cv' := by
  have e : x.run n a b m 21 = ({ x with c := { x.c with iff := false, ei := false } } : Mx) := rfl
  rw [e]
  clear e
  obtain ⟨hcb, hcc, hcd, hce, hch, hcl, hca, hcf, hcs, hcp⟩ := id hc
  obtain ⟨w2, hw2⟩ : ∃ w2 : Bs, ({ w with k := (W.heap.size, #[.int .i64 21, .int .i64 (a : Int), .int .i64 (b : Int), .int .i64 (m : Int), .int .i64 (l : Int)]) :: w.k } : Bs) = w2 := ⟨_, rfl⟩
  have h1 := h.boxed #[.int .i64 21, .int .i64 (a : Int), .int .i64 (b : Int), .int .i64 (m : Int), .int .i64 (l : Int)] 64
  rw [hw2] at h1
  have hend : Hid (∀ W' y vr' vm' cv', NSt w2 W' X y n vr' vm' cv' → NSt w W' X y n vr' vm' cv') := fun W' y _ _ _ hh => by rw [← hw2] at hh; exact hh.less
  have hin : Hid (∀ W' y vr' vm' cv', NSt w2 W' X y n vr' vm' cv' → ∀ i, W'.cell? ⟨W.heap.size, i, none⟩ = (#[.int .i64 21, .int .i64 (a : Int), .int .i64 (b : Int), .int .i64 (m : Int), .int .i64 (l : Int)] : Array Value)[i]?) := fun W' y _ _ _ hh => by rw [← hw2] at hh; exact hh.kept.cell
  have i1 := hin.out _ _ _ _ _ h1
  have x1 := h1.blk.cell
  have f1 := h1.blk.frozen
  have z1 := h1.blk.lt
  replace h1 := hid h1
  clear h hw2
  go_enter Tryz.func51, Tryz.ntmps51
  go_upto_region 1 with fail
  obtain ⟨V, hV⟩ : ∃ V, W.alloc (Obj.cells #[.int .i64 21, .int .i64 (a : Int), .int .i64 (b : Int), .int .i64 (m : Int), .int .i64 (l : Int)] 64) = V := ⟨_, rfl⟩
  rw [hV] at h1 i1 x1 f1 z1 ⊢
  generalize W.heap.size = I at *
  clear hV
  go_wp2
  exact bodyPost_end (v := .tuple #[]) (by simp [results, Tryz.results51]) rfl ⟨rfl, _, _, _, hend.out _ _ _ _ _ (by first | exact ((h1.out.put 11 (.bool false) { x.c with iff := false } rfl).put 12 (.bool false) { x.c with iff := false, ei := false } rfl) | exact (((h1.out.put 11 (.bool false) { x.c with iff := false } rfl).put 12 (.bool false) { x.c with iff := false, ei := false } rfl)).drew)⟩
set_option maxRecDepth 100000 in
set_option maxHeartbeats 2000000 in
theorem run_22 (a b m l : Nat) (w : Bs) (W : World) (X : Nat) (x : Mx) (n : Nat) (vr vm cv : Value) (h : NSt w W X x n vr vm cv) (hl : x.cy.length ≤ 900) (hk : okM x.m = true) (hc : x.c.ok) (ha : a < 8) (hb : b < 8) (hm : m < 256) (hn : n < 256) :
    Calls Tryz.prog 51 #[.pointer (some ⟨X, 0, none⟩), insV 22 a b m l] W fun e W' => e = .returned (.tuple #[]) ∧ ∃ vr' vm' cv', NSt w W' X (x.run n a b m 22) n vr' vm' cv' := by
  have e : x.run n a b m 22 = x.copy := rfl
  rw [e]
  clear e
  obtain ⟨hcb, hcc, hcd, hce, hch, hcl, hca, hcf, hcs, hcp⟩ := id hc
  obtain ⟨w2, hw2⟩ : ∃ w2 : Bs, ({ w with k := (W.heap.size, #[.int .i64 22, .int .i64 (a : Int), .int .i64 (b : Int), .int .i64 (m : Int), .int .i64 (l : Int)]) :: w.k } : Bs) = w2 := ⟨_, rfl⟩
  have h1 := h.boxed #[.int .i64 22, .int .i64 (a : Int), .int .i64 (b : Int), .int .i64 (m : Int), .int .i64 (l : Int)] 64
  rw [hw2] at h1
  have hend : Hid (∀ W' y vr' vm' cv', NSt w2 W' X y n vr' vm' cv' → NSt w W' X y n vr' vm' cv') := fun W' y _ _ _ hh => by rw [← hw2] at hh; exact hh.less
  have hin : Hid (∀ W' y vr' vm' cv', NSt w2 W' X y n vr' vm' cv' → ∀ i, W'.cell? ⟨W.heap.size, i, none⟩ = (#[.int .i64 22, .int .i64 (a : Int), .int .i64 (b : Int), .int .i64 (m : Int), .int .i64 (l : Int)] : Array Value)[i]?) := fun W' y _ _ _ hh => by rw [← hw2] at hh; exact hh.kept.cell
  have i1 := hin.out _ _ _ _ _ h1
  have x1 := h1.blk.cell
  have f1 := h1.blk.frozen
  have z1 := h1.blk.lt
  replace h1 := hid h1
  clear h hw2
  go_enter Tryz.func51, Tryz.ntmps51
  go_upto_region 1 with fail
  obtain ⟨V, hV⟩ : ∃ V, W.alloc (Obj.cells #[.int .i64 22, .int .i64 (a : Int), .int .i64 (b : Int), .int .i64 (m : Int), .int .i64 (l : Int)] 64) = V := ⟨_, rfl⟩
  rw [hV] at h1 i1 x1 f1 z1 ⊢
  generalize W.heap.size = I at *
  clear hV
  go_wp2_with fail
  refine (copy_spec w2 _ X x n vr vm _ h1.out hl hk hc).mono ?_
  rintro e w3 ⟨rfl, vr3, vm3, cv3, h3⟩
  replace h3 := hid h3
  clear i1 x1 f1 z1
  go_wp2
  exact bodyPost_end (v := .tuple #[]) (by simp [results, Tryz.results51]) rfl ⟨rfl, _, _, _, hend.out _ _ _ _ _ h3.out⟩
set_option maxRecDepth 100000 in
set_option maxHeartbeats 2000000 in
theorem run_23 (a b m l : Nat) (w : Bs) (W : World) (X : Nat) (x : Mx) (n : Nat) (vr vm cv : Value) (h : NSt w W X x n vr vm cv) (hl : x.cy.length ≤ 900) (hk : okM x.m = true) (hc : x.c.ok) (ha : a < 8) (hb : b < 8) (hm : m < 256) (hn : n < 256) :
    Calls Tryz.prog 51 #[.pointer (some ⟨X, 0, none⟩), insV 23 a b m l] W fun e W' => e = .returned (.tuple #[]) ∧ ∃ vr' vm' cv', NSt w W' X (x.run n a b m 23) n vr' vm' cv' := by
  have e : x.run n a b m 23 = x := rfl
  rw [e]
  clear e
  obtain ⟨hcb, hcc, hcd, hce, hch, hcl, hca, hcf, hcs, hcp⟩ := id hc
  obtain ⟨w2, hw2⟩ : ∃ w2 : Bs, ({ w with k := (W.heap.size, #[.int .i64 23, .int .i64 (a : Int), .int .i64 (b : Int), .int .i64 (m : Int), .int .i64 (l : Int)]) :: w.k } : Bs) = w2 := ⟨_, rfl⟩
  have h1 := h.boxed #[.int .i64 23, .int .i64 (a : Int), .int .i64 (b : Int), .int .i64 (m : Int), .int .i64 (l : Int)] 64
  rw [hw2] at h1
  have hend : Hid (∀ W' y vr' vm' cv', NSt w2 W' X y n vr' vm' cv' → NSt w W' X y n vr' vm' cv') := fun W' y _ _ _ hh => by rw [← hw2] at hh; exact hh.less
  have hin : Hid (∀ W' y vr' vm' cv', NSt w2 W' X y n vr' vm' cv' → ∀ i, W'.cell? ⟨W.heap.size, i, none⟩ = (#[.int .i64 23, .int .i64 (a : Int), .int .i64 (b : Int), .int .i64 (m : Int), .int .i64 (l : Int)] : Array Value)[i]?) := fun W' y _ _ _ hh => by rw [← hw2] at hh; exact hh.kept.cell
  have i1 := hin.out _ _ _ _ _ h1
  have x1 := h1.blk.cell
  have f1 := h1.blk.frozen
  have z1 := h1.blk.lt
  replace h1 := hid h1
  clear h hw2
  go_enter Tryz.func51, Tryz.ntmps51
  go_upto_region 1 with fail
  obtain ⟨V, hV⟩ : ∃ V, W.alloc (Obj.cells #[.int .i64 23, .int .i64 (a : Int), .int .i64 (b : Int), .int .i64 (m : Int), .int .i64 (l : Int)] 64) = V := ⟨_, rfl⟩
  rw [hV] at h1 i1 x1 f1 z1 ⊢
  generalize W.heap.size = I at *
  clear hV
  go_wp2
  exact bodyPost_end (v := .tuple #[]) (by simp [results, Tryz.results51]) rfl ⟨rfl, _, _, _, hend.out _ _ _ _ _ (by first | exact h1.out | exact (h1.out).drew)⟩
end Go.Proofs.YtgpmpfikeindfaaGreatDoor
