/- What instructions do to the machine: 9, 15, 16. -/
import Derived.Test.YtgpmpfikeindfaaGreatDoorV11
namespace Go.Proofs.YtgpmpfikeindfaaGreatDoor
open Go.ChangeShapes Go.WideShapes Go.ChangeAt Go.RowKit
set_option linter.unusedVariables false
set_option linter.unusedSimpArgs false

set_option maxRecDepth 100000 in
set_option maxHeartbeats 2000000 in
theorem run_9 (a b m l : Nat) (w : Bs) (W : World) (X : Nat) (x : Mx) (n : Nat) (vr vm cv : Value) (h : NSt w W X x n vr vm cv) (hl : x.cy.length ≤ 900) (hk : okM x.m = true) (hc : x.c.ok) (ha : a < 8) (hb : b < 8) (hm : m < 256) (hn : n < 256) :
    Calls Tryz.prog 51 #[.pointer (some ⟨X, 0, none⟩), insV 9 a b m l] W fun e W' => e = .returned (.tuple #[]) ∧ ∃ vr' vm' cv', NSt w W' X (x.run n a b m 9) n vr' vm' cv' := by
  have e : x.run n a b m 9 = ({ x.getX b with c := { x.c with f := turnF a (x.getV b) (Nat.land x.c.f 1) } } : Mx).set b (turnV a (x.getV b) (Nat.land x.c.f 1)) := rfl
  rw [e]
  clear e
  obtain ⟨hcb, hcc, hcd, hce, hch, hcl, hca, hcf, hcs, hcp⟩ := id hc
  obtain ⟨w2, hw2⟩ : ∃ w2 : Bs, ({ w with k := (W.heap.size, #[.int .i64 9, .int .i64 (a : Int), .int .i64 (b : Int), .int .i64 (m : Int), .int .i64 (l : Int)]) :: w.k } : Bs) = w2 := ⟨_, rfl⟩
  have h1 := h.boxed #[.int .i64 9, .int .i64 (a : Int), .int .i64 (b : Int), .int .i64 (m : Int), .int .i64 (l : Int)] 64
  rw [hw2] at h1
  have hend : Hid (∀ W' y vr' vm' cv', NSt w2 W' X y n vr' vm' cv' → NSt w W' X y n vr' vm' cv') := fun W' y _ _ _ hh => by rw [← hw2] at hh; exact hh.less
  have hin : Hid (∀ W' y vr' vm' cv', NSt w2 W' X y n vr' vm' cv' → ∀ i, W'.cell? ⟨W.heap.size, i, none⟩ = (#[.int .i64 9, .int .i64 (a : Int), .int .i64 (b : Int), .int .i64 (m : Int), .int .i64 (l : Int)] : Array Value)[i]?) := fun W' y _ _ _ hh => by rw [← hw2] at hh; exact hh.kept.cell
  have i1 := hin.out _ _ _ _ _ h1
  have x1 := h1.blk.cell
  have f1 := h1.blk.frozen
  have z1 := h1.blk.lt
  replace h1 := hid h1
  clear h hw2
  have hget := hid (fun W1 (hh : NSt w2 W1 X x n vr vm cv) => get_spec b w2 W1 X x n vr vm cv hh (by omega) hk hch hb)
  have hyc := getX_c x b
  have hym := getX_m x b
  have hyl := getX_l x b
  have hv := getV_lt hk hc b
  generalize x.getX b = y at *
  generalize x.getV b = v at *
  have hun := hid (fun W1 => turn_spec a v x.c.f W1 ha hv hcf)
  generalize turnF a v (Nat.land x.c.f 1) = F2 at *
  generalize turnV a v (Nat.land x.c.f 1) = V2 at *
  go_enter Tryz.func51, Tryz.ntmps51
  go_upto_region 1 with fail
  obtain ⟨V, hV⟩ : ∃ V, W.alloc (Obj.cells #[.int .i64 9, .int .i64 (a : Int), .int .i64 (b : Int), .int .i64 (m : Int), .int .i64 (l : Int)] 64) = V := ⟨_, rfl⟩
  rw [hV] at h1 i1 x1 f1 z1 ⊢
  generalize W.heap.size = I at *
  clear hV
  go_upto_region 23 with fail
  go_region_with (first | (go_at_call 106; refine (hget.out _ (by first | exact h1.out | exact h1.out.drew)).mono ?_; rintro e w1 ⟨rfl, cv1, h2⟩; have i2 := hin.out _ _ _ _ _ h2; have x2 := h2.blk.cell; rw [hyc] at x2; have f2 := h2.blk.frozen; have z2 := h2.blk.lt; replace h2 := hid h2; clear i1 x1 f1 z1) | (go_at_call 111; refine (hun.out _).mono ?_; rintro e w' ⟨rfl, rfl⟩))
  all_goals
    go_upto_region 25 with fail
    have h3 := h2.out.put 8 (.int .i64 (F2 : Int)) { x.c with f := F2 } (by rw [hyc]; rfl)
    have i3 := hin.out _ _ _ _ _ h3
    replace h3 := hid h3
    obtain ⟨w4, hw4⟩ : ∃ w4, w'.setCell ⟨X, 8, none⟩ (.int .i64 (F2 : Int)) = w4 := ⟨_, rfl⟩
    rw [hw4] at h3 i3 ⊢
    clear hw4 i2 x2 f2 z2 h2
    go_wp2_with fail
    refine (set_spec b V2 w2 _ X _ n vr vm _ h3.out (by show y.cy.length ≤ 1000; omega) (by show okM y.m = true; rw [hym]; exact hk) (by show x.c.h < 256; exact hch) hb).mono ?_
    rintro e w5 ⟨rfl, vr5, vm5, cv5, h5⟩
    replace h5 := hid h5
    clear h3 i3
    go_wp2
    exact bodyPost_end (v := .tuple #[]) (by simp [results, Tryz.results51]) rfl ⟨rfl, _, _, _, hend.out _ _ _ _ _ h5.out⟩
set_option maxRecDepth 100000 in
set_option maxHeartbeats 2000000 in
theorem run_15 (a b m l : Nat) (w : Bs) (W : World) (X : Nat) (x : Mx) (n : Nat) (vr vm cv : Value) (h : NSt w W X x n vr vm cv) (hl : x.cy.length ≤ 900) (hk : okM x.m = true) (hc : x.c.ok) (ha : a < 8) (hb : b < 8) (hm : m < 256) (hn : n < 256) :
    Calls Tryz.prog 51 #[.pointer (some ⟨X, 0, none⟩), insV 15 a b m l] W fun e W' => e = .returned (.tuple #[]) ∧ ∃ vr' vm' cv', NSt w W' X (x.run n a b m 15) n vr' vm' cv' := by
  have e : x.run n a b m 15 = x.push (if a = 6 then x.c.f else x.c.reg a) := rfl
  rw [e]
  clear e
  obtain ⟨hcb, hcc, hcd, hce, hch, hcl, hca, hcf, hcs, hcp⟩ := id hc
  obtain ⟨w2, hw2⟩ : ∃ w2 : Bs, ({ w with k := (W.heap.size, #[.int .i64 15, .int .i64 (a : Int), .int .i64 (b : Int), .int .i64 (m : Int), .int .i64 (l : Int)]) :: w.k } : Bs) = w2 := ⟨_, rfl⟩
  have h1 := h.boxed #[.int .i64 15, .int .i64 (a : Int), .int .i64 (b : Int), .int .i64 (m : Int), .int .i64 (l : Int)] 64
  rw [hw2] at h1
  have hend : Hid (∀ W' y vr' vm' cv', NSt w2 W' X y n vr' vm' cv' → NSt w W' X y n vr' vm' cv') := fun W' y _ _ _ hh => by rw [← hw2] at hh; exact hh.less
  have hin : Hid (∀ W' y vr' vm' cv', NSt w2 W' X y n vr' vm' cv' → ∀ i, W'.cell? ⟨W.heap.size, i, none⟩ = (#[.int .i64 15, .int .i64 (a : Int), .int .i64 (b : Int), .int .i64 (m : Int), .int .i64 (l : Int)] : Array Value)[i]?) := fun W' y _ _ _ hh => by rw [← hw2] at hh; exact hh.kept.cell
  have i1 := hin.out _ _ _ _ _ h1
  have x1 := h1.blk.cell
  have f1 := h1.blk.frozen
  have z1 := h1.blk.lt
  replace h1 := hid h1
  clear h hw2
  have hr8 : a = 0 ∨ a = 1 ∨ a = 2 ∨ a = 3 ∨ a = 4 ∨ a = 5 ∨ a = 6 ∨ a = 7 := by omega
  obtain ⟨A, hA⟩ : ∃ A : Int, (a : Int) = A := ⟨_, rfl⟩
  rw [hA] at h1 i1 x1 f1 z1 hin ⊢
  rcases hr8 with rfl | rfl | rfl | rfl | rfl | rfl | rfl | rfl
  · obtain rfl : A = 0 := by omega
    clear hA
    have e : (if (0 : Nat) = 6 then x.c.f else x.c.reg 0) = x.c.b := rfl
    rw [e]
    clear e
    go_enter Tryz.func51, Tryz.ntmps51
    go_upto_region 1 with fail
    obtain ⟨V, hV⟩ : ∃ V, W.alloc (Obj.cells #[.int .i64 15, .int .i64 0, .int .i64 (b : Int), .int .i64 (m : Int), .int .i64 (l : Int)] 64) = V := ⟨_, rfl⟩
    rw [hV] at h1 i1 x1 f1 z1 ⊢
    generalize W.heap.size = I at *
    clear hV
    go_upto_region 43 with fail
    go_region
    all_goals
      go_wp2_with fail
      refine (push_spec x.c.b w2 _ X x n vr vm _ (by first | exact h1.out | exact h1.out.drew) (by omega) hk hcs).mono ?_
      rintro e w3 ⟨rfl, vr3, vm3, cv3, h3⟩
      replace h3 := hid h3
      clear i1 x1 f1 z1
      go_wp2
      exact bodyPost_end (v := .tuple #[]) (by simp [results, Tryz.results51]) rfl ⟨rfl, _, _, _, hend.out _ _ _ _ _ (by first | exact h3.out | exact h3.out.drew)⟩
  · obtain rfl : A = 1 := by omega
    clear hA
    have e : (if (1 : Nat) = 6 then x.c.f else x.c.reg 1) = x.c.c := rfl
    rw [e]
    clear e
    go_enter Tryz.func51, Tryz.ntmps51
    go_upto_region 1 with fail
    obtain ⟨V, hV⟩ : ∃ V, W.alloc (Obj.cells #[.int .i64 15, .int .i64 1, .int .i64 (b : Int), .int .i64 (m : Int), .int .i64 (l : Int)] 64) = V := ⟨_, rfl⟩
    rw [hV] at h1 i1 x1 f1 z1 ⊢
    generalize W.heap.size = I at *
    clear hV
    go_upto_region 43 with fail
    go_region
    all_goals
      go_wp2_with fail
      refine (push_spec x.c.c w2 _ X x n vr vm _ (by first | exact h1.out | exact h1.out.drew) (by omega) hk hcs).mono ?_
      rintro e w3 ⟨rfl, vr3, vm3, cv3, h3⟩
      replace h3 := hid h3
      clear i1 x1 f1 z1
      go_wp2
      exact bodyPost_end (v := .tuple #[]) (by simp [results, Tryz.results51]) rfl ⟨rfl, _, _, _, hend.out _ _ _ _ _ (by first | exact h3.out | exact h3.out.drew)⟩
  · obtain rfl : A = 2 := by omega
    clear hA
    have e : (if (2 : Nat) = 6 then x.c.f else x.c.reg 2) = x.c.d := rfl
    rw [e]
    clear e
    go_enter Tryz.func51, Tryz.ntmps51
    go_upto_region 1 with fail
    obtain ⟨V, hV⟩ : ∃ V, W.alloc (Obj.cells #[.int .i64 15, .int .i64 2, .int .i64 (b : Int), .int .i64 (m : Int), .int .i64 (l : Int)] 64) = V := ⟨_, rfl⟩
    rw [hV] at h1 i1 x1 f1 z1 ⊢
    generalize W.heap.size = I at *
    clear hV
    go_upto_region 43 with fail
    go_region
    all_goals
      go_wp2_with fail
      refine (push_spec x.c.d w2 _ X x n vr vm _ (by first | exact h1.out | exact h1.out.drew) (by omega) hk hcs).mono ?_
      rintro e w3 ⟨rfl, vr3, vm3, cv3, h3⟩
      replace h3 := hid h3
      clear i1 x1 f1 z1
      go_wp2
      exact bodyPost_end (v := .tuple #[]) (by simp [results, Tryz.results51]) rfl ⟨rfl, _, _, _, hend.out _ _ _ _ _ (by first | exact h3.out | exact h3.out.drew)⟩
  · obtain rfl : A = 3 := by omega
    clear hA
    have e : (if (3 : Nat) = 6 then x.c.f else x.c.reg 3) = x.c.e := rfl
    rw [e]
    clear e
    go_enter Tryz.func51, Tryz.ntmps51
    go_upto_region 1 with fail
    obtain ⟨V, hV⟩ : ∃ V, W.alloc (Obj.cells #[.int .i64 15, .int .i64 3, .int .i64 (b : Int), .int .i64 (m : Int), .int .i64 (l : Int)] 64) = V := ⟨_, rfl⟩
    rw [hV] at h1 i1 x1 f1 z1 ⊢
    generalize W.heap.size = I at *
    clear hV
    go_upto_region 43 with fail
    go_region
    all_goals
      go_wp2_with fail
      refine (push_spec x.c.e w2 _ X x n vr vm _ (by first | exact h1.out | exact h1.out.drew) (by omega) hk hcs).mono ?_
      rintro e w3 ⟨rfl, vr3, vm3, cv3, h3⟩
      replace h3 := hid h3
      clear i1 x1 f1 z1
      go_wp2
      exact bodyPost_end (v := .tuple #[]) (by simp [results, Tryz.results51]) rfl ⟨rfl, _, _, _, hend.out _ _ _ _ _ (by first | exact h3.out | exact h3.out.drew)⟩
  · obtain rfl : A = 4 := by omega
    clear hA
    have e : (if (4 : Nat) = 6 then x.c.f else x.c.reg 4) = x.c.h := rfl
    rw [e]
    clear e
    go_enter Tryz.func51, Tryz.ntmps51
    go_upto_region 1 with fail
    obtain ⟨V, hV⟩ : ∃ V, W.alloc (Obj.cells #[.int .i64 15, .int .i64 4, .int .i64 (b : Int), .int .i64 (m : Int), .int .i64 (l : Int)] 64) = V := ⟨_, rfl⟩
    rw [hV] at h1 i1 x1 f1 z1 ⊢
    generalize W.heap.size = I at *
    clear hV
    go_upto_region 43 with fail
    go_region
    all_goals
      go_wp2_with fail
      refine (push_spec x.c.h w2 _ X x n vr vm _ (by first | exact h1.out | exact h1.out.drew) (by omega) hk hcs).mono ?_
      rintro e w3 ⟨rfl, vr3, vm3, cv3, h3⟩
      replace h3 := hid h3
      clear i1 x1 f1 z1
      go_wp2
      exact bodyPost_end (v := .tuple #[]) (by simp [results, Tryz.results51]) rfl ⟨rfl, _, _, _, hend.out _ _ _ _ _ (by first | exact h3.out | exact h3.out.drew)⟩
  · obtain rfl : A = 5 := by omega
    clear hA
    have e : (if (5 : Nat) = 6 then x.c.f else x.c.reg 5) = x.c.l := rfl
    rw [e]
    clear e
    go_enter Tryz.func51, Tryz.ntmps51
    go_upto_region 1 with fail
    obtain ⟨V, hV⟩ : ∃ V, W.alloc (Obj.cells #[.int .i64 15, .int .i64 5, .int .i64 (b : Int), .int .i64 (m : Int), .int .i64 (l : Int)] 64) = V := ⟨_, rfl⟩
    rw [hV] at h1 i1 x1 f1 z1 ⊢
    generalize W.heap.size = I at *
    clear hV
    go_upto_region 43 with fail
    go_region
    all_goals
      go_wp2_with fail
      refine (push_spec x.c.l w2 _ X x n vr vm _ (by first | exact h1.out | exact h1.out.drew) (by omega) hk hcs).mono ?_
      rintro e w3 ⟨rfl, vr3, vm3, cv3, h3⟩
      replace h3 := hid h3
      clear i1 x1 f1 z1
      go_wp2
      exact bodyPost_end (v := .tuple #[]) (by simp [results, Tryz.results51]) rfl ⟨rfl, _, _, _, hend.out _ _ _ _ _ (by first | exact h3.out | exact h3.out.drew)⟩
  · obtain rfl : A = 6 := by omega
    clear hA
    have e : (if (6 : Nat) = 6 then x.c.f else x.c.reg 6) = x.c.f := rfl
    rw [e]
    clear e
    go_enter Tryz.func51, Tryz.ntmps51
    go_upto_region 1 with fail
    obtain ⟨V, hV⟩ : ∃ V, W.alloc (Obj.cells #[.int .i64 15, .int .i64 6, .int .i64 (b : Int), .int .i64 (m : Int), .int .i64 (l : Int)] 64) = V := ⟨_, rfl⟩
    rw [hV] at h1 i1 x1 f1 z1 ⊢
    generalize W.heap.size = I at *
    clear hV
    go_upto_region 43 with fail
    go_region
    all_goals
      go_wp2_with fail
      refine (push_spec x.c.f w2 _ X x n vr vm _ (by first | exact h1.out | exact h1.out.drew) (by omega) hk hcs).mono ?_
      rintro e w3 ⟨rfl, vr3, vm3, cv3, h3⟩
      replace h3 := hid h3
      clear i1 x1 f1 z1
      go_wp2
      exact bodyPost_end (v := .tuple #[]) (by simp [results, Tryz.results51]) rfl ⟨rfl, _, _, _, hend.out _ _ _ _ _ (by first | exact h3.out | exact h3.out.drew)⟩
  · obtain rfl : A = 7 := by omega
    clear hA
    have e : (if (7 : Nat) = 6 then x.c.f else x.c.reg 7) = x.c.a := rfl
    rw [e]
    clear e
    go_enter Tryz.func51, Tryz.ntmps51
    go_upto_region 1 with fail
    obtain ⟨V, hV⟩ : ∃ V, W.alloc (Obj.cells #[.int .i64 15, .int .i64 7, .int .i64 (b : Int), .int .i64 (m : Int), .int .i64 (l : Int)] 64) = V := ⟨_, rfl⟩
    rw [hV] at h1 i1 x1 f1 z1 ⊢
    generalize W.heap.size = I at *
    clear hV
    go_upto_region 43 with fail
    go_region
    all_goals
      go_wp2_with fail
      refine (push_spec x.c.a w2 _ X x n vr vm _ (by first | exact h1.out | exact h1.out.drew) (by omega) hk hcs).mono ?_
      rintro e w3 ⟨rfl, vr3, vm3, cv3, h3⟩
      replace h3 := hid h3
      clear i1 x1 f1 z1
      go_wp2
      exact bodyPost_end (v := .tuple #[]) (by simp [results, Tryz.results51]) rfl ⟨rfl, _, _, _, hend.out _ _ _ _ _ (by first | exact h3.out | exact h3.out.drew)⟩
set_option maxRecDepth 100000 in
set_option maxHeartbeats 2000000 in
theorem run_16 (a b m l : Nat) (w : Bs) (W : World) (X : Nat) (x : Mx) (n : Nat) (vr vm cv : Value) (h : NSt w W X x n vr vm cv) (hl : x.cy.length ≤ 900) (hk : okM x.m = true) (hc : x.c.ok) (ha : a < 8) (hb : b < 8) (hm : m < 256) (hn : n < 256) :
    Calls Tryz.prog 51 #[.pointer (some ⟨X, 0, none⟩), insV 16 a b m l] W fun e W' => e = .returned (.tuple #[]) ∧ ∃ vr' vm' cv', NSt w W' X (x.run n a b m 16) n vr' vm' cv' := by
  have e : x.run n a b m 16 = (if a = 6 then ({ x.popX with c := { x.popX.c with f := x.popV } } : Mx) else { x.popX with c := x.popX.c.put x.popV a }) := rfl
  rw [e]
  clear e
  obtain ⟨hcb, hcc, hcd, hce, hch, hcl, hca, hcf, hcs, hcp⟩ := id hc
  obtain ⟨w2, hw2⟩ : ∃ w2 : Bs, ({ w with k := (W.heap.size, #[.int .i64 16, .int .i64 (a : Int), .int .i64 (b : Int), .int .i64 (m : Int), .int .i64 (l : Int)]) :: w.k } : Bs) = w2 := ⟨_, rfl⟩
  have h1 := h.boxed #[.int .i64 16, .int .i64 (a : Int), .int .i64 (b : Int), .int .i64 (m : Int), .int .i64 (l : Int)] 64
  rw [hw2] at h1
  have hend : Hid (∀ W' y vr' vm' cv', NSt w2 W' X y n vr' vm' cv' → NSt w W' X y n vr' vm' cv') := fun W' y _ _ _ hh => by rw [← hw2] at hh; exact hh.less
  have hin : Hid (∀ W' y vr' vm' cv', NSt w2 W' X y n vr' vm' cv' → ∀ i, W'.cell? ⟨W.heap.size, i, none⟩ = (#[.int .i64 16, .int .i64 (a : Int), .int .i64 (b : Int), .int .i64 (m : Int), .int .i64 (l : Int)] : Array Value)[i]?) := fun W' y _ _ _ hh => by rw [← hw2] at hh; exact hh.kept.cell
  have i1 := hin.out _ _ _ _ _ h1
  have x1 := h1.blk.cell
  have f1 := h1.blk.frozen
  have z1 := h1.blk.lt
  replace h1 := hid h1
  clear h hw2
  have hun := hid (fun W1 (hh : NSt w2 W1 X x n vr vm cv) => pop_spec w2 W1 X x n vr vm cv hh (by omega) hk hcs)
  generalize x.popX = y at *
  generalize x.popV = v at *
  have hr8 : a = 0 ∨ a = 1 ∨ a = 2 ∨ a = 3 ∨ a = 4 ∨ a = 5 ∨ a = 6 ∨ a = 7 := by omega
  obtain ⟨A, hA⟩ : ∃ A : Int, (a : Int) = A := ⟨_, rfl⟩
  rw [hA] at h1 i1 x1 f1 z1 hin ⊢
  rcases hr8 with rfl | rfl | rfl | rfl | rfl | rfl | rfl | rfl
  · obtain rfl : A = 0 := by omega
    clear hA
    have e : (if (0 : Nat) = 6 then ({ y with c := { y.c with f := v } } : Mx) else { y with c := y.c.put v 0 }) = { y with c := { y.c with b := v } } := rfl
    rw [e]
    clear e
    go_enter Tryz.func51, Tryz.ntmps51
    go_upto_region 1 with fail
    obtain ⟨V, hV⟩ : ∃ V, W.alloc (Obj.cells #[.int .i64 16, .int .i64 0, .int .i64 (b : Int), .int .i64 (m : Int), .int .i64 (l : Int)] 64) = V := ⟨_, rfl⟩
    rw [hV] at h1 i1 x1 f1 z1 ⊢
    generalize W.heap.size = I at *
    clear hV
    go_wp2_with fail
    refine (hun.out _ (by first | exact h1.out | exact h1.out.drew)).mono ?_
    rintro e w3 ⟨rfl, cv3, h3⟩
    have i3 := hin.out _ _ _ _ _ h3
    have x3 := h3.blk.cell
    have f3 := h3.blk.frozen
    have z3 := h3.blk.lt
    replace h3 := hid h3
    clear i1 x1 f1 z1
    go_upto_region 51 with fail
    go_region
    all_goals (try go_wp2)
    all_goals exact bodyPost_end (v := .tuple #[]) (by simp [results, Tryz.results51]) rfl ⟨rfl, _, _, _, hend.out _ _ _ _ _ (by first | exact h3.out.put 0 (.int .i64 (v : Int)) { y.c with b := v } rfl | exact (h3.out.put 0 (.int .i64 (v : Int)) { y.c with b := v } rfl).drew)⟩
  · obtain rfl : A = 1 := by omega
    clear hA
    have e : (if (1 : Nat) = 6 then ({ y with c := { y.c with f := v } } : Mx) else { y with c := y.c.put v 1 }) = { y with c := { y.c with c := v } } := rfl
    rw [e]
    clear e
    go_enter Tryz.func51, Tryz.ntmps51
    go_upto_region 1 with fail
    obtain ⟨V, hV⟩ : ∃ V, W.alloc (Obj.cells #[.int .i64 16, .int .i64 1, .int .i64 (b : Int), .int .i64 (m : Int), .int .i64 (l : Int)] 64) = V := ⟨_, rfl⟩
    rw [hV] at h1 i1 x1 f1 z1 ⊢
    generalize W.heap.size = I at *
    clear hV
    go_wp2_with fail
    refine (hun.out _ (by first | exact h1.out | exact h1.out.drew)).mono ?_
    rintro e w3 ⟨rfl, cv3, h3⟩
    have i3 := hin.out _ _ _ _ _ h3
    have x3 := h3.blk.cell
    have f3 := h3.blk.frozen
    have z3 := h3.blk.lt
    replace h3 := hid h3
    clear i1 x1 f1 z1
    go_upto_region 51 with fail
    go_region
    all_goals (try go_wp2)
    all_goals exact bodyPost_end (v := .tuple #[]) (by simp [results, Tryz.results51]) rfl ⟨rfl, _, _, _, hend.out _ _ _ _ _ (by first | exact h3.out.put 1 (.int .i64 (v : Int)) { y.c with c := v } rfl | exact (h3.out.put 1 (.int .i64 (v : Int)) { y.c with c := v } rfl).drew)⟩
  · obtain rfl : A = 2 := by omega
    clear hA
    have e : (if (2 : Nat) = 6 then ({ y with c := { y.c with f := v } } : Mx) else { y with c := y.c.put v 2 }) = { y with c := { y.c with d := v } } := rfl
    rw [e]
    clear e
    go_enter Tryz.func51, Tryz.ntmps51
    go_upto_region 1 with fail
    obtain ⟨V, hV⟩ : ∃ V, W.alloc (Obj.cells #[.int .i64 16, .int .i64 2, .int .i64 (b : Int), .int .i64 (m : Int), .int .i64 (l : Int)] 64) = V := ⟨_, rfl⟩
    rw [hV] at h1 i1 x1 f1 z1 ⊢
    generalize W.heap.size = I at *
    clear hV
    go_wp2_with fail
    refine (hun.out _ (by first | exact h1.out | exact h1.out.drew)).mono ?_
    rintro e w3 ⟨rfl, cv3, h3⟩
    have i3 := hin.out _ _ _ _ _ h3
    have x3 := h3.blk.cell
    have f3 := h3.blk.frozen
    have z3 := h3.blk.lt
    replace h3 := hid h3
    clear i1 x1 f1 z1
    go_upto_region 51 with fail
    go_region
    all_goals (try go_wp2)
    all_goals exact bodyPost_end (v := .tuple #[]) (by simp [results, Tryz.results51]) rfl ⟨rfl, _, _, _, hend.out _ _ _ _ _ (by first | exact h3.out.put 2 (.int .i64 (v : Int)) { y.c with d := v } rfl | exact (h3.out.put 2 (.int .i64 (v : Int)) { y.c with d := v } rfl).drew)⟩
  · obtain rfl : A = 3 := by omega
    clear hA
    have e : (if (3 : Nat) = 6 then ({ y with c := { y.c with f := v } } : Mx) else { y with c := y.c.put v 3 }) = { y with c := { y.c with e := v } } := rfl
    rw [e]
    clear e
    go_enter Tryz.func51, Tryz.ntmps51
    go_upto_region 1 with fail
    obtain ⟨V, hV⟩ : ∃ V, W.alloc (Obj.cells #[.int .i64 16, .int .i64 3, .int .i64 (b : Int), .int .i64 (m : Int), .int .i64 (l : Int)] 64) = V := ⟨_, rfl⟩
    rw [hV] at h1 i1 x1 f1 z1 ⊢
    generalize W.heap.size = I at *
    clear hV
    go_wp2_with fail
    refine (hun.out _ (by first | exact h1.out | exact h1.out.drew)).mono ?_
    rintro e w3 ⟨rfl, cv3, h3⟩
    have i3 := hin.out _ _ _ _ _ h3
    have x3 := h3.blk.cell
    have f3 := h3.blk.frozen
    have z3 := h3.blk.lt
    replace h3 := hid h3
    clear i1 x1 f1 z1
    go_upto_region 51 with fail
    go_region
    all_goals (try go_wp2)
    all_goals exact bodyPost_end (v := .tuple #[]) (by simp [results, Tryz.results51]) rfl ⟨rfl, _, _, _, hend.out _ _ _ _ _ (by first | exact h3.out.put 3 (.int .i64 (v : Int)) { y.c with e := v } rfl | exact (h3.out.put 3 (.int .i64 (v : Int)) { y.c with e := v } rfl).drew)⟩
  · obtain rfl : A = 4 := by omega
    clear hA
    have e : (if (4 : Nat) = 6 then ({ y with c := { y.c with f := v } } : Mx) else { y with c := y.c.put v 4 }) = { y with c := { y.c with h := v } } := rfl
    rw [e]
    clear e
    go_enter Tryz.func51, Tryz.ntmps51
    go_upto_region 1 with fail
    obtain ⟨V, hV⟩ : ∃ V, W.alloc (Obj.cells #[.int .i64 16, .int .i64 4, .int .i64 (b : Int), .int .i64 (m : Int), .int .i64 (l : Int)] 64) = V := ⟨_, rfl⟩
    rw [hV] at h1 i1 x1 f1 z1 ⊢
    generalize W.heap.size = I at *
    clear hV
    go_wp2_with fail
    refine (hun.out _ (by first | exact h1.out | exact h1.out.drew)).mono ?_
    rintro e w3 ⟨rfl, cv3, h3⟩
    have i3 := hin.out _ _ _ _ _ h3
    have x3 := h3.blk.cell
    have f3 := h3.blk.frozen
    have z3 := h3.blk.lt
    replace h3 := hid h3
    clear i1 x1 f1 z1
    go_upto_region 51 with fail
    go_region
    all_goals (try go_wp2)
    all_goals exact bodyPost_end (v := .tuple #[]) (by simp [results, Tryz.results51]) rfl ⟨rfl, _, _, _, hend.out _ _ _ _ _ (by first | exact h3.out.put 4 (.int .i64 (v : Int)) { y.c with h := v } rfl | exact (h3.out.put 4 (.int .i64 (v : Int)) { y.c with h := v } rfl).drew)⟩
  · obtain rfl : A = 5 := by omega
    clear hA
    have e : (if (5 : Nat) = 6 then ({ y with c := { y.c with f := v } } : Mx) else { y with c := y.c.put v 5 }) = { y with c := { y.c with l := v } } := rfl
    rw [e]
    clear e
    go_enter Tryz.func51, Tryz.ntmps51
    go_upto_region 1 with fail
    obtain ⟨V, hV⟩ : ∃ V, W.alloc (Obj.cells #[.int .i64 16, .int .i64 5, .int .i64 (b : Int), .int .i64 (m : Int), .int .i64 (l : Int)] 64) = V := ⟨_, rfl⟩
    rw [hV] at h1 i1 x1 f1 z1 ⊢
    generalize W.heap.size = I at *
    clear hV
    go_wp2_with fail
    refine (hun.out _ (by first | exact h1.out | exact h1.out.drew)).mono ?_
    rintro e w3 ⟨rfl, cv3, h3⟩
    have i3 := hin.out _ _ _ _ _ h3
    have x3 := h3.blk.cell
    have f3 := h3.blk.frozen
    have z3 := h3.blk.lt
    replace h3 := hid h3
    clear i1 x1 f1 z1
    go_upto_region 51 with fail
    go_region
    all_goals (try go_wp2)
    all_goals exact bodyPost_end (v := .tuple #[]) (by simp [results, Tryz.results51]) rfl ⟨rfl, _, _, _, hend.out _ _ _ _ _ (by first | exact h3.out.put 5 (.int .i64 (v : Int)) { y.c with l := v } rfl | exact (h3.out.put 5 (.int .i64 (v : Int)) { y.c with l := v } rfl).drew)⟩
  · obtain rfl : A = 6 := by omega
    clear hA
    have e : (if (6 : Nat) = 6 then ({ y with c := { y.c with f := v } } : Mx) else { y with c := y.c.put v 6 }) = { y with c := { y.c with f := v } } := rfl
    rw [e]
    clear e
    go_enter Tryz.func51, Tryz.ntmps51
    go_upto_region 1 with fail
    obtain ⟨V, hV⟩ : ∃ V, W.alloc (Obj.cells #[.int .i64 16, .int .i64 6, .int .i64 (b : Int), .int .i64 (m : Int), .int .i64 (l : Int)] 64) = V := ⟨_, rfl⟩
    rw [hV] at h1 i1 x1 f1 z1 ⊢
    generalize W.heap.size = I at *
    clear hV
    go_wp2_with fail
    refine (hun.out _ (by first | exact h1.out | exact h1.out.drew)).mono ?_
    rintro e w3 ⟨rfl, cv3, h3⟩
    have i3 := hin.out _ _ _ _ _ h3
    have x3 := h3.blk.cell
    have f3 := h3.blk.frozen
    have z3 := h3.blk.lt
    replace h3 := hid h3
    clear i1 x1 f1 z1
    go_wp2
    all_goals (try go_wp2)
    all_goals exact bodyPost_end (v := .tuple #[]) (by simp [results, Tryz.results51]) rfl ⟨rfl, _, _, _, hend.out _ _ _ _ _ (by first | exact h3.out.put 8 (.int .i64 (v : Int)) { y.c with f := v } rfl | exact (h3.out.put 8 (.int .i64 (v : Int)) { y.c with f := v } rfl).drew)⟩
  · obtain rfl : A = 7 := by omega
    clear hA
    have e : (if (7 : Nat) = 6 then ({ y with c := { y.c with f := v } } : Mx) else { y with c := y.c.put v 7 }) = { y with c := { y.c with a := v } } := rfl
    rw [e]
    clear e
    go_enter Tryz.func51, Tryz.ntmps51
    go_upto_region 1 with fail
    obtain ⟨V, hV⟩ : ∃ V, W.alloc (Obj.cells #[.int .i64 16, .int .i64 7, .int .i64 (b : Int), .int .i64 (m : Int), .int .i64 (l : Int)] 64) = V := ⟨_, rfl⟩
    rw [hV] at h1 i1 x1 f1 z1 ⊢
    generalize W.heap.size = I at *
    clear hV
    go_wp2_with fail
    refine (hun.out _ (by first | exact h1.out | exact h1.out.drew)).mono ?_
    rintro e w3 ⟨rfl, cv3, h3⟩
    have i3 := hin.out _ _ _ _ _ h3
    have x3 := h3.blk.cell
    have f3 := h3.blk.frozen
    have z3 := h3.blk.lt
    replace h3 := hid h3
    clear i1 x1 f1 z1
    go_upto_region 51 with fail
    go_region
    all_goals (try go_wp2)
    all_goals exact bodyPost_end (v := .tuple #[]) (by simp [results, Tryz.results51]) rfl ⟨rfl, _, _, _, hend.out _ _ _ _ _ (by first | exact h3.out.put 7 (.int .i64 (v : Int)) { y.c with a := v } rfl | exact (h3.out.put 7 (.int .i64 (v : Int)) { y.c with a := v } rfl).drew)⟩
end Go.Proofs.YtgpmpfikeindfaaGreatDoor
