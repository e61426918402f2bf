/- What instructions do to the machine: 7, 8, 10. -/
import Derived.Test.YtgpmpfikeindfaaGreatDoorV11
namespace Go.Proofs.YtgpmpfikeindfaaGreatDoor
open Go.ChangeShapes Go.WideShapes Go.ChangeAt Go.RowKit
set_option linter.unusedVariables false
set_option linter.unusedSimpArgs false

set_option maxRecDepth 100000 in
set_option maxHeartbeats 2000000 in
theorem run_7 (a b m l : Nat) (w : Bs) (W : World) (X : Nat) (x : Mx) (n : Nat) (vr vm cv : Value) (h : NSt w W X x n vr vm cv) (hl : x.cy.length ≤ 900) (hk : okM x.m = true) (hc : x.c.ok) (ha : a < 8) (hb : b < 8) (hm : m < 256) (hn : n < 256) :
    Calls Tryz.prog 51 #[.pointer (some ⟨X, 0, none⟩), insV 7 a b m l] W fun e W' => e = .returned (.tuple #[]) ∧ ∃ vr' vm' cv', NSt w W' X (x.run n a b m 7) n vr' vm' cv' := by
  have e : x.run n a b m 7 = ({ x.getX a with c := { x.c with f := incF (x.getV a) x.c.f } } : Mx).set a (incV (x.getV a)) := rfl
  rw [e]
  clear e
  obtain ⟨hcb, hcc, hcd, hce, hch, hcl, hca, hcf, hcs, hcp⟩ := id hc
  obtain ⟨w2, hw2⟩ : ∃ w2 : Bs, ({ w with k := (W.heap.size, #[.int .i64 7, .int .i64 (a : Int), .int .i64 (b : Int), .int .i64 (m : Int), .int .i64 (l : Int)]) :: w.k } : Bs) = w2 := ⟨_, rfl⟩
  have h1 := h.boxed #[.int .i64 7, .int .i64 (a : Int), .int .i64 (b : Int), .int .i64 (m : Int), .int .i64 (l : Int)] 64
  rw [hw2] at h1
  have hend : Hid (∀ W' y vr' vm' cv', NSt w2 W' X y n vr' vm' cv' → NSt w W' X y n vr' vm' cv') := fun W' y _ _ _ hh => by rw [← hw2] at hh; exact hh.less
  have hin : Hid (∀ W' y vr' vm' cv', NSt w2 W' X y n vr' vm' cv' → ∀ i, W'.cell? ⟨W.heap.size, i, none⟩ = (#[.int .i64 7, .int .i64 (a : Int), .int .i64 (b : Int), .int .i64 (m : Int), .int .i64 (l : Int)] : Array Value)[i]?) := fun W' y _ _ _ hh => by rw [← hw2] at hh; exact hh.kept.cell
  have i1 := hin.out _ _ _ _ _ h1
  have x1 := h1.blk.cell
  have f1 := h1.blk.frozen
  have z1 := h1.blk.lt
  replace h1 := hid h1
  clear h hw2
  have hget := hid (fun W1 (hh : NSt w2 W1 X x n vr vm cv) => get_spec a w2 W1 X x n vr vm cv hh (by omega) hk hch ha)
  have hyc := getX_c x a
  have hym := getX_m x a
  have hyl := getX_l x a
  have hv := getV_lt hk hc a
  generalize x.getX a = y at *
  generalize x.getV a = v at *
  have hun := hid (fun W1 => inc_spec v x.c.f W1 hv hcf)
  generalize incF v x.c.f = F2 at *
  generalize incV v = V2 at *
  go_enter Tryz.func51, Tryz.ntmps51
  go_upto_region 1 with fail
  obtain ⟨V, hV⟩ : ∃ V, W.alloc (Obj.cells #[.int .i64 7, .int .i64 (a : Int), .int .i64 (b : Int), .int .i64 (m : Int), .int .i64 (l : Int)] 64) = V := ⟨_, rfl⟩
  rw [hV] at h1 i1 x1 f1 z1 ⊢
  generalize W.heap.size = I at *
  clear hV
  go_upto_region 15 with fail
  go_region_with (first | (go_at_call 106; refine (hget.out _ (by first | exact h1.out | exact h1.out.drew)).mono ?_; rintro e w1 ⟨rfl, cv1, h2⟩; have i2 := hin.out _ _ _ _ _ h2; have x2 := h2.blk.cell; rw [hyc] at x2; have f2 := h2.blk.frozen; have z2 := h2.blk.lt; replace h2 := hid h2; clear i1 x1 f1 z1) | (go_at_call 109; refine (hun.out _).mono ?_; rintro e w' ⟨rfl, rfl⟩))
  all_goals
    go_upto_region 17 with fail
    have h3 := h2.out.put 8 (.int .i64 (F2 : Int)) { x.c with f := F2 } (by rw [hyc]; rfl)
    have i3 := hin.out _ _ _ _ _ h3
    replace h3 := hid h3
    obtain ⟨w4, hw4⟩ : ∃ w4, w'.setCell ⟨X, 8, none⟩ (.int .i64 (F2 : Int)) = w4 := ⟨_, rfl⟩
    rw [hw4] at h3 i3 ⊢
    clear hw4 i2 x2 f2 z2 h2
    go_wp2_with fail
    refine (set_spec a V2 w2 _ X _ n vr vm _ h3.out (by show y.cy.length ≤ 1000; omega) (by show okM y.m = true; rw [hym]; exact hk) (by show x.c.h < 256; exact hch) ha).mono ?_
    rintro e w5 ⟨rfl, vr5, vm5, cv5, h5⟩
    replace h5 := hid h5
    clear h3 i3
    go_wp2
    exact bodyPost_end (v := .tuple #[]) (by simp [results, Tryz.results51]) rfl ⟨rfl, _, _, _, hend.out _ _ _ _ _ h5.out⟩
set_option maxRecDepth 100000 in
set_option maxHeartbeats 2000000 in
theorem run_8 (a b m l : Nat) (w : Bs) (W : World) (X : Nat) (x : Mx) (n : Nat) (vr vm cv : Value) (h : NSt w W X x n vr vm cv) (hl : x.cy.length ≤ 900) (hk : okM x.m = true) (hc : x.c.ok) (ha : a < 8) (hb : b < 8) (hm : m < 256) (hn : n < 256) :
    Calls Tryz.prog 51 #[.pointer (some ⟨X, 0, none⟩), insV 8 a b m l] W fun e W' => e = .returned (.tuple #[]) ∧ ∃ vr' vm' cv', NSt w W' X (x.run n a b m 8) n vr' vm' cv' := by
  have e : x.run n a b m 8 = ({ x.getX a with c := { x.c with f := decF (x.getV a) x.c.f } } : Mx).set a (decV (x.getV a)) := rfl
  rw [e]
  clear e
  obtain ⟨hcb, hcc, hcd, hce, hch, hcl, hca, hcf, hcs, hcp⟩ := id hc
  obtain ⟨w2, hw2⟩ : ∃ w2 : Bs, ({ w with k := (W.heap.size, #[.int .i64 8, .int .i64 (a : Int), .int .i64 (b : Int), .int .i64 (m : Int), .int .i64 (l : Int)]) :: w.k } : Bs) = w2 := ⟨_, rfl⟩
  have h1 := h.boxed #[.int .i64 8, .int .i64 (a : Int), .int .i64 (b : Int), .int .i64 (m : Int), .int .i64 (l : Int)] 64
  rw [hw2] at h1
  have hend : Hid (∀ W' y vr' vm' cv', NSt w2 W' X y n vr' vm' cv' → NSt w W' X y n vr' vm' cv') := fun W' y _ _ _ hh => by rw [← hw2] at hh; exact hh.less
  have hin : Hid (∀ W' y vr' vm' cv', NSt w2 W' X y n vr' vm' cv' → ∀ i, W'.cell? ⟨W.heap.size, i, none⟩ = (#[.int .i64 8, .int .i64 (a : Int), .int .i64 (b : Int), .int .i64 (m : Int), .int .i64 (l : Int)] : Array Value)[i]?) := fun W' y _ _ _ hh => by rw [← hw2] at hh; exact hh.kept.cell
  have i1 := hin.out _ _ _ _ _ h1
  have x1 := h1.blk.cell
  have f1 := h1.blk.frozen
  have z1 := h1.blk.lt
  replace h1 := hid h1
  clear h hw2
  have hget := hid (fun W1 (hh : NSt w2 W1 X x n vr vm cv) => get_spec a w2 W1 X x n vr vm cv hh (by omega) hk hch ha)
  have hyc := getX_c x a
  have hym := getX_m x a
  have hyl := getX_l x a
  have hv := getV_lt hk hc a
  generalize x.getX a = y at *
  generalize x.getV a = v at *
  have hun := hid (fun W1 => dec_spec v x.c.f W1 hv hcf)
  generalize decF v x.c.f = F2 at *
  generalize decV v = V2 at *
  go_enter Tryz.func51, Tryz.ntmps51
  go_upto_region 1 with fail
  obtain ⟨V, hV⟩ : ∃ V, W.alloc (Obj.cells #[.int .i64 8, .int .i64 (a : Int), .int .i64 (b : Int), .int .i64 (m : Int), .int .i64 (l : Int)] 64) = V := ⟨_, rfl⟩
  rw [hV] at h1 i1 x1 f1 z1 ⊢
  generalize W.heap.size = I at *
  clear hV
  go_upto_region 19 with fail
  go_region_with (first | (go_at_call 106; refine (hget.out _ (by first | exact h1.out | exact h1.out.drew)).mono ?_; rintro e w1 ⟨rfl, cv1, h2⟩; have i2 := hin.out _ _ _ _ _ h2; have x2 := h2.blk.cell; rw [hyc] at x2; have f2 := h2.blk.frozen; have z2 := h2.blk.lt; replace h2 := hid h2; clear i1 x1 f1 z1) | (go_at_call 110; refine (hun.out _).mono ?_; rintro e w' ⟨rfl, rfl⟩))
  all_goals
    go_upto_region 21 with fail
    have h3 := h2.out.put 8 (.int .i64 (F2 : Int)) { x.c with f := F2 } (by rw [hyc]; rfl)
    have i3 := hin.out _ _ _ _ _ h3
    replace h3 := hid h3
    obtain ⟨w4, hw4⟩ : ∃ w4, w'.setCell ⟨X, 8, none⟩ (.int .i64 (F2 : Int)) = w4 := ⟨_, rfl⟩
    rw [hw4] at h3 i3 ⊢
    clear hw4 i2 x2 f2 z2 h2
    go_wp2_with fail
    refine (set_spec a V2 w2 _ X _ n vr vm _ h3.out (by show y.cy.length ≤ 1000; omega) (by show okM y.m = true; rw [hym]; exact hk) (by show x.c.h < 256; exact hch) ha).mono ?_
    rintro e w5 ⟨rfl, vr5, vm5, cv5, h5⟩
    replace h5 := hid h5
    clear h3 i3
    go_wp2
    exact bodyPost_end (v := .tuple #[]) (by simp [results, Tryz.results51]) rfl ⟨rfl, _, _, _, hend.out _ _ _ _ _ h5.out⟩
set_option maxRecDepth 100000 in
set_option maxHeartbeats 2000000 in
theorem run_10 (a b m l : Nat) (w : Bs) (W : World) (X : Nat) (x : Mx) (n : Nat) (vr vm cv : Value) (h : NSt w W X x n vr vm cv) (hl : x.cy.length ≤ 900) (hk : okM x.m = true) (hc : x.c.ok) (ha : a < 8) (hb : b < 8) (hm : m < 256) (hn : n < 256) :
    Calls Tryz.prog 51 #[.pointer (some ⟨X, 0, none⟩), insV 10 a b m l] W fun e W' => e = .returned (.tuple #[]) ∧ ∃ vr' vm' cv', NSt w W' X (x.run n a b m 10) n vr' vm' cv' := by
  have e : x.run n a b m 10 = ({ x.getX b with c := { x.c with f := tstF a (x.getV b) x.c.f } } : Mx) := rfl
  rw [e]
  clear e
  obtain ⟨hcb, hcc, hcd, hce, hch, hcl, hca, hcf, hcs, hcp⟩ := id hc
  obtain ⟨w2, hw2⟩ : ∃ w2 : Bs, ({ w with k := (W.heap.size, #[.int .i64 10, .int .i64 (a : Int), .int .i64 (b : Int), .int .i64 (m : Int), .int .i64 (l : Int)]) :: w.k } : Bs) = w2 := ⟨_, rfl⟩
  have h1 := h.boxed #[.int .i64 10, .int .i64 (a : Int), .int .i64 (b : Int), .int .i64 (m : Int), .int .i64 (l : Int)] 64
  rw [hw2] at h1
  have hend : Hid (∀ W' y vr' vm' cv', NSt w2 W' X y n vr' vm' cv' → NSt w W' X y n vr' vm' cv') := fun W' y _ _ _ hh => by rw [← hw2] at hh; exact hh.less
  have hin : Hid (∀ W' y vr' vm' cv', NSt w2 W' X y n vr' vm' cv' → ∀ i, W'.cell? ⟨W.heap.size, i, none⟩ = (#[.int .i64 10, .int .i64 (a : Int), .int .i64 (b : Int), .int .i64 (m : Int), .int .i64 (l : Int)] : Array Value)[i]?) := fun W' y _ _ _ hh => by rw [← hw2] at hh; exact hh.kept.cell
  have i1 := hin.out _ _ _ _ _ h1
  have x1 := h1.blk.cell
  have f1 := h1.blk.frozen
  have z1 := h1.blk.lt
  replace h1 := hid h1
  clear h hw2
  have hget := hid (fun W1 (hh : NSt w2 W1 X x n vr vm cv) => get_spec b w2 W1 X x n vr vm cv hh (by omega) hk hch hb)
  have hyc := getX_c x b
  have hym := getX_m x b
  have hyl := getX_l x b
  have hv := getV_lt hk hc b
  generalize x.getX b = y at *
  generalize x.getV b = v at *
  have hun := hid (fun W1 => test_spec a v x.c.f W1 ha hv hcf)
  generalize tstF a v x.c.f = F2 at *
  go_enter Tryz.func51, Tryz.ntmps51
  go_upto_region 1 with fail
  obtain ⟨V, hV⟩ : ∃ V, W.alloc (Obj.cells #[.int .i64 10, .int .i64 (a : Int), .int .i64 (b : Int), .int .i64 (m : Int), .int .i64 (l : Int)] 64) = V := ⟨_, rfl⟩
  rw [hV] at h1 i1 x1 f1 z1 ⊢
  generalize W.heap.size = I at *
  clear hV
  go_upto_region 27 with fail
  go_region_with (first | (go_at_call 106; refine (hget.out _ (by first | exact h1.out | exact h1.out.drew)).mono ?_; rintro e w1 ⟨rfl, cv1, h2⟩; have i2 := hin.out _ _ _ _ _ h2; have x2 := h2.blk.cell; rw [hyc] at x2; have f2 := h2.blk.frozen; have z2 := h2.blk.lt; replace h2 := hid h2; clear i1 x1 f1 z1) | (go_at_call 112; refine (hun.out _).mono ?_; rintro e w' ⟨rfl, rfl⟩))
  all_goals (try go_wp2)
  all_goals exact bodyPost_end (v := .tuple #[]) (by simp [results, Tryz.results51]) rfl ⟨rfl, _, _, _, hend.out _ _ _ _ _ (by first | exact h2.out.put 8 (.int .i64 (F2 : Int)) { x.c with f := F2 } (by rw [hyc]; rfl) | exact (h2.out.put 8 (.int .i64 (F2 : Int)) { x.c with f := F2 } (by rw [hyc]; rfl)).drew)⟩
end Go.Proofs.YtgpmpfikeindfaaGreatDoor
