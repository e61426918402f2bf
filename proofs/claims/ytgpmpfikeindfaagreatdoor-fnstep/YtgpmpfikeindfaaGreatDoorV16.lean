/- What instructions do to the machine: 11, 12, 13, 14, 17, 18. -/
import Derived.Test.YtgpmpfikeindfaaGreatDoorV11
import Derived.Test.YtgpmpfikeindfaaGreatDoorGav
import Derived.Test.YtgpmpfikeindfaaGreatDoorGbv
import Derived.Test.YtgpmpfikeindfaaGreatDoorGcv
namespace Go.Proofs.YtgpmpfikeindfaaGreatDoor
open Go.ChangeShapes Go.WideShapes Go.ChangeAt Go.RowKit
set_option linter.unusedVariables false
set_option linter.unusedSimpArgs false

set_option maxRecDepth 100000 in
set_option maxHeartbeats 2000000 in
theorem run_11 (a b m l : Nat) (w : Bs) (W : World) (X : Nat) (x : Mx) (n : Nat) (vr vm cv : Value) (h : NSt w W X x n vr vm cv) (hl : x.cy.length ≤ 900) (hk : okM x.m = true) (hc : x.c.ok) (ha : a < 8) (hb : b < 8) (hm : m < 256) (hn : n < 256) :
    Calls Tryz.prog 51 #[.pointer (some ⟨X, 0, none⟩), insV 11 a b m l] W fun e W' => e = .returned (.tuple #[]) ∧ ∃ vr' vm' cv', NSt w W' X (x.run n a b m 11) n vr' vm' cv' := by
  have e : x.run n a b m 11 = ({ x with c := { x.c with a := daaV x.c.a x.c.f, f := daaF x.c.a x.c.f } } : Mx) := rfl
  rw [e]
  clear e
  obtain ⟨hcb, hcc, hcd, hce, hch, hcl, hca, hcf, hcs, hcp⟩ := id hc
  obtain ⟨w2, hw2⟩ : ∃ w2 : Bs, ({ w with k := (W.heap.size, #[.int .i64 11, .int .i64 (a : Int), .int .i64 (b : Int), .int .i64 (m : Int), .int .i64 (l : Int)]) :: w.k } : Bs) = w2 := ⟨_, rfl⟩
  have h1 := h.boxed #[.int .i64 11, .int .i64 (a : Int), .int .i64 (b : Int), .int .i64 (m : Int), .int .i64 (l : Int)] 64
  rw [hw2] at h1
  have hend : Hid (∀ W' y vr' vm' cv', NSt w2 W' X y n vr' vm' cv' → NSt w W' X y n vr' vm' cv') := fun W' y _ _ _ hh => by rw [← hw2] at hh; exact hh.less
  have hin : Hid (∀ W' y vr' vm' cv', NSt w2 W' X y n vr' vm' cv' → ∀ i, W'.cell? ⟨W.heap.size, i, none⟩ = (#[.int .i64 11, .int .i64 (a : Int), .int .i64 (b : Int), .int .i64 (m : Int), .int .i64 (l : Int)] : Array Value)[i]?) := fun W' y _ _ _ hh => by rw [← hw2] at hh; exact hh.kept.cell
  have i1 := hin.out _ _ _ _ _ h1
  have x1 := h1.blk.cell
  have f1 := h1.blk.frozen
  have z1 := h1.blk.lt
  replace h1 := hid h1
  clear h hw2
  have hun := hid (fun W1 => daa_spec x.c.a x.c.f W1 hca hcf)
  generalize daaV x.c.a x.c.f = V2 at *
  generalize daaF x.c.a x.c.f = F2 at *
  go_enter Tryz.func51, Tryz.ntmps51
  go_upto_region 1 with fail
  obtain ⟨V, hV⟩ : ∃ V, W.alloc (Obj.cells #[.int .i64 11, .int .i64 (a : Int), .int .i64 (b : Int), .int .i64 (m : Int), .int .i64 (l : Int)] 64) = V := ⟨_, rfl⟩
  rw [hV] at h1 i1 x1 f1 z1 ⊢
  generalize W.heap.size = I at *
  clear hV
  go_upto_region 29 with fail
  go_region_with (go_at_call 113; refine (hun.out _).mono ?_; rintro e w' ⟨rfl, rfl⟩)
  all_goals (try go_wp2)
  all_goals exact bodyPost_end (v := .tuple #[]) (by simp [results, Tryz.results51]) rfl ⟨rfl, _, _, _, hend.out _ _ _ _ _ (by first | exact ((h1.out.drew.put 7 (.int .i64 (V2 : Int)) { x.c with a := V2 } rfl).put 8 (.int .i64 (F2 : Int)) { x.c with a := V2, f := F2 } rfl) | exact (((h1.out.drew.put 7 (.int .i64 (V2 : Int)) { x.c with a := V2 } rfl).put 8 (.int .i64 (F2 : Int)) { x.c with a := V2, f := F2 } rfl)).drew)⟩
set_option maxRecDepth 100000 in
set_option maxHeartbeats 2000000 in
theorem run_12 (a b m l : Nat) (w : Bs) (W : World) (X : Nat) (x : Mx) (n : Nat) (vr vm cv : Value) (h : NSt w W X x n vr vm cv) (hl : x.cy.length ≤ 900) (hk : okM x.m = true) (hc : x.c.ok) (ha : a < 8) (hb : b < 8) (hm : m < 256) (hn : n < 256) :
    Calls Tryz.prog 51 #[.pointer (some ⟨X, 0, none⟩), insV 12 a b m l] W fun e W' => e = .returned (.tuple #[]) ∧ ∃ vr' vm' cv', NSt w W' X (x.run n a b m 12) n vr' vm' cv' := by
  have e : x.run n a b m 12 = (if holdN x.c.f a = true then ({ x with c := { x.c with pc := m } } : Mx) else x) := rfl
  rw [e]
  clear e
  obtain ⟨hcb, hcc, hcd, hce, hch, hcl, hca, hcf, hcs, hcp⟩ := id hc
  obtain ⟨w2, hw2⟩ : ∃ w2 : Bs, ({ w with k := (W.heap.size, #[.int .i64 12, .int .i64 (a : Int), .int .i64 (b : Int), .int .i64 (m : Int), .int .i64 (l : Int)]) :: w.k } : Bs) = w2 := ⟨_, rfl⟩
  have h1 := h.boxed #[.int .i64 12, .int .i64 (a : Int), .int .i64 (b : Int), .int .i64 (m : Int), .int .i64 (l : Int)] 64
  rw [hw2] at h1
  have hend : Hid (∀ W' y vr' vm' cv', NSt w2 W' X y n vr' vm' cv' → NSt w W' X y n vr' vm' cv') := fun W' y _ _ _ hh => by rw [← hw2] at hh; exact hh.less
  have hin : Hid (∀ W' y vr' vm' cv', NSt w2 W' X y n vr' vm' cv' → ∀ i, W'.cell? ⟨W.heap.size, i, none⟩ = (#[.int .i64 12, .int .i64 (a : Int), .int .i64 (b : Int), .int .i64 (m : Int), .int .i64 (l : Int)] : Array Value)[i]?) := fun W' y _ _ _ hh => by rw [← hw2] at hh; exact hh.kept.cell
  have i1 := hin.out _ _ _ _ _ h1
  have x1 := h1.blk.cell
  have f1 := h1.blk.frozen
  have z1 := h1.blk.lt
  replace h1 := hid h1
  clear h hw2
  have hho := hid (fun W1 => holds_spec x.c.f a W1 hcf ha)
  obtain ⟨q, hq⟩ : ∃ q, holdN x.c.f a = q := ⟨_, rfl⟩
  rw [hq] at hho ⊢
  clear hq
  cases q
  · rw [if_neg (by decide)]
    go_enter Tryz.func51, Tryz.ntmps51
    go_upto_region 1 with fail
    obtain ⟨V, hV⟩ : ∃ V, W.alloc (Obj.cells #[.int .i64 12, .int .i64 (a : Int), .int .i64 (b : Int), .int .i64 (m : Int), .int .i64 (l : Int)] 64) = V := ⟨_, rfl⟩
    rw [hV] at h1 i1 x1 f1 z1 ⊢
    generalize W.heap.size = I at *
    clear hV
    go_upto_region 33 with fail
    go_region_with (go_at_call 114; refine (hho.out _).mono ?_; rintro e w' ⟨rfl, rfl⟩)
    all_goals (try go_wp2)
    all_goals exact bodyPost_end (v := .tuple #[]) (by simp [results, Tryz.results51]) rfl ⟨rfl, _, _, _, hend.out _ _ _ _ _ (by first | exact h1.out | exact h1.out.drew)⟩
  rw [if_pos rfl]
  go_enter Tryz.func51, Tryz.ntmps51
  go_upto_region 1 with fail
  obtain ⟨V, hV⟩ : ∃ V, W.alloc (Obj.cells #[.int .i64 12, .int .i64 (a : Int), .int .i64 (b : Int), .int .i64 (m : Int), .int .i64 (l : Int)] 64) = V := ⟨_, rfl⟩
  rw [hV] at h1 i1 x1 f1 z1 ⊢
  generalize W.heap.size = I at *
  clear hV
  go_upto_region 33 with fail
  go_region_with (go_at_call 114; refine (hho.out _).mono ?_; rintro e w' ⟨rfl, rfl⟩)
  all_goals (try go_wp2)
  all_goals exact bodyPost_end (v := .tuple #[]) (by simp [results, Tryz.results51]) rfl ⟨rfl, _, _, _, hend.out _ _ _ _ _ (by first | exact h1.out.put 10 (.int .i64 (m : Int)) { x.c with pc := m } rfl | exact (h1.out.put 10 (.int .i64 (m : Int)) { x.c with pc := m } rfl).drew)⟩
set_option maxRecDepth 100000 in
set_option maxHeartbeats 2000000 in
theorem run_13 (a b m l : Nat) (w : Bs) (W : World) (X : Nat) (x : Mx) (n : Nat) (vr vm cv : Value) (h : NSt w W X x n vr vm cv) (hl : x.cy.length ≤ 900) (hk : okM x.m = true) (hc : x.c.ok) (ha : a < 8) (hb : b < 8) (hm : m < 256) (hn : n < 256) :
    Calls Tryz.prog 51 #[.pointer (some ⟨X, 0, none⟩), insV 13 a b m l] W fun e W' => e = .returned (.tuple #[]) ∧ ∃ vr' vm' cv', NSt w W' X (x.run n a b m 13) n vr' vm' cv' := by
  have e : x.run n a b m 13 = (if holdN x.c.f a = true then ({ x.push x.c.pc with c := { (x.push x.c.pc).c with pc := m } } : Mx) else x) := rfl
  rw [e]
  clear e
  obtain ⟨hcb, hcc, hcd, hce, hch, hcl, hca, hcf, hcs, hcp⟩ := id hc
  obtain ⟨w2, hw2⟩ : ∃ w2 : Bs, ({ w with k := (W.heap.size, #[.int .i64 13, .int .i64 (a : Int), .int .i64 (b : Int), .int .i64 (m : Int), .int .i64 (l : Int)]) :: w.k } : Bs) = w2 := ⟨_, rfl⟩
  have h1 := h.boxed #[.int .i64 13, .int .i64 (a : Int), .int .i64 (b : Int), .int .i64 (m : Int), .int .i64 (l : Int)] 64
  rw [hw2] at h1
  have hend : Hid (∀ W' y vr' vm' cv', NSt w2 W' X y n vr' vm' cv' → NSt w W' X y n vr' vm' cv') := fun W' y _ _ _ hh => by rw [← hw2] at hh; exact hh.less
  have hin : Hid (∀ W' y vr' vm' cv', NSt w2 W' X y n vr' vm' cv' → ∀ i, W'.cell? ⟨W.heap.size, i, none⟩ = (#[.int .i64 13, .int .i64 (a : Int), .int .i64 (b : Int), .int .i64 (m : Int), .int .i64 (l : Int)] : Array Value)[i]?) := fun W' y _ _ _ hh => by rw [← hw2] at hh; exact hh.kept.cell
  have i1 := hin.out _ _ _ _ _ h1
  have x1 := h1.blk.cell
  have f1 := h1.blk.frozen
  have z1 := h1.blk.lt
  replace h1 := hid h1
  clear h hw2
  have hho := hid (fun W1 => holds_spec x.c.f a W1 hcf ha)
  obtain ⟨q, hq⟩ : ∃ q, holdN x.c.f a = q := ⟨_, rfl⟩
  rw [hq] at hho ⊢
  clear hq
  cases q
  · rw [if_neg (by decide)]
    go_enter Tryz.func51, Tryz.ntmps51
    go_upto_region 1 with fail
    obtain ⟨V, hV⟩ : ∃ V, W.alloc (Obj.cells #[.int .i64 13, .int .i64 (a : Int), .int .i64 (b : Int), .int .i64 (m : Int), .int .i64 (l : Int)] 64) = V := ⟨_, rfl⟩
    rw [hV] at h1 i1 x1 f1 z1 ⊢
    generalize W.heap.size = I at *
    clear hV
    go_upto_region 36 with fail
    go_region_with (go_at_call 114; refine (hho.out _).mono ?_; rintro e w' ⟨rfl, rfl⟩)
    all_goals (try go_wp2)
    all_goals exact bodyPost_end (v := .tuple #[]) (by simp [results, Tryz.results51]) rfl ⟨rfl, _, _, _, hend.out _ _ _ _ _ (by first | exact h1.out | exact h1.out.drew)⟩
  rw [if_pos rfl]
  go_enter Tryz.func51, Tryz.ntmps51
  go_upto_region 1 with fail
  obtain ⟨V, hV⟩ : ∃ V, W.alloc (Obj.cells #[.int .i64 13, .int .i64 (a : Int), .int .i64 (b : Int), .int .i64 (m : Int), .int .i64 (l : Int)] 64) = V := ⟨_, rfl⟩
  rw [hV] at h1 i1 x1 f1 z1 ⊢
  generalize W.heap.size = I at *
  clear hV
  go_upto_region 36 with fail
  go_region_with (go_at_call 114; refine (hho.out _).mono ?_; rintro e w' ⟨rfl, rfl⟩)
  all_goals
    go_wp2_with fail
    refine (push_spec x.c.pc w2 _ X x n vr vm _ (by first | exact h1.out | exact h1.out.drew) (by omega) hk hcs).mono ?_
    rintro e w3 ⟨rfl, vr3, vm3, cv3, h3⟩
    have i3 := hin.out _ _ _ _ _ h3
    have x3 := h3.blk.cell
    have f3 := h3.blk.frozen
    have z3 := h3.blk.lt
    replace h3 := hid h3
    clear i1 x1 f1 z1
    go_wp2
    exact bodyPost_end (v := .tuple #[]) (by simp [results, Tryz.results51]) rfl ⟨rfl, _, _, _, hend.out _ _ _ _ _ (by first | exact h3.out.put 10 (.int .i64 (m : Int)) { (x.push x.c.pc).c with pc := m } rfl | exact (h3.out.put 10 (.int .i64 (m : Int)) { (x.push x.c.pc).c with pc := m } rfl).drew)⟩
set_option maxRecDepth 100000 in
set_option maxHeartbeats 2000000 in
theorem run_14 (a b m l : Nat) (w : Bs) (W : World) (X : Nat) (x : Mx) (n : Nat) (vr vm cv : Value) (h : NSt w W X x n vr vm cv) (hl : x.cy.length ≤ 900) (hk : okM x.m = true) (hc : x.c.ok) (ha : a < 8) (hb : b < 8) (hm : m < 256) (hn : n < 256) :
    Calls Tryz.prog 51 #[.pointer (some ⟨X, 0, none⟩), insV 14 a b m l] W fun e W' => e = .returned (.tuple #[]) ∧ ∃ vr' vm' cv', NSt w W' X (x.run n a b m 14) n vr' vm' cv' := by
  have e : x.run n a b m 14 = (if holdN x.c.f a = true then ({ x.popX with c := { x.popX.c with pc := x.popV } } : Mx) else x) := rfl
  rw [e]
  clear e
  obtain ⟨hcb, hcc, hcd, hce, hch, hcl, hca, hcf, hcs, hcp⟩ := id hc
  obtain ⟨w2, hw2⟩ : ∃ w2 : Bs, ({ w with k := (W.heap.size, #[.int .i64 14, .int .i64 (a : Int), .int .i64 (b : Int), .int .i64 (m : Int), .int .i64 (l : Int)]) :: w.k } : Bs) = w2 := ⟨_, rfl⟩
  have h1 := h.boxed #[.int .i64 14, .int .i64 (a : Int), .int .i64 (b : Int), .int .i64 (m : Int), .int .i64 (l : Int)] 64
  rw [hw2] at h1
  have hend : Hid (∀ W' y vr' vm' cv', NSt w2 W' X y n vr' vm' cv' → NSt w W' X y n vr' vm' cv') := fun W' y _ _ _ hh => by rw [← hw2] at hh; exact hh.less
  have hin : Hid (∀ W' y vr' vm' cv', NSt w2 W' X y n vr' vm' cv' → ∀ i, W'.cell? ⟨W.heap.size, i, none⟩ = (#[.int .i64 14, .int .i64 (a : Int), .int .i64 (b : Int), .int .i64 (m : Int), .int .i64 (l : Int)] : Array Value)[i]?) := fun W' y _ _ _ hh => by rw [← hw2] at hh; exact hh.kept.cell
  have i1 := hin.out _ _ _ _ _ h1
  have x1 := h1.blk.cell
  have f1 := h1.blk.frozen
  have z1 := h1.blk.lt
  replace h1 := hid h1
  clear h hw2
  have hho := hid (fun W1 => holds_spec x.c.f a W1 hcf ha)
  obtain ⟨q, hq⟩ : ∃ q, holdN x.c.f a = q := ⟨_, rfl⟩
  rw [hq] at hho ⊢
  clear hq
  cases q
  · rw [if_neg (by decide)]
    go_enter Tryz.func51, Tryz.ntmps51
    go_upto_region 1 with fail
    obtain ⟨V, hV⟩ : ∃ V, W.alloc (Obj.cells #[.int .i64 14, .int .i64 (a : Int), .int .i64 (b : Int), .int .i64 (m : Int), .int .i64 (l : Int)] 64) = V := ⟨_, rfl⟩
    rw [hV] at h1 i1 x1 f1 z1 ⊢
    generalize W.heap.size = I at *
    clear hV
    go_upto_region 40 with fail
    go_region_with (go_at_call 114; refine (hho.out _).mono ?_; rintro e w' ⟨rfl, rfl⟩)
    all_goals (try go_wp2)
    all_goals exact bodyPost_end (v := .tuple #[]) (by simp [results, Tryz.results51]) rfl ⟨rfl, _, _, _, hend.out _ _ _ _ _ (by first | exact h1.out | exact h1.out.drew)⟩
  rw [if_pos rfl]
  go_enter Tryz.func51, Tryz.ntmps51
  go_upto_region 1 with fail
  obtain ⟨V, hV⟩ : ∃ V, W.alloc (Obj.cells #[.int .i64 14, .int .i64 (a : Int), .int .i64 (b : Int), .int .i64 (m : Int), .int .i64 (l : Int)] 64) = V := ⟨_, rfl⟩
  rw [hV] at h1 i1 x1 f1 z1 ⊢
  generalize W.heap.size = I at *
  clear hV
  go_upto_region 40 with fail
  go_region_with (go_at_call 114; refine (hho.out _).mono ?_; rintro e w' ⟨rfl, rfl⟩)
  all_goals
    go_wp2_with fail
    refine (pop_spec w2 _ X x n vr vm _ (by first | exact h1.out | exact h1.out.drew) (by omega) hk hcs).mono ?_
    rintro e w3 ⟨rfl, cv3, h3⟩
    have x3 := h3.blk.cell
    have f3 := h3.blk.frozen
    have z3 := h3.blk.lt
    replace h3 := hid h3
    clear i1 x1 f1 z1
    go_wp2
    exact bodyPost_end (v := .tuple #[]) (by simp [results, Tryz.results51]) rfl ⟨rfl, _, _, _, hend.out _ _ _ _ _ (by first | exact h3.out.put 10 (.int .i64 (x.popV : Int)) { x.popX.c with pc := x.popV } rfl | exact (h3.out.put 10 (.int .i64 (x.popV : Int)) { x.popX.c with pc := x.popV } rfl).drew)⟩
set_option maxRecDepth 100000 in
set_option maxHeartbeats 2000000 in
theorem run_17 (a b m l : Nat) (w : Bs) (W : World) (X : Nat) (x : Mx) (n : Nat) (vr vm cv : Value) (h : NSt w W X x n vr vm cv) (hl : x.cy.length ≤ 900) (hk : okM x.m = true) (hc : x.c.ok) (ha : a < 8) (hb : b < 8) (hm : m < 256) (hn : n < 256) :
    Calls Tryz.prog 51 #[.pointer (some ⟨X, 0, none⟩), insV 17 a b m l] W fun e W' => e = .returned (.tuple #[]) ∧ ∃ vr' vm' cv', NSt w W' X (x.run n a b m 17) n vr' vm' cv' := by
  have e : x.run n a b m 17 = ({ x.note 4 m n with c := { x.c with a := n, f := Nat.lor (Nat.land x.c.f 1) (szpN n) } } : Mx) := rfl
  rw [e]
  clear e
  obtain ⟨hcb, hcc, hcd, hce, hch, hcl, hca, hcf, hcs, hcp⟩ := id hc
  obtain ⟨w2, hw2⟩ : ∃ w2 : Bs, ({ w with k := (W.heap.size, #[.int .i64 17, .int .i64 (a : Int), .int .i64 (b : Int), .int .i64 (m : Int), .int .i64 (l : Int)]) :: w.k } : Bs) = w2 := ⟨_, rfl⟩
  have h1 := h.boxed #[.int .i64 17, .int .i64 (a : Int), .int .i64 (b : Int), .int .i64 (m : Int), .int .i64 (l : Int)] 64
  rw [hw2] at h1
  have hend : Hid (∀ W' y vr' vm' cv', NSt w2 W' X y n vr' vm' cv' → NSt w W' X y n vr' vm' cv') := fun W' y _ _ _ hh => by rw [← hw2] at hh; exact hh.less
  have hin : Hid (∀ W' y vr' vm' cv', NSt w2 W' X y n vr' vm' cv' → ∀ i, W'.cell? ⟨W.heap.size, i, none⟩ = (#[.int .i64 17, .int .i64 (a : Int), .int .i64 (b : Int), .int .i64 (m : Int), .int .i64 (l : Int)] : Array Value)[i]?) := fun W' y _ _ _ hh => by rw [← hw2] at hh; exact hh.kept.cell
  have i1 := hin.out _ _ _ _ _ h1
  have x1 := h1.blk.cell
  have f1 := h1.blk.frozen
  have z1 := h1.blk.lt
  replace h1 := hid h1
  clear h hw2
  have hun := hid (fun W1 => szp_spec n W1 hn)
  have hno := hid (fun W1 (hh : NSt w2 W1 X x n vr vm cv) => note_spec 4 m n w2 W1 X x n vr vm cv hh (by omega))
  have hyc : (x.note 4 m n).c = x.c := rfl
  generalize x.note 4 m n = y at *
  have a1 : bits .and .i64 (x.c.f : Int) 1 = ((Nat.land x.c.f 1 : Nat) : Int) := bAnd x.c.f 1 (by omega) (by omega)
  have l1 : Nat.land x.c.f 1 < 2 ^ 8 := Nat.and_lt_two_pow _ (by omega)
  have l2 := szpN_lt n hn
  have o1 : bits .or .i64 ((Nat.land x.c.f 1 : Nat) : Int) ((szpN n : Nat) : Int) = ((Nat.lor (Nat.land x.c.f 1) (szpN n) : Nat) : Int) := bOr _ _ (by omega) (by omega)
  generalize Nat.lor (Nat.land x.c.f 1) (szpN n) = R at *
  generalize Nat.land x.c.f 1 = A1 at *
  generalize szpN n = A2 at *
  go_enter Tryz.func51, Tryz.ntmps51
  go_upto_region 1 with fail
  obtain ⟨V, hV⟩ : ∃ V, W.alloc (Obj.cells #[.int .i64 17, .int .i64 (a : Int), .int .i64 (b : Int), .int .i64 (m : Int), .int .i64 (l : Int)] 64) = V := ⟨_, rfl⟩
  rw [hV] at h1 i1 x1 f1 z1 ⊢
  generalize W.heap.size = I at *
  clear hV
  go_upto_region 53 with fail
  go_region_with (go_at_call 48; refine (hno.out _ (by first | exact h1.out | exact h1.out.drew)).mono ?_; rintro e w3 ⟨rfl, cv3, h3⟩; have x3 := h3.blk.cell; rw [hyc] at x3; have f3 := h3.blk.frozen; have z3 := h3.blk.lt; replace h3 := hid h3; clear i1 x1 f1 z1)
  all_goals
    go_upto_region 54 with fail
    go_region
  all_goals
    go_upto_region 55 with fail
    have h4 := (h3.out.put 7 (.int .i64 (n : Int)) { x.c with a := n } (by rw [hyc]; rfl)).drew
    obtain ⟨w4, hw4⟩ : ∃ w4, (w3.setCell ⟨X, 7, none⟩ (.int .i64 (n : Int))).drew = w4 := ⟨_, rfl⟩
    rw [hw4] at h4 ⊢
    clear hw4 x3 f3 z3 h3
    have x4 : ∀ i, w4.cell? ⟨X, i, none⟩ = (macA { x.c with a := n } vr vm y.m.page y.m.screen y.m.locked cv3 n)[i]? := h4.blk.cell
    have f4 := h4.blk.frozen
    have z4 := h4.blk.lt
    replace h4 := hid h4
    go_region_with (go_at_call 117; refine (hun.out _).mono ?_; rintro e w' ⟨rfl, rfl⟩)
  all_goals (try go_wp2)
  all_goals exact bodyPost_end (v := .tuple #[]) (by simp [results, Tryz.results51]) rfl ⟨rfl, _, _, _, hend.out _ _ _ _ _ (by first | exact h4.out.put 8 (.int .i64 (R : Int)) { x.c with a := n, f := R } rfl | exact (h4.out.put 8 (.int .i64 (R : Int)) { x.c with a := n, f := R } rfl).drew)⟩
set_option maxRecDepth 100000 in
set_option maxHeartbeats 2000000 in
theorem run_18 (a b m l : Nat) (w : Bs) (W : World) (X : Nat) (x : Mx) (n : Nat) (vr vm cv : Value) (h : NSt w W X x n vr vm cv) (hl : x.cy.length ≤ 900) (hk : okM x.m = true) (hc : x.c.ok) (ha : a < 8) (hb : b < 8) (hm : m < 256) (hn : n < 256) :
    Calls Tryz.prog 51 #[.pointer (some ⟨X, 0, none⟩), insV 18 a b m l] W fun e W' => e = .returned (.tuple #[]) ∧ ∃ vr' vm' cv', NSt w W' X (x.run n a b m 18) n vr' vm' cv' := by
  have e : x.run n a b m 18 = x.note 5 m x.c.a := rfl
  rw [e]
  clear e
  obtain ⟨hcb, hcc, hcd, hce, hch, hcl, hca, hcf, hcs, hcp⟩ := id hc
  obtain ⟨w2, hw2⟩ : ∃ w2 : Bs, ({ w with k := (W.heap.size, #[.int .i64 18, .int .i64 (a : Int), .int .i64 (b : Int), .int .i64 (m : Int), .int .i64 (l : Int)]) :: w.k } : Bs) = w2 := ⟨_, rfl⟩
  have h1 := h.boxed #[.int .i64 18, .int .i64 (a : Int), .int .i64 (b : Int), .int .i64 (m : Int), .int .i64 (l : Int)] 64
  rw [hw2] at h1
  have hend : Hid (∀ W' y vr' vm' cv', NSt w2 W' X y n vr' vm' cv' → NSt w W' X y n vr' vm' cv') := fun W' y _ _ _ hh => by rw [← hw2] at hh; exact hh.less
  have hin : Hid (∀ W' y vr' vm' cv', NSt w2 W' X y n vr' vm' cv' → ∀ i, W'.cell? ⟨W.heap.size, i, none⟩ = (#[.int .i64 18, .int .i64 (a : Int), .int .i64 (b : Int), .int .i64 (m : Int), .int .i64 (l : Int)] : Array Value)[i]?) := fun W' y _ _ _ hh => by rw [← hw2] at hh; exact hh.kept.cell
  have i1 := hin.out _ _ _ _ _ h1
  have x1 := h1.blk.cell
  have f1 := h1.blk.frozen
  have z1 := h1.blk.lt
  replace h1 := hid h1
  clear h hw2
  go_enter Tryz.func51, Tryz.ntmps51
  go_upto_region 1 with fail
  obtain ⟨V, hV⟩ : ∃ V, W.alloc (Obj.cells #[.int .i64 18, .int .i64 (a : Int), .int .i64 (b : Int), .int .i64 (m : Int), .int .i64 (l : Int)] 64) = V := ⟨_, rfl⟩
  rw [hV] at h1 i1 x1 f1 z1 ⊢
  generalize W.heap.size = I at *
  clear hV
  go_upto_region 57 with fail
  go_region_with (go_at_call 48; refine (note_spec 5 m x.c.a w2 _ X x n vr vm _ (by first | exact h1.out | exact h1.out.drew) (by omega)).mono ?_; rintro e w3 ⟨rfl, cv3, h3⟩; replace h3 := hid h3; clear i1 x1 f1 z1)
  all_goals (try go_wp2)
  all_goals exact bodyPost_end (v := .tuple #[]) (by simp [results, Tryz.results51]) rfl ⟨rfl, _, _, _, hend.out _ _ _ _ _ (by first | exact h3.out | exact h3.out.drew)⟩
end Go.Proofs.YtgpmpfikeindfaaGreatDoor

/- What an instruction does to the machine. -/
namespace Go.Proofs.YtgpmpfikeindfaaGreatDoor
open Go.ChangeShapes Go.WideShapes Go.ChangeAt Go.RowKit
set_option linter.unusedVariables false
set_option linter.unusedSimpArgs false

theorem run_spec (o a b m l : Nat) (w : Bs) (W : World) (X : Nat) (x : Mx) (n : Nat) (vr vm cv : Value) (h : NSt w W X x n vr vm cv) (hl : x.cy.length ≤ 900) (hk : okM x.m = true) (hc : x.c.ok) (ha : a < 8) (hb : b < 8) (hm : m < 256) (hn : n < 256) (ho : o < 24) :
    Calls Tryz.prog 51 #[.pointer (some ⟨X, 0, none⟩), insV o a b m l] W fun e W' => e = .returned (.tuple #[]) ∧ ∃ vr' vm' cv', NSt w W' X (x.run n a b m o) n vr' vm' cv' := by
  have h24 : o = 0 ∨ o = 1 ∨ o = 2 ∨ o = 3 ∨ o = 4 ∨ o = 5 ∨ o = 6 ∨ o = 7 ∨ o = 8 ∨ o = 9 ∨ o = 10 ∨ o = 11 ∨ o = 12 ∨ o = 13 ∨ o = 14 ∨ o = 15 ∨ o = 16 ∨ o = 17 ∨ o = 18 ∨ o = 19 ∨ o = 20 ∨ o = 21 ∨ o = 22 ∨ o = 23 := by omega
  rcases h24 with rfl | rfl | rfl | rfl | rfl | rfl | rfl | rfl | rfl | rfl | rfl | rfl | rfl | rfl | rfl | rfl | rfl | rfl | rfl | rfl | rfl | rfl | rfl | rfl
  · exact run_0 a b m l w W X x n vr vm cv h hl hk hc ha hb hm hn
  · exact run_1 a b m l w W X x n vr vm cv h hl hk hc ha hb hm hn
  · exact run_2 a b m l w W X x n vr vm cv h hl hk hc ha hb hm hn
  · exact run_3 a b m l w W X x n vr vm cv h hl hk hc ha hb hm hn
  · exact run_4 a b m l w W X x n vr vm cv h hl hk hc ha hb hm hn
  · exact run_5 a b m l w W X x n vr vm cv h hl hk hc ha hb hm hn
  · exact run_6 a b m l w W X x n vr vm cv h hl hk hc ha hb hm hn
  · exact run_7 a b m l w W X x n vr vm cv h hl hk hc ha hb hm hn
  · exact run_8 a b m l w W X x n vr vm cv h hl hk hc ha hb hm hn
  · exact run_9 a b m l w W X x n vr vm cv h hl hk hc ha hb hm hn
  · exact run_10 a b m l w W X x n vr vm cv h hl hk hc ha hb hm hn
  · exact run_11 a b m l w W X x n vr vm cv h hl hk hc ha hb hm hn
  · exact run_12 a b m l w W X x n vr vm cv h hl hk hc ha hb hm hn
  · exact run_13 a b m l w W X x n vr vm cv h hl hk hc ha hb hm hn
  · exact run_14 a b m l w W X x n vr vm cv h hl hk hc ha hb hm hn
  · exact run_15 a b m l w W X x n vr vm cv h hl hk hc ha hb hm hn
  · exact run_16 a b m l w W X x n vr vm cv h hl hk hc ha hb hm hn
  · exact run_17 a b m l w W X x n vr vm cv h hl hk hc ha hb hm hn
  · exact run_18 a b m l w W X x n vr vm cv h hl hk hc ha hb hm hn
  · exact run_19 a b m l w W X x n vr vm cv h hl hk hc ha hb hm hn
  · exact run_20 a b m l w W X x n vr vm cv h hl hk hc ha hb hm hn
  · exact run_21 a b m l w W X x n vr vm cv h hl hk hc ha hb hm hn
  · exact run_22 a b m l w W X x n vr vm cv h hl hk hc ha hb hm hn
  · exact run_23 a b m l w W X x n vr vm cv h hl hk hc ha hb hm hn
end Go.Proofs.YtgpmpfikeindfaaGreatDoor
