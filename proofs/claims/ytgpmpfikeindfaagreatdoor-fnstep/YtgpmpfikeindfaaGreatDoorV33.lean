/- What instructions do, as the program does them: 12, 13, 14, 17, 18. -/
import Derived.Test.YtgpmpfikeindfaaGreatDoorRfv
import Derived.Test.YtgpmpfikeindfaaGreatDoorV02
namespace Go.Proofs.YtgpmpfikeindfaaGreatDoor
open Go.ChangeShapes Go.WideShapes Go.ChangeAt Go.RowKit Go.Shelf
set_option linter.unusedVariables false
set_option linter.unusedSimpArgs false

set_option maxRecDepth 100000 in
set_option maxHeartbeats 2000000 in
theorem op_12 (a b m l : Nat) (p : Par) (hT : Tells p) (z : Kps) (W : World) (x : Mx) (h : At p z W x) (hG : Flags p.w) (hD : Conds p.w) (hl : x.cy.length ≤ 900) (hk : okM x.m = true) (hc : x.c.ok) (ha : a < 8) (hb : b < 8) (hm : m < 256) (hn : p.n < 256) :
    Calls Tryz.prog 89 #[.pointer (some ⟨p.Y, 0, none⟩), insV 12 a b m l] W fun e W' => e = .returned (.tuple #[]) ∧ At p z W' (x.run p.n a b m 12) := by
  have e : x.run p.n a b m 12 = (if holdN x.c.f a = true then ({ x with c := { x.c with pc := m } } : Mx) else x) := rfl
  rw [e]
  clear e
  obtain ⟨hcb, hcc, hcd, hce, hch, hcl, hca, hcf, hcs, hcp⟩ := id hc
  obtain ⟨z2, hz2⟩ : ∃ z2 : Kps, ((W.heap.size, #[.int .i64 12, .int .i64 (a : Int), .int .i64 (b : Int), .int .i64 (m : Int), .int .i64 (l : Int)]) :: z) = z2 := ⟨_, rfl⟩
  have h1 := h.boxed #[.int .i64 12, .int .i64 (a : Int), .int .i64 (b : Int), .int .i64 (m : Int), .int .i64 (l : Int)] 64
  rw [hz2] at h1
  have hend : Hid (∀ W' y, At p z2 W' y → At p z W' y) := fun W' y hh => by rw [← hz2] at hh; exact hh.less
  have hin : Hid (∀ W' y, At p z2 W' y → ∀ i, W'.cell? ⟨W.heap.size, i, none⟩ = (#[.int .i64 12, .int .i64 (a : Int), .int .i64 (b : Int), .int .i64 (m : Int), .int .i64 (l : Int)] : Array Value)[i]?) := fun W' y hh => by rw [← hz2] at hh; exact hh.kept.cell
  have i1 := hin.out _ _ h1
  have x1 := h1.cell
  have f1 := h1.frozen
  have z1 := h1.lt
  replace h1 := hid h1
  clear h hz2
  have hho := hid (fun W1 (h3 : At p z2 W1 x) => holds_impl x.c.f a W1 (hD.below h3.old) hcf ha)
  replace hT := hid hT
  replace hG := hid hG
  replace hD := hid hD
  obtain ⟨q, hq⟩ : ∃ q, holdN x.c.f a = q := ⟨_, rfl⟩
  rw [hq] at hho ⊢
  clear hq
  cases q
  · rw [if_neg (by decide)]
    go_enter Tryz.func89, Tryz.ntmps89
    go_upto_region 1 with fail
    obtain ⟨V, hV⟩ : ∃ V, W.alloc (Obj.cells #[.int .i64 12, .int .i64 (a : Int), .int .i64 (b : Int), .int .i64 (m : Int), .int .i64 (l : Int)] 64) = V := ⟨_, rfl⟩
    rw [hV] at h1 i1 x1 f1 z1 ⊢
    generalize W.heap.size = I at *
    clear hV
    go_region_with (go_at_call 131; refine (hho.out _ (by first | exact h1.out | exact h1.out.drew)).mono ?_; rintro e w' ⟨rfl, hbq⟩; have h2 := (show At p z2 _ x from (by first | exact h1.out | exact h1.out.drew)).below hbq; have i2 := hin.out _ _ h2; have x2 := h2.cell; have f2 := h2.frozen; have z2' := h2.lt; replace h2 := hid h2; clear i1 x1 f1 z1 hbq)
    all_goals (try go_wp2)
    all_goals exact bodyPost_end (v := .tuple #[]) (by simp [results, Tryz.results89]) rfl ⟨rfl, hend.out _ _ (by first | exact h2.out | exact h2.out.drew)⟩
  rw [if_pos rfl]
  go_enter Tryz.func89, Tryz.ntmps89
  go_upto_region 1 with fail
  obtain ⟨V, hV⟩ : ∃ V, W.alloc (Obj.cells #[.int .i64 12, .int .i64 (a : Int), .int .i64 (b : Int), .int .i64 (m : Int), .int .i64 (l : Int)] 64) = V := ⟨_, rfl⟩
  rw [hV] at h1 i1 x1 f1 z1 ⊢
  generalize W.heap.size = I at *
  clear hV
  go_region_with (go_at_call 131; refine (hho.out _ (by first | exact h1.out | exact h1.out.drew)).mono ?_; rintro e w' ⟨rfl, hbq⟩; have h2 := (show At p z2 _ x from (by first | exact h1.out | exact h1.out.drew)).below hbq; have i2 := hin.out _ _ h2; have x2 := h2.cell; have f2 := h2.frozen; have z2' := h2.lt; replace h2 := hid h2; clear i1 x1 f1 z1 hbq)
  all_goals (try go_wp2)
  all_goals exact bodyPost_end (v := .tuple #[]) (by simp [results, Tryz.results89]) rfl ⟨rfl, hend.out _ _ (by first | exact h2.out.put 10 (.int .i64 (m : Int)) { x.c with pc := m } rfl | exact (h2.out.put 10 (.int .i64 (m : Int)) { x.c with pc := m } rfl).drew)⟩
set_option maxRecDepth 100000 in
set_option maxHeartbeats 2000000 in
theorem op_13 (a b m l : Nat) (p : Par) (hT : Tells p) (z : Kps) (W : World) (x : Mx) (h : At p z W x) (hG : Flags p.w) (hD : Conds p.w) (hl : x.cy.length ≤ 900) (hk : okM x.m = true) (hc : x.c.ok) (ha : a < 8) (hb : b < 8) (hm : m < 256) (hn : p.n < 256) :
    Calls Tryz.prog 90 #[.pointer (some ⟨p.Y, 0, none⟩), insV 13 a b m l] W fun e W' => e = .returned (.tuple #[]) ∧ At p z W' (x.run p.n a b m 13) := by
  have e : x.run p.n a b m 13 = (if holdN x.c.f a = true then ({ x.push x.c.pc with c := { (x.push x.c.pc).c with pc := m } } : Mx) else x) := rfl
  rw [e]
  clear e
  obtain ⟨hcb, hcc, hcd, hce, hch, hcl, hca, hcf, hcs, hcp⟩ := id hc
  obtain ⟨z2, hz2⟩ : ∃ z2 : Kps, ((W.heap.size, #[.int .i64 13, .int .i64 (a : Int), .int .i64 (b : Int), .int .i64 (m : Int), .int .i64 (l : Int)]) :: z) = z2 := ⟨_, rfl⟩
  have h1 := h.boxed #[.int .i64 13, .int .i64 (a : Int), .int .i64 (b : Int), .int .i64 (m : Int), .int .i64 (l : Int)] 64
  rw [hz2] at h1
  have hend : Hid (∀ W' y, At p z2 W' y → At p z W' y) := fun W' y hh => by rw [← hz2] at hh; exact hh.less
  have hin : Hid (∀ W' y, At p z2 W' y → ∀ i, W'.cell? ⟨W.heap.size, i, none⟩ = (#[.int .i64 13, .int .i64 (a : Int), .int .i64 (b : Int), .int .i64 (m : Int), .int .i64 (l : Int)] : Array Value)[i]?) := fun W' y hh => by rw [← hz2] at hh; exact hh.kept.cell
  have i1 := hin.out _ _ h1
  have x1 := h1.cell
  have f1 := h1.frozen
  have z1 := h1.lt
  replace h1 := hid h1
  clear h hz2
  have hho := hid (fun W1 (h3 : At p z2 W1 x) => holds_impl x.c.f a W1 (hD.below h3.old) hcf ha)
  have hpu := hid (fun W1 (h3 : At p z2 W1 x) => ppush x.c.pc p hT z2 W1 x h3 (by omega) hk hcs)
  replace hT := hid hT
  replace hG := hid hG
  replace hD := hid hD
  obtain ⟨q, hq⟩ : ∃ q, holdN x.c.f a = q := ⟨_, rfl⟩
  rw [hq] at hho ⊢
  clear hq
  cases q
  · rw [if_neg (by decide)]
    go_enter Tryz.func90, Tryz.ntmps90
    go_upto_region 1 with fail
    obtain ⟨V, hV⟩ : ∃ V, W.alloc (Obj.cells #[.int .i64 13, .int .i64 (a : Int), .int .i64 (b : Int), .int .i64 (m : Int), .int .i64 (l : Int)] 64) = V := ⟨_, rfl⟩
    rw [hV] at h1 i1 x1 f1 z1 ⊢
    generalize W.heap.size = I at *
    clear hV
    go_region_with (go_at_call 131; refine (hho.out _ (by first | exact h1.out | exact h1.out.drew)).mono ?_; rintro e w' ⟨rfl, hbq⟩; have h2 := (show At p z2 _ x from (by first | exact h1.out | exact h1.out.drew)).below hbq; have i2 := hin.out _ _ h2; have x2 := h2.cell; have f2 := h2.frozen; have z2' := h2.lt; replace h2 := hid h2; clear i1 x1 f1 z1 hbq)
    all_goals (try go_wp2)
    all_goals exact bodyPost_end (v := .tuple #[]) (by simp [results, Tryz.results90]) rfl ⟨rfl, hend.out _ _ (by first | exact h2.out | exact h2.out.drew)⟩
  rw [if_pos rfl]
  go_enter Tryz.func90, Tryz.ntmps90
  go_upto_region 1 with fail
  obtain ⟨V, hV⟩ : ∃ V, W.alloc (Obj.cells #[.int .i64 13, .int .i64 (a : Int), .int .i64 (b : Int), .int .i64 (m : Int), .int .i64 (l : Int)] 64) = V := ⟨_, rfl⟩
  rw [hV] at h1 i1 x1 f1 z1 ⊢
  generalize W.heap.size = I at *
  clear hV
  go_region_with (go_at_call 131; refine (hho.out _ (by first | exact h1.out | exact h1.out.drew)).mono ?_; rintro e w' ⟨rfl, hbq⟩; have h2 := (show At p z2 _ x from (by first | exact h1.out | exact h1.out.drew)).below hbq; have i2 := hin.out _ _ h2; have x2 := h2.cell; have f2 := h2.frozen; have z2' := h2.lt; replace h2 := hid h2; clear i1 x1 f1 z1 hbq)
  all_goals
    go_wp2_with fail
    refine (hpu.out _ (by first | exact h2.out | exact h2.out.drew)).mono ?_
    rintro e w3 ⟨rfl, h3⟩
    have i3 := hin.out _ _ h3
    have x3 := h3.cell
    have f3 := h3.frozen
    have z3 := h3.lt
    replace h3 := hid h3
    clear i2 x2 f2 z2'
    go_wp2
    exact bodyPost_end (v := .tuple #[]) (by simp [results, Tryz.results90]) rfl ⟨rfl, hend.out _ _ (by first | exact h3.out.put 10 (.int .i64 (m : Int)) { (x.push x.c.pc).c with pc := m } rfl | exact (h3.out.put 10 (.int .i64 (m : Int)) { (x.push x.c.pc).c with pc := m } rfl).drew)⟩
set_option maxRecDepth 100000 in
set_option maxHeartbeats 2000000 in
theorem op_14 (a b m l : Nat) (p : Par) (hT : Tells p) (z : Kps) (W : World) (x : Mx) (h : At p z W x) (hG : Flags p.w) (hD : Conds p.w) (hl : x.cy.length ≤ 900) (hk : okM x.m = true) (hc : x.c.ok) (ha : a < 8) (hb : b < 8) (hm : m < 256) (hn : p.n < 256) :
    Calls Tryz.prog 91 #[.pointer (some ⟨p.Y, 0, none⟩), insV 14 a b m l] W fun e W' => e = .returned (.tuple #[]) ∧ At p z W' (x.run p.n a b m 14) := by
  have e : x.run p.n a b m 14 = (if holdN x.c.f a = true then ({ x.popX with c := { x.popX.c with pc := x.popV } } : Mx) else x) := rfl
  rw [e]
  clear e
  obtain ⟨hcb, hcc, hcd, hce, hch, hcl, hca, hcf, hcs, hcp⟩ := id hc
  obtain ⟨z2, hz2⟩ : ∃ z2 : Kps, ((W.heap.size, #[.int .i64 14, .int .i64 (a : Int), .int .i64 (b : Int), .int .i64 (m : Int), .int .i64 (l : Int)]) :: z) = z2 := ⟨_, rfl⟩
  have h1 := h.boxed #[.int .i64 14, .int .i64 (a : Int), .int .i64 (b : Int), .int .i64 (m : Int), .int .i64 (l : Int)] 64
  rw [hz2] at h1
  have hend : Hid (∀ W' y, At p z2 W' y → At p z W' y) := fun W' y hh => by rw [← hz2] at hh; exact hh.less
  have hin : Hid (∀ W' y, At p z2 W' y → ∀ i, W'.cell? ⟨W.heap.size, i, none⟩ = (#[.int .i64 14, .int .i64 (a : Int), .int .i64 (b : Int), .int .i64 (m : Int), .int .i64 (l : Int)] : Array Value)[i]?) := fun W' y hh => by rw [← hz2] at hh; exact hh.kept.cell
  have i1 := hin.out _ _ h1
  have x1 := h1.cell
  have f1 := h1.frozen
  have z1 := h1.lt
  replace h1 := hid h1
  clear h hz2
  have hho := hid (fun W1 (h3 : At p z2 W1 x) => holds_impl x.c.f a W1 (hD.below h3.old) hcf ha)
  have hpu := hid (fun W1 (h3 : At p z2 W1 x) => ppop p hT z2 W1 x h3 (by omega) hk hcs)
  replace hT := hid hT
  replace hG := hid hG
  replace hD := hid hD
  obtain ⟨q, hq⟩ : ∃ q, holdN x.c.f a = q := ⟨_, rfl⟩
  rw [hq] at hho ⊢
  clear hq
  cases q
  · rw [if_neg (by decide)]
    go_enter Tryz.func91, Tryz.ntmps91
    go_upto_region 1 with fail
    obtain ⟨V, hV⟩ : ∃ V, W.alloc (Obj.cells #[.int .i64 14, .int .i64 (a : Int), .int .i64 (b : Int), .int .i64 (m : Int), .int .i64 (l : Int)] 64) = V := ⟨_, rfl⟩
    rw [hV] at h1 i1 x1 f1 z1 ⊢
    generalize W.heap.size = I at *
    clear hV
    go_region_with (go_at_call 131; refine (hho.out _ (by first | exact h1.out | exact h1.out.drew)).mono ?_; rintro e w' ⟨rfl, hbq⟩; have h2 := (show At p z2 _ x from (by first | exact h1.out | exact h1.out.drew)).below hbq; have i2 := hin.out _ _ h2; have x2 := h2.cell; have f2 := h2.frozen; have z2' := h2.lt; replace h2 := hid h2; clear i1 x1 f1 z1 hbq)
    all_goals (try go_wp2)
    all_goals exact bodyPost_end (v := .tuple #[]) (by simp [results, Tryz.results91]) rfl ⟨rfl, hend.out _ _ (by first | exact h2.out | exact h2.out.drew)⟩
  rw [if_pos rfl]
  go_enter Tryz.func91, Tryz.ntmps91
  go_upto_region 1 with fail
  obtain ⟨V, hV⟩ : ∃ V, W.alloc (Obj.cells #[.int .i64 14, .int .i64 (a : Int), .int .i64 (b : Int), .int .i64 (m : Int), .int .i64 (l : Int)] 64) = V := ⟨_, rfl⟩
  rw [hV] at h1 i1 x1 f1 z1 ⊢
  generalize W.heap.size = I at *
  clear hV
  go_region_with (go_at_call 131; refine (hho.out _ (by first | exact h1.out | exact h1.out.drew)).mono ?_; rintro e w' ⟨rfl, hbq⟩; have h2 := (show At p z2 _ x from (by first | exact h1.out | exact h1.out.drew)).below hbq; have i2 := hin.out _ _ h2; have x2 := h2.cell; have f2 := h2.frozen; have z2' := h2.lt; replace h2 := hid h2; clear i1 x1 f1 z1 hbq)
  all_goals
    go_wp2_with fail
    refine (hpu.out _ (by first | exact h2.out | exact h2.out.drew)).mono ?_
    rintro e w3 ⟨rfl, h3⟩
    have x3 := h3.cell
    have f3 := h3.frozen
    have z3 := h3.lt
    replace h3 := hid h3
    clear i2 x2 f2 z2'
    go_wp2
    exact bodyPost_end (v := .tuple #[]) (by simp [results, Tryz.results91]) rfl ⟨rfl, hend.out _ _ (by first | exact h3.out.put 10 (.int .i64 (x.popV : Int)) { x.popX.c with pc := x.popV } rfl | exact (h3.out.put 10 (.int .i64 (x.popV : Int)) { x.popX.c with pc := x.popV } rfl).drew)⟩
set_option maxRecDepth 100000 in
set_option maxHeartbeats 2000000 in
theorem op_17 (a b m l : Nat) (p : Par) (hT : Tells p) (z : Kps) (W : World) (x : Mx) (h : At p z W x) (hG : Flags p.w) (hD : Conds p.w) (hl : x.cy.length ≤ 900) (hk : okM x.m = true) (hc : x.c.ok) (ha : a < 8) (hb : b < 8) (hm : m < 256) (hn : p.n < 256) :
    Calls Tryz.prog 96 #[.pointer (some ⟨p.Y, 0, none⟩), insV 17 a b m l] W fun e W' => e = .returned (.tuple #[]) ∧ At p z W' (x.run p.n a b m 17) := by
  have e : x.run p.n a b m 17 = ({ x.note 4 m p.n with c := { x.c with a := p.n, f := Nat.lor (Nat.land x.c.f 1) (szpN p.n) } } : Mx) := rfl
  rw [e]
  clear e
  obtain ⟨hcb, hcc, hcd, hce, hch, hcl, hca, hcf, hcs, hcp⟩ := id hc
  obtain ⟨z2, hz2⟩ : ∃ z2 : Kps, ((W.heap.size, #[.int .i64 17, .int .i64 (a : Int), .int .i64 (b : Int), .int .i64 (m : Int), .int .i64 (l : Int)]) :: z) = z2 := ⟨_, rfl⟩
  have h1 := h.boxed #[.int .i64 17, .int .i64 (a : Int), .int .i64 (b : Int), .int .i64 (m : Int), .int .i64 (l : Int)] 64
  rw [hz2] at h1
  have hend : Hid (∀ W' y, At p z2 W' y → At p z W' y) := fun W' y hh => by rw [← hz2] at hh; exact hh.less
  have hin : Hid (∀ W' y, At p z2 W' y → ∀ i, W'.cell? ⟨W.heap.size, i, none⟩ = (#[.int .i64 17, .int .i64 (a : Int), .int .i64 (b : Int), .int .i64 (m : Int), .int .i64 (l : Int)] : Array Value)[i]?) := fun W' y hh => by rw [← hz2] at hh; exact hh.kept.cell
  have i1 := hin.out _ _ h1
  have x1 := h1.cell
  have f1 := h1.frozen
  have z1 := h1.lt
  replace h1 := hid h1
  clear h hz2
  have hno := hid (fun W1 (hh : At p z2 W1 x) => hT z2 W1 x 4 m p.n hh (by omega))
  have hpf : Hid (∀ W1 y, At p z2 W1 y → Calls Tryz.prog 128 #[.int .i64 (p.n : Int)] W1 fun e w' => e = .returned (.int .i64 (szpN p.n)) ∧ w' = W1) := fun W1 y h4 => pf_impl p.n W1 hn (flags_below hG h4.old)
  have hyc : (x.note 4 m p.n).c = x.c := rfl
  generalize x.note 4 m p.n = y at *
  have a1 : bits .and .i64 (x.c.f : Int) 1 = ((Nat.land x.c.f 1 : Nat) : Int) := bAnd x.c.f 1 (by omega) (by omega)
  have l1 : Nat.land x.c.f 1 < 2 ^ 8 := Nat.and_lt_two_pow _ (by omega)
  have l2 := szpN_lt p.n hn
  have o1 : bits .or .i64 ((Nat.land x.c.f 1 : Nat) : Int) ((szpN p.n : Nat) : Int) = ((Nat.lor (Nat.land x.c.f 1) (szpN p.n) : Nat) : Int) := bOr _ _ (by omega) (by omega)
  generalize Nat.lor (Nat.land x.c.f 1) (szpN p.n) = R at *
  generalize Nat.land x.c.f 1 = A1 at *
  generalize szpN p.n = A2 at *
  replace hT := hid hT
  replace hG := hid hG
  replace hD := hid hD
  go_enter Tryz.func96, Tryz.ntmps96
  go_upto_region 1 with fail
  obtain ⟨V, hV⟩ : ∃ V, W.alloc (Obj.cells #[.int .i64 17, .int .i64 (a : Int), .int .i64 (b : Int), .int .i64 (m : Int), .int .i64 (l : Int)] 64) = V := ⟨_, rfl⟩
  rw [hV] at h1 i1 x1 f1 z1 ⊢
  generalize W.heap.size = I at *
  clear hV
  go_region_with (go_at_call 63; refine (hno.out _ (by first | exact h1.out | exact h1.out.drew)).mono ?_; rintro e w3 ⟨rfl, h3⟩; have x3 := h3.cell; rw [hyc] at x3; have f3 := h3.frozen; have z3 := h3.lt; replace h3 := hid h3; clear i1 x1 f1 z1)
  all_goals
    go_upto_region 2 with fail
    go_region
  all_goals
    go_upto_region 3 with fail
    have h4 := (h3.out.put 7 (.int .i64 (p.n : Int)) { x.c with a := p.n } (by rw [hyc]; rfl)).drew
    obtain ⟨w4, hw4⟩ : ∃ w4, (w3.setCell ⟨p.Y, 7, none⟩ (.int .i64 (p.n : Int))).drew = w4 := ⟨_, rfl⟩
    rw [hw4] at h4 ⊢
    clear hw4 x3 f3 z3 h3
    have x4 : ∀ i, w4.cell? ⟨p.Y, i, none⟩ = (proA { x.c with a := p.n } p.B p.n p.I p.V)[i]? := h4.cell
    have f4 := h4.frozen
    have z4 := h4.lt
    replace h4 := hid h4
    go_region_with (go_at_call 128; refine (hpf.out _ _ (by first | exact h4.out | exact h4.out.drew)).mono ?_; rintro e w' ⟨rfl, rfl⟩)
  all_goals (try go_wp2)
  all_goals exact bodyPost_end (v := .tuple #[]) (by simp [results, Tryz.results96]) rfl ⟨rfl, hend.out _ _ (by first | exact h4.out.put 8 (.int .i64 (R : Int)) { x.c with a := p.n, f := R } rfl | exact h4.out.drew.put 8 (.int .i64 (R : Int)) { x.c with a := p.n, f := R } rfl | exact (h4.out.put 8 (.int .i64 (R : Int)) { x.c with a := p.n, f := R } rfl).drew)⟩
set_option maxRecDepth 100000 in
set_option maxHeartbeats 2000000 in
theorem op_18 (a b m l : Nat) (p : Par) (hT : Tells p) (z : Kps) (W : World) (x : Mx) (h : At p z W x) (hG : Flags p.w) (hD : Conds p.w) (hl : x.cy.length ≤ 900) (hk : okM x.m = true) (hc : x.c.ok) (ha : a < 8) (hb : b < 8) (hm : m < 256) (hn : p.n < 256) :
    Calls Tryz.prog 97 #[.pointer (some ⟨p.Y, 0, none⟩), insV 18 a b m l] W fun e W' => e = .returned (.tuple #[]) ∧ At p z W' (x.run p.n a b m 18) := by
  have e : x.run p.n a b m 18 = x.note 5 m x.c.a := rfl
  rw [e]
  clear e
  obtain ⟨hcb, hcc, hcd, hce, hch, hcl, hca, hcf, hcs, hcp⟩ := id hc
  obtain ⟨z2, hz2⟩ : ∃ z2 : Kps, ((W.heap.size, #[.int .i64 18, .int .i64 (a : Int), .int .i64 (b : Int), .int .i64 (m : Int), .int .i64 (l : Int)]) :: z) = z2 := ⟨_, rfl⟩
  have h1 := h.boxed #[.int .i64 18, .int .i64 (a : Int), .int .i64 (b : Int), .int .i64 (m : Int), .int .i64 (l : Int)] 64
  rw [hz2] at h1
  have hend : Hid (∀ W' y, At p z2 W' y → At p z W' y) := fun W' y hh => by rw [← hz2] at hh; exact hh.less
  have hin : Hid (∀ W' y, At p z2 W' y → ∀ i, W'.cell? ⟨W.heap.size, i, none⟩ = (#[.int .i64 18, .int .i64 (a : Int), .int .i64 (b : Int), .int .i64 (m : Int), .int .i64 (l : Int)] : Array Value)[i]?) := fun W' y hh => by rw [← hz2] at hh; exact hh.kept.cell
  have i1 := hin.out _ _ h1
  have x1 := h1.cell
  have f1 := h1.frozen
  have z1 := h1.lt
  replace h1 := hid h1
  clear h hz2
  have hno := hid (fun W1 (hh : At p z2 W1 x) => hT z2 W1 x 5 m x.c.a hh (by omega))
  replace hT := hid hT
  replace hG := hid hG
  replace hD := hid hD
  go_enter Tryz.func97, Tryz.ntmps97
  go_upto_region 1 with fail
  obtain ⟨V, hV⟩ : ∃ V, W.alloc (Obj.cells #[.int .i64 18, .int .i64 (a : Int), .int .i64 (b : Int), .int .i64 (m : Int), .int .i64 (l : Int)] 64) = V := ⟨_, rfl⟩
  rw [hV] at h1 i1 x1 f1 z1 ⊢
  generalize W.heap.size = I at *
  clear hV
  go_region_with (go_at_call 63; refine (hno.out _ (by first | exact h1.out | exact h1.out.drew)).mono ?_; rintro e w3 ⟨rfl, h3⟩; replace h3 := hid h3; clear i1 x1 f1 z1)
  all_goals (try go_wp2)
  all_goals exact bodyPost_end (v := .tuple #[]) (by simp [results, Tryz.results97]) rfl ⟨rfl, hend.out _ _ (by first | exact h3.out | exact h3.out.drew)⟩
end Go.Proofs.YtgpmpfikeindfaaGreatDoor

/- The program's table of kinds: what it holds, and what the program asks of one kind. -/
namespace Go.Proofs.YtgpmpfikeindfaaGreatDoor
open Go.ChangeShapes Go.WideShapes Go.ChangeAt Go.RowKit
set_option linter.unusedVariables false
set_option linter.unusedSimpArgs false

def kdWL : List (List UInt8) := [[110, 111, 112], [108, 100], [108, 100, 110], [108, 100, 97], [115, 116, 97], [97, 108, 117], [97, 108, 117, 110], [105, 110, 99], [100, 101, 99], [116, 117, 114, 110], [98, 105, 116], [100, 97, 97], [106, 112], [99, 97, 108, 108], [114, 101, 116], [112, 117, 115, 104], [112, 111, 112], [105, 110], [111, 117, 116], [104, 97, 108, 116], [101, 105], [100, 105], [108, 100, 105], [100, 98]]
def kdNL : List Int := [0, 3, 5, 4, 4, 3, 5, 1, 1, 3, 3, 0, 5, 5, 1, 1, 1, 4, 4, 0, 0, 0, 0, 8]
def kdAL : List Int := [0, 1, 1, 0, 0, 0, 0, 2, 2, 0, 0, 0, 0, 0, 0, 0, 0, 0, 0, 0, 0, 0, 0, 0]
def kdBL : List Int := [0, 1, 0, 0, 0, 1, 0, 0, 0, 2, 1, 0, 0, 0, 0, 0, 0, 0, 0, 0, 0, 0, 0, 0]
def kdTL : List Int := [0, 0, 0, 3, 3, 0, 0, 0, 0, 0, 0, 0, 0, 0, 0, 3, 3, 4, 4, 0, 0, 0, 6, 0]
def kdW (k : Nat) : ByteArray := ⟨(kdWL.getD k []).toArray⟩
def kdN (k : Nat) : Int := kdNL.getD k 0
def kdA (k : Nat) : Int := kdAL.getD k 0
def kdB (k : Nat) : Int := kdBL.getD k 0
def kdT (k : Nat) : Int := kdTL.getD k 0
/-- the table of kinds, in its block -/
def Kinds (w : World) : Prop := ∀ k, k < 24 → w.cell? ⟨1, k * 5, none⟩ = some (.string (kdW k)) ∧ w.cell? ⟨1, k * 5 + 1, none⟩ = some (.int .i64 (kdN k)) ∧ w.cell? ⟨1, k * 5 + 2, none⟩ = some (.int .i64 (kdA k)) ∧ w.cell? ⟨1, k * 5 + 3, none⟩ = some (.int .i64 (kdB k)) ∧ w.cell? ⟨1, k * 5 + 4, none⟩ = some (.int .i64 (kdT k))
theorem Kinds.below {w w' : World} (h : Kinds w) (hb : Below w.heap.size w w') : Kinds w' := fun k hk => by
  obtain ⟨h0, h1, h2, h3, h4⟩ := h k hk
  exact ⟨cell_kept hb h0, cell_kept hb h1, cell_kept hb h2, cell_kept hb h3, cell_kept hb h4⟩
abbrev kinV (s : ByteArray) (n a b t : Int) : Value := .agg #[.string s, .int .i64 n, .int .i64 a, .int .i64 b, .int .i64 t]
abbrev kinA (s : ByteArray) (n a b t : Int) : Array Value := #[.string s, .int .i64 n, .int .i64 a, .int .i64 b, .int .i64 t]
/-- whether a kind has one of these numbers -/
def hasM (n m : Int) : Bool := bits .and .i64 n m != 0
def lenM (n : Int) : Int := if hasM n 6 = true then 2 else 1
def loM (n : Int) : Int := if hasM n 4 = true then 0 else if hasM n 8 = true then 184 else 0
def hiM (n : Int) : Int := if hasM n 4 = true then 255 else if hasM n 8 = true then 255 else 0
def whenM (p : Bool) (x : Int) : Int := if p = true then x else 0
theorem has_impl (s : ByteArray) (n a b t m : Int) (w : World) :
    Calls Tryz.prog 120 #[kinV s n a b t, .int .i64 m] w fun e w' => e = .returned (.bool (hasM n m)) ∧ Below w.heap.size w w' := by
  go_enter Tryz.func120, Tryz.ntmps120
  go_wp2
  go_ret
  exact ⟨ret_bool rfl, (Below.refl _ _).alloc (Nat.le_refl _) _⟩
theorem whenK_impl (p : Bool) (x : Int) (w : World) : Calls Tryz.prog 129 #[.bool p, .int .i64 x] w fun e w' => e = .returned (.int .i64 (whenM p x)) ∧ w' = w := by
  cases p
  all_goals
    go_enter Tryz.func129, Tryz.ntmps129
    go_wp2
    go_ret
    exact ⟨rfl, rfl⟩
theorem withinK_impl (n a b : Int) (w : World) : Calls Tryz.prog 33 #[.int .i64 n, .int .i64 a, .int .i64 b] w fun e w' => e = .returned (.bool (inB n a b)) ∧ w' = w := by
  go_enter Tryz.func33, Tryz.ntmps33
  go_wp2
  all_goals go_ret
  all_goals exact ⟨ret_bool (by rw [Bool.eq_iff_iff]; simp [inB]; try omega), rfl⟩
theorem len_impl (s : ByteArray) (n a b t : Int) (w : World) :
    Calls Tryz.prog 119 #[kinV s n a b t] w fun e w' => e = .returned (.int .i64 (lenM n)) ∧ Below w.heap.size w w' := by
  have hB : Hid (∀ ob, Below w.heap.size w (w.alloc ob)) := fun ob => (Below.refl _ _).alloc (Nat.le_refl _) _
  have h2 : Hid (∀ w1 ob, Below (w.alloc ob).heap.size (w.alloc ob) w1 → Below w.heap.size w w1) := fun w1 ob h => (hB.out ob).trans (h.mono (by simp))
  have e : lenM n = if hasM n 6 = true then 2 else 1 := rfl
  rw [e]
  cases hm : hasM n 6
  all_goals
    go_enter Tryz.func119, Tryz.ntmps119
    go_wp2_with fail
    refine (has_impl _ _ _ _ _ _ _).mono ?_
    rintro e w1 ⟨rfl, hb⟩
    rw [hm]
    have hb1 := hid (h2.out _ _ hb)
    clear hb
    go_wp2
    go_ret
    exact ⟨rfl, hb1.out⟩
theorem kd_tab : ∀ k, k < 23 → hasM (kdN k) 1 = hasC k 65 ∧ hasM (kdN k) 2 = hasC k 66 ∧ hasM (kdN k) 4 = hasC k 78 ∧ hasM (kdN k) 8 = false ∧ hasM (kdN k) 6 = (hasC k 66 || hasC k 78) := by decide +kernel
theorem kd_23 : hasM (kdN 23) 1 = false ∧ hasM (kdN 23) 2 = false ∧ hasM (kdN 23) 4 = false ∧ hasM (kdN 23) 8 = true ∧ hasM (kdN 23) 6 = false := by decide +kernel
end Go.Proofs.YtgpmpfikeindfaaGreatDoor

/- What the program says of an instruction that is right. -/
namespace Go.Proofs.YtgpmpfikeindfaaGreatDoor
open Go.ChangeShapes Go.WideShapes Go.ChangeAt Go.RowKit
set_option linter.unusedVariables false
set_option linter.unusedSimpArgs false

def okK (k : Nat) (a b n l : Int) : Bool := inB a 0 (whenM (hasM (kdN k) 1) 7) && inB b 0 (whenM (hasM (kdN k) 2) 7) && inB n (loM (kdN k)) (hiM (kdN k)) && (l == lenM (kdN k))
theorem okK_eq (k : Nat) (hk : k < 24) (a b n l : Int) : okI (k : Int) a b n l = okK k a b n l := by
  by_cases h : k = 23
  · subst h
    obtain ⟨h1, h2, h4, h8, h6⟩ := kd_23
    unfold okK lenM loM hiM whenM
    rw [h1, h2, h4, h8, h6]
    have e : okI ((23 : Nat) : Int) a b n l = (decide (a = 0) && decide (b = 0) && inB n 184 255 && decide (l = 1)) := rfl
    rw [e, Bool.eq_iff_iff]
    simp [inB]
    omega
  · obtain ⟨h1, h2, h4, h8, h6⟩ := kd_tab k (by omega)
    unfold okK lenM loM hiM whenM
    rw [h1, h2, h4, h8, h6]
    unfold okI
    rw [if_neg (by omega), in_yes (by omega) (by omega), Int.toNat_natCast]
    cases hasC k 65 <;> cases hasC k 66 <;> cases hasC k 78 <;> (rw [Bool.eq_iff_iff]; simp [inB, bitI])
end Go.Proofs.YtgpmpfikeindfaaGreatDoor
