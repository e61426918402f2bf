/- What instructions do, as the program does them: 1, 3, 4, 5, 10. -/
import Derived.Test.YtgpmpfikeindfaaGreatDoorRfv
namespace Go.Proofs.YtgpmpfikeindfaaGreatDoor
open Go.ChangeShapes Go.WideShapes Go.ChangeAt Go.RowKit Go.Shelf
set_option linter.unusedVariables false
set_option linter.unusedSimpArgs false

set_option maxRecDepth 100000 in
set_option maxHeartbeats 2000000 in
theorem op_1 (a b m l : Nat) (p : Par) (hT : Tells p) (z : Kps) (W : World) (x : Mx) (h : At p z W x) (hG : Flags p.w) (hD : Conds p.w) (hl : x.cy.length ≤ 900) (hk : okM x.m = true) (hc : x.c.ok) (ha : a < 8) (hb : b < 8) (hm : m < 256) (hn : p.n < 256) :
    Calls Tryz.prog 67 #[.pointer (some ⟨p.Y, 0, none⟩), insV 1 a b m l] W fun e W' => e = .returned (.tuple #[]) ∧ At p z W' (x.run p.n a b m 1) := by
  have e : x.run p.n a b m 1 = (x.getX b).set a (x.getV b) := rfl
  rw [e]
  clear e
  obtain ⟨hcb, hcc, hcd, hce, hch, hcl, hca, hcf, hcs, hcp⟩ := id hc
  obtain ⟨z2, hz2⟩ : ∃ z2 : Kps, ((W.heap.size, #[.int .i64 1, .int .i64 (a : Int), .int .i64 (b : Int), .int .i64 (m : Int), .int .i64 (l : Int)]) :: z) = z2 := ⟨_, rfl⟩
  have h1 := h.boxed #[.int .i64 1, .int .i64 (a : Int), .int .i64 (b : Int), .int .i64 (m : Int), .int .i64 (l : Int)] 64
  rw [hz2] at h1
  have hend : Hid (∀ W' y, At p z2 W' y → At p z W' y) := fun W' y hh => by rw [← hz2] at hh; exact hh.less
  have hin : Hid (∀ W' y, At p z2 W' y → ∀ i, W'.cell? ⟨W.heap.size, i, none⟩ = (#[.int .i64 1, .int .i64 (a : Int), .int .i64 (b : Int), .int .i64 (m : Int), .int .i64 (l : Int)] : Array Value)[i]?) := fun W' y hh => by rw [← hz2] at hh; exact hh.kept.cell
  have i1 := hin.out _ _ h1
  have x1 := h1.cell
  have f1 := h1.frozen
  have z1 := h1.lt
  replace h1 := hid h1
  clear h hz2
  have hget := hid (fun W1 (hh : At p z2 W1 x) => pget b p hT z2 W1 x hh (by omega) hk hch hb)
  have hyc := getX_c x b
  have hym := getX_m x b
  have hyl := getX_l x b
  have hv := getV_lt hk hc b
  have hput := hid (fun W1 (h3 : At p z2 W1 (x.getX b)) => pput a (x.getV b) p hT z2 W1 _ h3 (by omega) (by rw [hym]; exact hk) (by rw [hyc]; exact hch) ha)
  generalize x.getX b = y at *
  generalize x.getV b = v at *
  replace hT := hid hT
  replace hG := hid hG
  replace hD := hid hD
  go_enter Tryz.func67, Tryz.ntmps67
  go_upto_region 1 with fail
  obtain ⟨V, hV⟩ : ∃ V, W.alloc (Obj.cells #[.int .i64 1, .int .i64 (a : Int), .int .i64 (b : Int), .int .i64 (m : Int), .int .i64 (l : Int)] 64) = V := ⟨_, rfl⟩
  rw [hV] at h1 i1 x1 f1 z1 ⊢
  generalize W.heap.size = I at *
  clear hV
  go_region_with (first | (go_at_call 69; refine (hget.out _ (by first | exact h1.out | exact h1.out.drew)).mono ?_; rintro e w1 ⟨rfl, h2⟩; have i2 := hin.out _ _ h2; have x2 := h2.cell; replace h2 := hid h2; clear i1 x1 f1 z1) | (go_at_call 68; refine (hput.out _ (by first | exact h2.out | exact h2.out.drew)).mono ?_; rintro e w3 ⟨rfl, h3⟩; replace h3 := hid h3))
  all_goals (try go_wp2)
  all_goals exact bodyPost_end (v := .tuple #[]) (by simp [results, Tryz.results67]) rfl ⟨rfl, hend.out _ _ (by first | exact h3.out | exact h3.out.drew)⟩
set_option maxRecDepth 100000 in
set_option maxHeartbeats 2000000 in
theorem op_3 (a b m l : Nat) (p : Par) (hT : Tells p) (z : Kps) (W : World) (x : Mx) (h : At p z W x) (hG : Flags p.w) (hD : Conds p.w) (hl : x.cy.length ≤ 900) (hk : okM x.m = true) (hc : x.c.ok) (ha : a < 8) (hb : b < 8) (hm : m < 256) (hn : p.n < 256) :
    Calls Tryz.prog 71 #[.pointer (some ⟨p.Y, 0, none⟩), insV 3 a b m l] W fun e W' => e = .returned (.tuple #[]) ∧ At p z W' (x.run p.n a b m 3) := by
  have e : x.run p.n a b m 3 = ({ x.read m with c := { x.c with a := peekN x.m m } } : Mx) := rfl
  rw [e]
  clear e
  obtain ⟨hcb, hcc, hcd, hce, hch, hcl, hca, hcf, hcs, hcp⟩ := id hc
  obtain ⟨z2, hz2⟩ : ∃ z2 : Kps, ((W.heap.size, #[.int .i64 3, .int .i64 (a : Int), .int .i64 (b : Int), .int .i64 (m : Int), .int .i64 (l : Int)]) :: z) = z2 := ⟨_, rfl⟩
  have h1 := h.boxed #[.int .i64 3, .int .i64 (a : Int), .int .i64 (b : Int), .int .i64 (m : Int), .int .i64 (l : Int)] 64
  rw [hz2] at h1
  have hend : Hid (∀ W' y, At p z2 W' y → At p z W' y) := fun W' y hh => by rw [← hz2] at hh; exact hh.less
  have hin : Hid (∀ W' y, At p z2 W' y → ∀ i, W'.cell? ⟨W.heap.size, i, none⟩ = (#[.int .i64 3, .int .i64 (a : Int), .int .i64 (b : Int), .int .i64 (m : Int), .int .i64 (l : Int)] : Array Value)[i]?) := fun W' y hh => by rw [← hz2] at hh; exact hh.kept.cell
  have i1 := hin.out _ _ h1
  have x1 := h1.cell
  have f1 := h1.frozen
  have z1 := h1.lt
  replace h1 := hid h1
  clear h hz2
  have hrd := hid (fun W1 (hh : At p z2 W1 x) => pread m p hT z2 W1 x hh (by omega) hk hm)
  have hyc : (x.read m).c = x.c := rfl
  generalize x.read m = y at *
  generalize peekN x.m m = v at *
  replace hT := hid hT
  replace hG := hid hG
  replace hD := hid hD
  go_enter Tryz.func71, Tryz.ntmps71
  go_upto_region 1 with fail
  obtain ⟨V, hV⟩ : ∃ V, W.alloc (Obj.cells #[.int .i64 3, .int .i64 (a : Int), .int .i64 (b : Int), .int .i64 (m : Int), .int .i64 (l : Int)] 64) = V := ⟨_, rfl⟩
  rw [hV] at h1 i1 x1 f1 z1 ⊢
  generalize W.heap.size = I at *
  clear hV
  go_region_with (go_at_call 65; refine (hrd.out _ (by first | exact h1.out | exact h1.out.drew)).mono ?_; rintro e w1 ⟨rfl, h2⟩; have x2 := h2.cell; rw [hyc] at x2; have f2 := h2.frozen; have z2' := h2.lt; replace h2 := hid h2; clear i1 x1 f1 z1)
  all_goals (try go_wp2)
  all_goals exact bodyPost_end (v := .tuple #[]) (by simp [results, Tryz.results71]) rfl ⟨rfl, hend.out _ _ (by first | exact h2.out.put 7 (.int .i64 (v : Int)) { x.c with a := v } (by rw [hyc]; rfl) | exact (h2.out.put 7 (.int .i64 (v : Int)) { x.c with a := v } (by rw [hyc]; rfl)).drew)⟩
set_option maxRecDepth 100000 in
set_option maxHeartbeats 2000000 in
theorem op_4 (a b m l : Nat) (p : Par) (hT : Tells p) (z : Kps) (W : World) (x : Mx) (h : At p z W x) (hG : Flags p.w) (hD : Conds p.w) (hl : x.cy.length ≤ 900) (hk : okM x.m = true) (hc : x.c.ok) (ha : a < 8) (hb : b < 8) (hm : m < 256) (hn : p.n < 256) :
    Calls Tryz.prog 72 #[.pointer (some ⟨p.Y, 0, none⟩), insV 4 a b m l] W fun e W' => e = .returned (.tuple #[]) ∧ At p z W' (x.run p.n a b m 4) := by
  have e : x.run p.n a b m 4 = x.write m x.c.a := rfl
  rw [e]
  clear e
  obtain ⟨hcb, hcc, hcd, hce, hch, hcl, hca, hcf, hcs, hcp⟩ := id hc
  obtain ⟨z2, hz2⟩ : ∃ z2 : Kps, ((W.heap.size, #[.int .i64 4, .int .i64 (a : Int), .int .i64 (b : Int), .int .i64 (m : Int), .int .i64 (l : Int)]) :: z) = z2 := ⟨_, rfl⟩
  have h1 := h.boxed #[.int .i64 4, .int .i64 (a : Int), .int .i64 (b : Int), .int .i64 (m : Int), .int .i64 (l : Int)] 64
  rw [hz2] at h1
  have hend : Hid (∀ W' y, At p z2 W' y → At p z W' y) := fun W' y hh => by rw [← hz2] at hh; exact hh.less
  have hin : Hid (∀ W' y, At p z2 W' y → ∀ i, W'.cell? ⟨W.heap.size, i, none⟩ = (#[.int .i64 4, .int .i64 (a : Int), .int .i64 (b : Int), .int .i64 (m : Int), .int .i64 (l : Int)] : Array Value)[i]?) := fun W' y hh => by rw [← hz2] at hh; exact hh.kept.cell
  have i1 := hin.out _ _ h1
  have x1 := h1.cell
  have f1 := h1.frozen
  have z1 := h1.lt
  replace h1 := hid h1
  clear h hz2
  have hwr := hid (fun W1 (hh : At p z2 W1 x) => pwrite m x.c.a p hT z2 W1 x hh (by omega) hk hm)
  replace hT := hid hT
  replace hG := hid hG
  replace hD := hid hD
  go_enter Tryz.func72, Tryz.ntmps72
  go_upto_region 1 with fail
  obtain ⟨V, hV⟩ : ∃ V, W.alloc (Obj.cells #[.int .i64 4, .int .i64 (a : Int), .int .i64 (b : Int), .int .i64 (m : Int), .int .i64 (l : Int)] 64) = V := ⟨_, rfl⟩
  rw [hV] at h1 i1 x1 f1 z1 ⊢
  generalize W.heap.size = I at *
  clear hV
  go_region_with (go_at_call 73; refine (hwr.out _ (by first | exact h1.out | exact h1.out.drew)).mono ?_; rintro e w3 ⟨rfl, h3⟩; replace h3 := hid h3; clear i1 x1 f1 z1)
  all_goals (try go_wp2)
  all_goals exact bodyPost_end (v := .tuple #[]) (by simp [results, Tryz.results72]) rfl ⟨rfl, hend.out _ _ (by first | exact h3.out | exact h3.out.drew)⟩
set_option maxRecDepth 100000 in
set_option maxHeartbeats 2000000 in
theorem op_5 (a b m l : Nat) (p : Par) (hT : Tells p) (z : Kps) (W : World) (x : Mx) (h : At p z W x) (hG : Flags p.w) (hD : Conds p.w) (hl : x.cy.length ≤ 900) (hk : okM x.m = true) (hc : x.c.ok) (ha : a < 8) (hb : b < 8) (hm : m < 256) (hn : p.n < 256) :
    Calls Tryz.prog 74 #[.pointer (some ⟨p.Y, 0, none⟩), insV 5 a b m l] W fun e W' => e = .returned (.tuple #[]) ∧ At p z W' (x.run p.n a b m 5) := by
  have e : x.run p.n a b m 5 = (x.getX b).alu a (x.getV b) := rfl
  rw [e]
  clear e
  obtain ⟨hcb, hcc, hcd, hce, hch, hcl, hca, hcf, hcs, hcp⟩ := id hc
  obtain ⟨z2, hz2⟩ : ∃ z2 : Kps, ((W.heap.size, #[.int .i64 5, .int .i64 (a : Int), .int .i64 (b : Int), .int .i64 (m : Int), .int .i64 (l : Int)]) :: z) = z2 := ⟨_, rfl⟩
  have h1 := h.boxed #[.int .i64 5, .int .i64 (a : Int), .int .i64 (b : Int), .int .i64 (m : Int), .int .i64 (l : Int)] 64
  rw [hz2] at h1
  have hend : Hid (∀ W' y, At p z2 W' y → At p z W' y) := fun W' y hh => by rw [← hz2] at hh; exact hh.less
  have hin : Hid (∀ W' y, At p z2 W' y → ∀ i, W'.cell? ⟨W.heap.size, i, none⟩ = (#[.int .i64 5, .int .i64 (a : Int), .int .i64 (b : Int), .int .i64 (m : Int), .int .i64 (l : Int)] : Array Value)[i]?) := fun W' y hh => by rw [← hz2] at hh; exact hh.kept.cell
  have i1 := hin.out _ _ h1
  have x1 := h1.cell
  have f1 := h1.frozen
  have z1 := h1.lt
  replace h1 := hid h1
  clear h hz2
  have hget := hid (fun W1 (hh : At p z2 W1 x) => pget b p hT z2 W1 x hh (by omega) hk hch hb)
  have hyc := getX_c x b
  have hym := getX_m x b
  have hyl := getX_l x b
  have hv := getV_lt hk hc b
  have hal := hid (fun W1 (h3 : At p z2 W1 (x.getX b)) => pcalc a (x.getV b) p z2 W1 _ h3 hG (by rw [hyc]; exact hca) (by rw [hyc]; exact hcf) hv ha)
  generalize x.getX b = y at *
  generalize x.getV b = v at *
  replace hT := hid hT
  replace hG := hid hG
  replace hD := hid hD
  go_enter Tryz.func74, Tryz.ntmps74
  go_upto_region 1 with fail
  obtain ⟨V, hV⟩ : ∃ V, W.alloc (Obj.cells #[.int .i64 5, .int .i64 (a : Int), .int .i64 (b : Int), .int .i64 (m : Int), .int .i64 (l : Int)] 64) = V := ⟨_, rfl⟩
  rw [hV] at h1 i1 x1 f1 z1 ⊢
  generalize W.heap.size = I at *
  clear hV
  go_region_with (first | (go_at_call 69; refine (hget.out _ (by first | exact h1.out | exact h1.out.drew)).mono ?_; rintro e w1 ⟨rfl, h2⟩; have i2 := hin.out _ _ h2; have x2 := h2.cell; replace h2 := hid h2; clear i1 x1 f1 z1) | (go_at_call 75; refine (hal.out _ (by first | exact h2.out | exact h2.out.drew)).mono ?_; rintro e w3 ⟨rfl, h3⟩; replace h3 := hid h3))
  all_goals (try go_wp2)
  all_goals exact bodyPost_end (v := .tuple #[]) (by simp [results, Tryz.results74]) rfl ⟨rfl, hend.out _ _ (by first | exact h3.out | exact h3.out.drew)⟩
set_option maxRecDepth 100000 in
set_option maxHeartbeats 2000000 in
theorem op_10 (a b m l : Nat) (p : Par) (hT : Tells p) (z : Kps) (W : World) (x : Mx) (h : At p z W x) (hG : Flags p.w) (hD : Conds p.w) (hl : x.cy.length ≤ 900) (hk : okM x.m = true) (hc : x.c.ok) (ha : a < 8) (hb : b < 8) (hm : m < 256) (hn : p.n < 256) :
    Calls Tryz.prog 85 #[.pointer (some ⟨p.Y, 0, none⟩), insV 10 a b m l] W fun e W' => e = .returned (.tuple #[]) ∧ At p z W' (x.run p.n a b m 10) := by
  have e : x.run p.n a b m 10 = ({ x.getX b with c := { x.c with f := tstF a (x.getV b) x.c.f } } : Mx) := rfl
  rw [e]
  clear e
  obtain ⟨hcb, hcc, hcd, hce, hch, hcl, hca, hcf, hcs, hcp⟩ := id hc
  obtain ⟨z2, hz2⟩ : ∃ z2 : Kps, ((W.heap.size, #[.int .i64 10, .int .i64 (a : Int), .int .i64 (b : Int), .int .i64 (m : Int), .int .i64 (l : Int)]) :: z) = z2 := ⟨_, rfl⟩
  have h1 := h.boxed #[.int .i64 10, .int .i64 (a : Int), .int .i64 (b : Int), .int .i64 (m : Int), .int .i64 (l : Int)] 64
  rw [hz2] at h1
  have hend : Hid (∀ W' y, At p z2 W' y → At p z W' y) := fun W' y hh => by rw [← hz2] at hh; exact hh.less
  have hin : Hid (∀ W' y, At p z2 W' y → ∀ i, W'.cell? ⟨W.heap.size, i, none⟩ = (#[.int .i64 10, .int .i64 (a : Int), .int .i64 (b : Int), .int .i64 (m : Int), .int .i64 (l : Int)] : Array Value)[i]?) := fun W' y hh => by rw [← hz2] at hh; exact hh.kept.cell
  have i1 := hin.out _ _ h1
  have x1 := h1.cell
  have f1 := h1.frozen
  have z1 := h1.lt
  replace h1 := hid h1
  clear h hz2
  have hget := hid (fun W1 (hh : At p z2 W1 x) => pget b p hT z2 W1 x hh (by omega) hk hch hb)
  have hyc := getX_c x b
  have hym := getX_m x b
  have hyl := getX_l x b
  have hv := getV_lt hk hc b
  have hte := hid (fun W1 (h3 : At p z2 W1 (x.getX b)) => ptest a (x.getV b) p z2 W1 _ h3 ha hv (by rw [hyc]; exact hcf))
  rw [hyc] at hte
  generalize x.getX b = y at *
  generalize x.getV b = v at *
  replace hT := hid hT
  replace hG := hid hG
  replace hD := hid hD
  go_enter Tryz.func85, Tryz.ntmps85
  go_upto_region 1 with fail
  obtain ⟨V, hV⟩ : ∃ V, W.alloc (Obj.cells #[.int .i64 10, .int .i64 (a : Int), .int .i64 (b : Int), .int .i64 (m : Int), .int .i64 (l : Int)] 64) = V := ⟨_, rfl⟩
  rw [hV] at h1 i1 x1 f1 z1 ⊢
  generalize W.heap.size = I at *
  clear hV
  go_region_with (first | (go_at_call 69; refine (hget.out _ (by first | exact h1.out | exact h1.out.drew)).mono ?_; rintro e w1 ⟨rfl, h2⟩; have i2 := hin.out _ _ h2; have x2 := h2.cell; replace h2 := hid h2; clear i1 x1 f1 z1) | (go_at_call 86; refine (hte.out _ (by first | exact h2.out | exact h2.out.drew)).mono ?_; rintro e w3 ⟨rfl, h3⟩; replace h3 := hid h3))
  all_goals (try go_wp2)
  all_goals exact bodyPost_end (v := .tuple #[]) (by simp [results, Tryz.results85]) rfl ⟨rfl, hend.out _ _ (by first | exact h3.out | exact h3.out.drew)⟩
end Go.Proofs.YtgpmpfikeindfaaGreatDoor
