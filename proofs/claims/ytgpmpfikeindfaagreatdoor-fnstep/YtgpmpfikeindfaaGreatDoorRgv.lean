/- What instructions do, as the program does them: 0, 2, 6, 7, 8, 9, 11, 15, 16, 19, 20, 21, 22, 23. -/
import Derived.Test.YtgpmpfikeindfaaGreatDoorRfv
namespace Go.Proofs.YtgpmpfikeindfaaGreatDoor
open Go.ChangeShapes Go.WideShapes Go.ChangeAt Go.RowKit Go.Shelf
set_option linter.unusedVariables false
set_option linter.unusedSimpArgs false

set_option maxRecDepth 100000 in
set_option maxHeartbeats 2000000 in
theorem op_0 (a b m l : Nat) (p : Par) (hT : Tells p) (z : Kps) (W : World) (x : Mx) (h : At p z W x) (hG : Flags p.w) (hD : Conds p.w) (hl : x.cy.length ≤ 900) (hk : okM x.m = true) (hc : x.c.ok) (ha : a < 8) (hb : b < 8) (hm : m < 256) (hn : p.n < 256) :
    Calls Tryz.prog 66 #[.pointer (some ⟨p.Y, 0, none⟩), insV 0 a b m l] W fun e W' => e = .returned (.tuple #[]) ∧ At p z W' (x.run p.n a b m 0) := by
  have e : x.run p.n a b m 0 = x := rfl
  rw [e]
  clear e
  obtain ⟨hcb, hcc, hcd, hce, hch, hcl, hca, hcf, hcs, hcp⟩ := id hc
  obtain ⟨z2, hz2⟩ : ∃ z2 : Kps, ((W.heap.size, #[.int .i64 0, .int .i64 (a : Int), .int .i64 (b : Int), .int .i64 (m : Int), .int .i64 (l : Int)]) :: z) = z2 := ⟨_, rfl⟩
  have h1 := h.boxed #[.int .i64 0, .int .i64 (a : Int), .int .i64 (b : Int), .int .i64 (m : Int), .int .i64 (l : Int)] 64
  rw [hz2] at h1
  have hend : Hid (∀ W' y, At p z2 W' y → At p z W' y) := fun W' y hh => by rw [← hz2] at hh; exact hh.less
  have hin : Hid (∀ W' y, At p z2 W' y → ∀ i, W'.cell? ⟨W.heap.size, i, none⟩ = (#[.int .i64 0, .int .i64 (a : Int), .int .i64 (b : Int), .int .i64 (m : Int), .int .i64 (l : Int)] : Array Value)[i]?) := fun W' y hh => by rw [← hz2] at hh; exact hh.kept.cell
  have i1 := hin.out _ _ h1
  have x1 := h1.cell
  have f1 := h1.frozen
  have z1 := h1.lt
  replace h1 := hid h1
  clear h hz2
  replace hT := hid hT
  replace hG := hid hG
  replace hD := hid hD
  go_enter Tryz.func66, Tryz.ntmps66
  go_wp2
  exact bodyPost_end (v := .tuple #[]) (by simp [results, Tryz.results66]) rfl ⟨rfl, hend.out _ _ h1.out⟩
set_option maxRecDepth 100000 in
set_option maxHeartbeats 2000000 in
theorem op_2 (a b m l : Nat) (p : Par) (hT : Tells p) (z : Kps) (W : World) (x : Mx) (h : At p z W x) (hG : Flags p.w) (hD : Conds p.w) (hl : x.cy.length ≤ 900) (hk : okM x.m = true) (hc : x.c.ok) (ha : a < 8) (hb : b < 8) (hm : m < 256) (hn : p.n < 256) :
    Calls Tryz.prog 70 #[.pointer (some ⟨p.Y, 0, none⟩), insV 2 a b m l] W fun e W' => e = .returned (.tuple #[]) ∧ At p z W' (x.run p.n a b m 2) := by
  have e : x.run p.n a b m 2 = x.set a m := rfl
  rw [e]
  clear e
  obtain ⟨hcb, hcc, hcd, hce, hch, hcl, hca, hcf, hcs, hcp⟩ := id hc
  obtain ⟨z2, hz2⟩ : ∃ z2 : Kps, ((W.heap.size, #[.int .i64 2, .int .i64 (a : Int), .int .i64 (b : Int), .int .i64 (m : Int), .int .i64 (l : Int)]) :: z) = z2 := ⟨_, rfl⟩
  have h1 := h.boxed #[.int .i64 2, .int .i64 (a : Int), .int .i64 (b : Int), .int .i64 (m : Int), .int .i64 (l : Int)] 64
  rw [hz2] at h1
  have hend : Hid (∀ W' y, At p z2 W' y → At p z W' y) := fun W' y hh => by rw [← hz2] at hh; exact hh.less
  have hin : Hid (∀ W' y, At p z2 W' y → ∀ i, W'.cell? ⟨W.heap.size, i, none⟩ = (#[.int .i64 2, .int .i64 (a : Int), .int .i64 (b : Int), .int .i64 (m : Int), .int .i64 (l : Int)] : Array Value)[i]?) := fun W' y hh => by rw [← hz2] at hh; exact hh.kept.cell
  have i1 := hin.out _ _ h1
  have x1 := h1.cell
  have f1 := h1.frozen
  have z1 := h1.lt
  replace h1 := hid h1
  clear h hz2
  have hput := hid (fun W1 (h3 : At p z2 W1 x) => pput a m p hT z2 W1 _ h3 (by omega) hk hch ha)
  replace hT := hid hT
  replace hG := hid hG
  replace hD := hid hD
  go_enter Tryz.func70, Tryz.ntmps70
  go_upto_region 1 with fail
  obtain ⟨V, hV⟩ : ∃ V, W.alloc (Obj.cells #[.int .i64 2, .int .i64 (a : Int), .int .i64 (b : Int), .int .i64 (m : Int), .int .i64 (l : Int)] 64) = V := ⟨_, rfl⟩
  rw [hV] at h1 i1 x1 f1 z1 ⊢
  generalize W.heap.size = I at *
  clear hV
  go_wp2_with fail
  refine (hput.out _ h1.out).mono ?_
  rintro e w3 ⟨rfl, h3⟩
  replace h3 := hid h3
  clear i1 x1 f1 z1
  go_wp2
  exact bodyPost_end (v := .tuple #[]) (by simp [results, Tryz.results70]) rfl ⟨rfl, hend.out _ _ h3.out⟩
set_option maxRecDepth 100000 in
set_option maxHeartbeats 2000000 in
theorem op_6 (a b m l : Nat) (p : Par) (hT : Tells p) (z : Kps) (W : World) (x : Mx) (h : At p z W x) (hG : Flags p.w) (hD : Conds p.w) (hl : x.cy.length ≤ 900) (hk : okM x.m = true) (hc : x.c.ok) (ha : a < 8) (hb : b < 8) (hm : m < 256) (hn : p.n < 256) :
    Calls Tryz.prog 76 #[.pointer (some ⟨p.Y, 0, none⟩), insV 6 a b m l] W fun e W' => e = .returned (.tuple #[]) ∧ At p z W' (x.run p.n a b m 6) := by
  have e : x.run p.n a b m 6 = x.alu a m := rfl
  rw [e]
  clear e
  obtain ⟨hcb, hcc, hcd, hce, hch, hcl, hca, hcf, hcs, hcp⟩ := id hc
  obtain ⟨z2, hz2⟩ : ∃ z2 : Kps, ((W.heap.size, #[.int .i64 6, .int .i64 (a : Int), .int .i64 (b : Int), .int .i64 (m : Int), .int .i64 (l : Int)]) :: z) = z2 := ⟨_, rfl⟩
  have h1 := h.boxed #[.int .i64 6, .int .i64 (a : Int), .int .i64 (b : Int), .int .i64 (m : Int), .int .i64 (l : Int)] 64
  rw [hz2] at h1
  have hend : Hid (∀ W' y, At p z2 W' y → At p z W' y) := fun W' y hh => by rw [← hz2] at hh; exact hh.less
  have hin : Hid (∀ W' y, At p z2 W' y → ∀ i, W'.cell? ⟨W.heap.size, i, none⟩ = (#[.int .i64 6, .int .i64 (a : Int), .int .i64 (b : Int), .int .i64 (m : Int), .int .i64 (l : Int)] : Array Value)[i]?) := fun W' y hh => by rw [← hz2] at hh; exact hh.kept.cell
  have i1 := hin.out _ _ h1
  have x1 := h1.cell
  have f1 := h1.frozen
  have z1 := h1.lt
  replace h1 := hid h1
  clear h hz2
  have hal := hid (fun W1 (h3 : At p z2 W1 x) => pcalc a m p z2 W1 _ h3 hG hca hcf hm ha)
  replace hT := hid hT
  replace hG := hid hG
  replace hD := hid hD
  go_enter Tryz.func76, Tryz.ntmps76
  go_upto_region 1 with fail
  obtain ⟨V, hV⟩ : ∃ V, W.alloc (Obj.cells #[.int .i64 6, .int .i64 (a : Int), .int .i64 (b : Int), .int .i64 (m : Int), .int .i64 (l : Int)] 64) = V := ⟨_, rfl⟩
  rw [hV] at h1 i1 x1 f1 z1 ⊢
  generalize W.heap.size = I at *
  clear hV
  go_wp2_with fail
  refine (hal.out _ h1.out).mono ?_
  rintro e w3 ⟨rfl, h3⟩
  replace h3 := hid h3
  clear i1 x1 f1 z1
  go_wp2
  exact bodyPost_end (v := .tuple #[]) (by simp [results, Tryz.results76]) rfl ⟨rfl, hend.out _ _ h3.out⟩
set_option maxRecDepth 100000 in
set_option maxHeartbeats 2000000 in
theorem op_7 (a b m l : Nat) (p : Par) (hT : Tells p) (z : Kps) (W : World) (x : Mx) (h : At p z W x) (hG : Flags p.w) (hD : Conds p.w) (hl : x.cy.length ≤ 900) (hk : okM x.m = true) (hc : x.c.ok) (ha : a < 8) (hb : b < 8) (hm : m < 256) (hn : p.n < 256) :
    Calls Tryz.prog 77 #[.pointer (some ⟨p.Y, 0, none⟩), insV 7 a b m l] W fun e W' => e = .returned (.tuple #[]) ∧ At p z W' (x.run p.n a b m 7) := by
  have e : x.run p.n a b m 7 = ({ x.getX a with c := { x.c with f := incF (x.getV a) x.c.f } } : Mx).set a (incV (x.getV a)) := rfl
  rw [e]
  clear e
  obtain ⟨hcb, hcc, hcd, hce, hch, hcl, hca, hcf, hcs, hcp⟩ := id hc
  obtain ⟨z2, hz2⟩ : ∃ z2 : Kps, ((W.heap.size, #[.int .i64 7, .int .i64 (a : Int), .int .i64 (b : Int), .int .i64 (m : Int), .int .i64 (l : Int)]) :: z) = z2 := ⟨_, rfl⟩
  have h1 := h.boxed #[.int .i64 7, .int .i64 (a : Int), .int .i64 (b : Int), .int .i64 (m : Int), .int .i64 (l : Int)] 64
  rw [hz2] at h1
  have hend : Hid (∀ W' y, At p z2 W' y → At p z W' y) := fun W' y hh => by rw [← hz2] at hh; exact hh.less
  have hin : Hid (∀ W' y, At p z2 W' y → ∀ i, W'.cell? ⟨W.heap.size, i, none⟩ = (#[.int .i64 7, .int .i64 (a : Int), .int .i64 (b : Int), .int .i64 (m : Int), .int .i64 (l : Int)] : Array Value)[i]?) := fun W' y hh => by rw [← hz2] at hh; exact hh.kept.cell
  have i1 := hin.out _ _ h1
  have x1 := h1.cell
  have f1 := h1.frozen
  have z1 := h1.lt
  replace h1 := hid h1
  clear h hz2
  have hv := getV_lt hk hc a
  have hal := hid (fun W1 (h3 : At p z2 W1 x) => palter a 79 (incV (x.getV a)) (incF (x.getV a) x.c.f) p hT z2 W1 x h3 hl hk hch ha (enters_of Tryz.func79 (by kernel_rfl) rfl) (fun W2 h4 => by
    have q := inc8_impl (x.getV a : Int) (x.c.f : Int) W2 (flags_below hG h4.old)
    rw [inc8N _ _ hv hcf] at q
    refine q.mono ?_
    rintro e w' ⟨rfl, rfl⟩
    exact ⟨rfl, Below.refl _ _⟩))
  replace hT := hid hT
  replace hG := hid hG
  replace hD := hid hD
  go_enter Tryz.func77, Tryz.ntmps77
  go_upto_region 1 with fail
  obtain ⟨V, hV⟩ : ∃ V, W.alloc (Obj.cells #[.int .i64 7, .int .i64 (a : Int), .int .i64 (b : Int), .int .i64 (m : Int), .int .i64 (l : Int)] 64) = V := ⟨_, rfl⟩
  rw [hV] at h1 i1 x1 f1 z1 ⊢
  generalize W.heap.size = I at *
  clear hV
  go_wp2_with fail
  refine (hal.out _ h1.out).mono ?_
  rintro e w3 ⟨rfl, h3⟩
  replace h3 := hid h3
  clear i1 x1 f1 z1
  go_wp2
  exact bodyPost_end (v := .tuple #[]) (by simp [results, Tryz.results77]) rfl ⟨rfl, hend.out _ _ h3.out⟩
set_option maxRecDepth 100000 in
set_option maxHeartbeats 2000000 in
theorem op_8 (a b m l : Nat) (p : Par) (hT : Tells p) (z : Kps) (W : World) (x : Mx) (h : At p z W x) (hG : Flags p.w) (hD : Conds p.w) (hl : x.cy.length ≤ 900) (hk : okM x.m = true) (hc : x.c.ok) (ha : a < 8) (hb : b < 8) (hm : m < 256) (hn : p.n < 256) :
    Calls Tryz.prog 80 #[.pointer (some ⟨p.Y, 0, none⟩), insV 8 a b m l] W fun e W' => e = .returned (.tuple #[]) ∧ At p z W' (x.run p.n a b m 8) := by
  have e : x.run p.n a b m 8 = ({ x.getX a with c := { x.c with f := decF (x.getV a) x.c.f } } : Mx).set a (decV (x.getV a)) := rfl
  rw [e]
  clear e
  obtain ⟨hcb, hcc, hcd, hce, hch, hcl, hca, hcf, hcs, hcp⟩ := id hc
  obtain ⟨z2, hz2⟩ : ∃ z2 : Kps, ((W.heap.size, #[.int .i64 8, .int .i64 (a : Int), .int .i64 (b : Int), .int .i64 (m : Int), .int .i64 (l : Int)]) :: z) = z2 := ⟨_, rfl⟩
  have h1 := h.boxed #[.int .i64 8, .int .i64 (a : Int), .int .i64 (b : Int), .int .i64 (m : Int), .int .i64 (l : Int)] 64
  rw [hz2] at h1
  have hend : Hid (∀ W' y, At p z2 W' y → At p z W' y) := fun W' y hh => by rw [← hz2] at hh; exact hh.less
  have hin : Hid (∀ W' y, At p z2 W' y → ∀ i, W'.cell? ⟨W.heap.size, i, none⟩ = (#[.int .i64 8, .int .i64 (a : Int), .int .i64 (b : Int), .int .i64 (m : Int), .int .i64 (l : Int)] : Array Value)[i]?) := fun W' y hh => by rw [← hz2] at hh; exact hh.kept.cell
  have i1 := hin.out _ _ h1
  have x1 := h1.cell
  have f1 := h1.frozen
  have z1 := h1.lt
  replace h1 := hid h1
  clear h hz2
  have hv := getV_lt hk hc a
  have hal := hid (fun W1 (h3 : At p z2 W1 x) => palter a 81 (decV (x.getV a)) (decF (x.getV a) x.c.f) p hT z2 W1 x h3 hl hk hch ha (enters_of Tryz.func81 (by kernel_rfl) rfl) (fun W2 h4 => by
    have q := dec8_impl (x.getV a : Int) (x.c.f : Int) W2 (flags_below hG h4.old)
    rw [dec8N _ _ hv hcf] at q
    refine q.mono ?_
    rintro e w' ⟨rfl, rfl⟩
    exact ⟨rfl, Below.refl _ _⟩))
  replace hT := hid hT
  replace hG := hid hG
  replace hD := hid hD
  go_enter Tryz.func80, Tryz.ntmps80
  go_upto_region 1 with fail
  obtain ⟨V, hV⟩ : ∃ V, W.alloc (Obj.cells #[.int .i64 8, .int .i64 (a : Int), .int .i64 (b : Int), .int .i64 (m : Int), .int .i64 (l : Int)] 64) = V := ⟨_, rfl⟩
  rw [hV] at h1 i1 x1 f1 z1 ⊢
  generalize W.heap.size = I at *
  clear hV
  go_wp2_with fail
  refine (hal.out _ h1.out).mono ?_
  rintro e w3 ⟨rfl, h3⟩
  replace h3 := hid h3
  clear i1 x1 f1 z1
  go_wp2
  exact bodyPost_end (v := .tuple #[]) (by simp [results, Tryz.results80]) rfl ⟨rfl, hend.out _ _ h3.out⟩
set_option maxRecDepth 100000 in
set_option maxHeartbeats 2000000 in
theorem op_9 (a b m l : Nat) (p : Par) (hT : Tells p) (z : Kps) (W : World) (x : Mx) (h : At p z W x) (hG : Flags p.w) (hD : Conds p.w) (hl : x.cy.length ≤ 900) (hk : okM x.m = true) (hc : x.c.ok) (ha : a < 8) (hb : b < 8) (hm : m < 256) (hn : p.n < 256) :
    Calls Tryz.prog 82 #[.pointer (some ⟨p.Y, 0, none⟩), insV 9 a b m l] W fun e W' => e = .returned (.tuple #[]) ∧ At p z W' (x.run p.n a b m 9) := by
  have e : x.run p.n a b m 9 = ({ x.getX b with c := { x.c with f := turnF a (x.getV b) (Nat.land x.c.f 1) } } : Mx).set b (turnV a (x.getV b) (Nat.land x.c.f 1)) := rfl
  rw [e]
  clear e
  obtain ⟨hcb, hcc, hcd, hce, hch, hcl, hca, hcf, hcs, hcp⟩ := id hc
  obtain ⟨z2, hz2⟩ : ∃ z2 : Kps, ((W.heap.size, #[.int .i64 9, .int .i64 (a : Int), .int .i64 (b : Int), .int .i64 (m : Int), .int .i64 (l : Int)]) :: z) = z2 := ⟨_, rfl⟩
  have h1 := h.boxed #[.int .i64 9, .int .i64 (a : Int), .int .i64 (b : Int), .int .i64 (m : Int), .int .i64 (l : Int)] 64
  rw [hz2] at h1
  have hend : Hid (∀ W' y, At p z2 W' y → At p z W' y) := fun W' y hh => by rw [← hz2] at hh; exact hh.less
  have hin : Hid (∀ W' y, At p z2 W' y → ∀ i, W'.cell? ⟨W.heap.size, i, none⟩ = (#[.int .i64 9, .int .i64 (a : Int), .int .i64 (b : Int), .int .i64 (m : Int), .int .i64 (l : Int)] : Array Value)[i]?) := fun W' y hh => by rw [← hz2] at hh; exact hh.kept.cell
  have i1 := hin.out _ _ h1
  have x1 := h1.cell
  have f1 := h1.frozen
  have z1 := h1.lt
  replace h1 := hid h1
  clear h hz2
  have hv := getV_lt hk hc b
  have hal := hid (fun W1 (h3 : At p z2 W1 x) => palterT b 83 (turnV a (x.getV b) (Nat.land x.c.f 1)) (turnF a (x.getV b) (Nat.land x.c.f 1)) W.heap.size p hT z2 W1 x h3 hl hk hch hb (enters_of Tryz.func83 (by kernel_rfl) rfl) (fun W2 h4 => turn_clo a (x.getV b) x.c.f W.heap.size W2 (flags_below hG h4.old) (hin.out _ _ h4 1) ha hv hcf))
  replace hT := hid hT
  replace hG := hid hG
  replace hD := hid hD
  go_enter Tryz.func82, Tryz.ntmps82
  go_upto_region 1 with fail
  obtain ⟨V, hV⟩ : ∃ V, W.alloc (Obj.cells #[.int .i64 9, .int .i64 (a : Int), .int .i64 (b : Int), .int .i64 (m : Int), .int .i64 (l : Int)] 64) = V := ⟨_, rfl⟩
  rw [hV] at h1 i1 x1 f1 z1 ⊢
  generalize W.heap.size = I at *
  clear hV
  go_wp2_with fail
  refine (hal.out _ h1.out).mono ?_
  rintro e w3 ⟨rfl, h3⟩
  replace h3 := hid h3
  clear i1 x1 f1 z1
  go_wp2
  exact bodyPost_end (v := .tuple #[]) (by simp [results, Tryz.results82]) rfl ⟨rfl, hend.out _ _ h3.out⟩
set_option maxRecDepth 100000 in
set_option maxHeartbeats 2000000 in
theorem op_11 (a b m l : Nat) (p : Par) (hT : Tells p) (z : Kps) (W : World) (x : Mx) (h : At p z W x) (hG : Flags p.w) (hD : Conds p.w) (hl : x.cy.length ≤ 900) (hk : okM x.m = true) (hc : x.c.ok) (ha : a < 8) (hb : b < 8) (hm : m < 256) (hn : p.n < 256) :
    Calls Tryz.prog 87 #[.pointer (some ⟨p.Y, 0, none⟩), insV 11 a b m l] W fun e W' => e = .returned (.tuple #[]) ∧ At p z W' (x.run p.n a b m 11) := by
  have e : x.run p.n a b m 11 = ({ x with c := { x.c with a := daaV x.c.a x.c.f, f := daaF x.c.a x.c.f } } : Mx) := rfl
  rw [e]
  clear e
  obtain ⟨hcb, hcc, hcd, hce, hch, hcl, hca, hcf, hcs, hcp⟩ := id hc
  obtain ⟨z2, hz2⟩ : ∃ z2 : Kps, ((W.heap.size, #[.int .i64 11, .int .i64 (a : Int), .int .i64 (b : Int), .int .i64 (m : Int), .int .i64 (l : Int)]) :: z) = z2 := ⟨_, rfl⟩
  have h1 := h.boxed #[.int .i64 11, .int .i64 (a : Int), .int .i64 (b : Int), .int .i64 (m : Int), .int .i64 (l : Int)] 64
  rw [hz2] at h1
  have hend : Hid (∀ W' y, At p z2 W' y → At p z W' y) := fun W' y hh => by rw [← hz2] at hh; exact hh.less
  have hin : Hid (∀ W' y, At p z2 W' y → ∀ i, W'.cell? ⟨W.heap.size, i, none⟩ = (#[.int .i64 11, .int .i64 (a : Int), .int .i64 (b : Int), .int .i64 (m : Int), .int .i64 (l : Int)] : Array Value)[i]?) := fun W' y hh => by rw [← hz2] at hh; exact hh.kept.cell
  have i1 := hin.out _ _ h1
  have x1 := h1.cell
  have f1 := h1.frozen
  have z1 := h1.lt
  replace h1 := hid h1
  clear h hz2
  have hal : Hid (∀ W1 (h3 : At p z2 W1 x), Calls _ _ _ W1 fun e W' => e = .returned (.tuple #[]) ∧ At p z2 W' ({ x with c := { x.c with a := daaV x.c.a x.c.f, f := daaF x.c.a x.c.f } } : Mx)) := (fun W1 (h3 : At p z2 W1 x) => palter 7 88 (daaV x.c.a x.c.f) (daaF x.c.a x.c.f) p hT z2 W1 x h3 hl hk hch (by omega) (enters_of Tryz.func88 (by kernel_rfl) rfl) (fun W2 h4 => by
    have q := daa8_impl (x.c.a : Int) (x.c.f : Int) W2 (flags_below hG h4.old)
    rw [daa8N _ _ hca hcf] at q
    refine q.mono ?_
    rintro e w' ⟨rfl, rfl⟩
    exact ⟨rfl, Below.refl _ _⟩))
  replace hT := hid hT
  replace hG := hid hG
  replace hD := hid hD
  go_enter Tryz.func87, Tryz.ntmps87
  go_upto_region 1 with fail
  obtain ⟨V, hV⟩ : ∃ V, W.alloc (Obj.cells #[.int .i64 11, .int .i64 (a : Int), .int .i64 (b : Int), .int .i64 (m : Int), .int .i64 (l : Int)] 64) = V := ⟨_, rfl⟩
  rw [hV] at h1 i1 x1 f1 z1 ⊢
  generalize W.heap.size = I at *
  clear hV
  go_wp2_with fail
  refine (hal.out _ h1.out).mono ?_
  rintro e w3 ⟨rfl, h3⟩
  replace h3 := hid h3
  clear i1 x1 f1 z1
  go_wp2
  exact bodyPost_end (v := .tuple #[]) (by simp [results, Tryz.results87]) rfl ⟨rfl, hend.out _ _ h3.out⟩
set_option maxRecDepth 100000 in
set_option maxHeartbeats 2000000 in
theorem op_15 (a b m l : Nat) (p : Par) (hT : Tells p) (z : Kps) (W : World) (x : Mx) (h : At p z W x) (hG : Flags p.w) (hD : Conds p.w) (hl : x.cy.length ≤ 900) (hk : okM x.m = true) (hc : x.c.ok) (ha : a < 8) (hb : b < 8) (hm : m < 256) (hn : p.n < 256) :
    Calls Tryz.prog 92 #[.pointer (some ⟨p.Y, 0, none⟩), insV 15 a b m l] W fun e W' => e = .returned (.tuple #[]) ∧ At p z W' (x.run p.n a b m 15) := by
  have e : x.run p.n a b m 15 = x.push (if a = 6 then x.c.f else x.c.reg a) := rfl
  rw [e]
  clear e
  obtain ⟨hcb, hcc, hcd, hce, hch, hcl, hca, hcf, hcs, hcp⟩ := id hc
  obtain ⟨z2, hz2⟩ : ∃ z2 : Kps, ((W.heap.size, #[.int .i64 15, .int .i64 (a : Int), .int .i64 (b : Int), .int .i64 (m : Int), .int .i64 (l : Int)]) :: z) = z2 := ⟨_, rfl⟩
  have h1 := h.boxed #[.int .i64 15, .int .i64 (a : Int), .int .i64 (b : Int), .int .i64 (m : Int), .int .i64 (l : Int)] 64
  rw [hz2] at h1
  have hend : Hid (∀ W' y, At p z2 W' y → At p z W' y) := fun W' y hh => by rw [← hz2] at hh; exact hh.less
  have hin : Hid (∀ W' y, At p z2 W' y → ∀ i, W'.cell? ⟨W.heap.size, i, none⟩ = (#[.int .i64 15, .int .i64 (a : Int), .int .i64 (b : Int), .int .i64 (m : Int), .int .i64 (l : Int)] : Array Value)[i]?) := fun W' y hh => by rw [← hz2] at hh; exact hh.kept.cell
  have i1 := hin.out _ _ h1
  have x1 := h1.cell
  have f1 := h1.frozen
  have z1 := h1.lt
  replace h1 := hid h1
  clear h hz2
  have hpu := hid (fun W1 (h3 : At p z2 W1 x) => ppushed a p hT z2 W1 x h3 (by omega) hk hcs ha)
  generalize (if a = 6 then x.c.f else x.c.reg a) = vv at *
  replace hT := hid hT
  replace hG := hid hG
  replace hD := hid hD
  go_enter Tryz.func92, Tryz.ntmps92
  go_upto_region 1 with fail
  obtain ⟨V, hV⟩ : ∃ V, W.alloc (Obj.cells #[.int .i64 15, .int .i64 (a : Int), .int .i64 (b : Int), .int .i64 (m : Int), .int .i64 (l : Int)] 64) = V := ⟨_, rfl⟩
  rw [hV] at h1 i1 x1 f1 z1 ⊢
  generalize W.heap.size = I at *
  clear hV
  go_wp2_with fail
  refine (hpu.out _ h1.out).mono ?_
  rintro e w3 ⟨rfl, h3⟩
  replace h3 := hid h3
  clear i1 x1 f1 z1
  go_wp2
  exact bodyPost_end (v := .tuple #[]) (by simp [results, Tryz.results92]) rfl ⟨rfl, hend.out _ _ h3.out⟩
set_option maxRecDepth 100000 in
set_option maxHeartbeats 2000000 in
theorem op_16 (a b m l : Nat) (p : Par) (hT : Tells p) (z : Kps) (W : World) (x : Mx) (h : At p z W x) (hG : Flags p.w) (hD : Conds p.w) (hl : x.cy.length ≤ 900) (hk : okM x.m = true) (hc : x.c.ok) (ha : a < 8) (hb : b < 8) (hm : m < 256) (hn : p.n < 256) :
    Calls Tryz.prog 94 #[.pointer (some ⟨p.Y, 0, none⟩), insV 16 a b m l] W fun e W' => e = .returned (.tuple #[]) ∧ At p z W' (x.run p.n a b m 16) := by
  have e : x.run p.n a b m 16 = (if a = 6 then ({ x.popX with c := { x.popX.c with f := x.popV } } : Mx) else { x.popX with c := x.popX.c.put x.popV a }) := rfl
  rw [e]
  clear e
  obtain ⟨hcb, hcc, hcd, hce, hch, hcl, hca, hcf, hcs, hcp⟩ := id hc
  obtain ⟨z2, hz2⟩ : ∃ z2 : Kps, ((W.heap.size, #[.int .i64 16, .int .i64 (a : Int), .int .i64 (b : Int), .int .i64 (m : Int), .int .i64 (l : Int)]) :: z) = z2 := ⟨_, rfl⟩
  have h1 := h.boxed #[.int .i64 16, .int .i64 (a : Int), .int .i64 (b : Int), .int .i64 (m : Int), .int .i64 (l : Int)] 64
  rw [hz2] at h1
  have hend : Hid (∀ W' y, At p z2 W' y → At p z W' y) := fun W' y hh => by rw [← hz2] at hh; exact hh.less
  have hin : Hid (∀ W' y, At p z2 W' y → ∀ i, W'.cell? ⟨W.heap.size, i, none⟩ = (#[.int .i64 16, .int .i64 (a : Int), .int .i64 (b : Int), .int .i64 (m : Int), .int .i64 (l : Int)] : Array Value)[i]?) := fun W' y hh => by rw [← hz2] at hh; exact hh.kept.cell
  have i1 := hin.out _ _ h1
  have x1 := h1.cell
  have f1 := h1.frozen
  have z1 := h1.lt
  replace h1 := hid h1
  clear h hz2
  have hpu := hid (fun W1 (h3 : At p z2 W1 x) => ppopped a p hT z2 W1 x h3 (by omega) hk hcs ha)
  generalize (if a = 6 then ({ x.popX with c := { x.popX.c with f := x.popV } } : Mx) else { x.popX with c := x.popX.c.put x.popV a }) = yy at *
  replace hT := hid hT
  replace hG := hid hG
  replace hD := hid hD
  go_enter Tryz.func94, Tryz.ntmps94
  go_upto_region 1 with fail
  obtain ⟨V, hV⟩ : ∃ V, W.alloc (Obj.cells #[.int .i64 16, .int .i64 (a : Int), .int .i64 (b : Int), .int .i64 (m : Int), .int .i64 (l : Int)] 64) = V := ⟨_, rfl⟩
  rw [hV] at h1 i1 x1 f1 z1 ⊢
  generalize W.heap.size = I at *
  clear hV
  go_wp2_with fail
  refine (hpu.out _ h1.out).mono ?_
  rintro e w3 ⟨rfl, h3⟩
  replace h3 := hid h3
  clear i1 x1 f1 z1
  go_wp2
  exact bodyPost_end (v := .tuple #[]) (by simp [results, Tryz.results94]) rfl ⟨rfl, hend.out _ _ h3.out⟩
set_option maxRecDepth 100000 in
set_option maxHeartbeats 2000000 in
theorem op_19 (a b m l : Nat) (p : Par) (hT : Tells p) (z : Kps) (W : World) (x : Mx) (h : At p z W x) (hG : Flags p.w) (hD : Conds p.w) (hl : x.cy.length ≤ 900) (hk : okM x.m = true) (hc : x.c.ok) (ha : a < 8) (hb : b < 8) (hm : m < 256) (hn : p.n < 256) :
    Calls Tryz.prog 98 #[.pointer (some ⟨p.Y, 0, none⟩), insV 19 a b m l] W fun e W' => e = .returned (.tuple #[]) ∧ At p z W' (x.run p.n a b m 19) := by
  have e : x.run p.n a b m 19 = ({ x with c := { x.c with halt := true } } : Mx) := rfl
  rw [e]
  clear e
  obtain ⟨hcb, hcc, hcd, hce, hch, hcl, hca, hcf, hcs, hcp⟩ := id hc
  obtain ⟨z2, hz2⟩ : ∃ z2 : Kps, ((W.heap.size, #[.int .i64 19, .int .i64 (a : Int), .int .i64 (b : Int), .int .i64 (m : Int), .int .i64 (l : Int)]) :: z) = z2 := ⟨_, rfl⟩
  have h1 := h.boxed #[.int .i64 19, .int .i64 (a : Int), .int .i64 (b : Int), .int .i64 (m : Int), .int .i64 (l : Int)] 64
  rw [hz2] at h1
  have hend : Hid (∀ W' y, At p z2 W' y → At p z W' y) := fun W' y hh => by rw [← hz2] at hh; exact hh.less
  have hin : Hid (∀ W' y, At p z2 W' y → ∀ i, W'.cell? ⟨W.heap.size, i, none⟩ = (#[.int .i64 19, .int .i64 (a : Int), .int .i64 (b : Int), .int .i64 (m : Int), .int .i64 (l : Int)] : Array Value)[i]?) := fun W' y hh => by rw [← hz2] at hh; exact hh.kept.cell
  have i1 := hin.out _ _ h1
  have x1 := h1.cell
  have f1 := h1.frozen
  have z1 := h1.lt
  replace h1 := hid h1
  clear h hz2
  replace hT := hid hT
  replace hG := hid hG
  replace hD := hid hD
  go_enter Tryz.func98, Tryz.ntmps98
  go_upto_region 1 with fail
  obtain ⟨V, hV⟩ : ∃ V, W.alloc (Obj.cells #[.int .i64 19, .int .i64 (a : Int), .int .i64 (b : Int), .int .i64 (m : Int), .int .i64 (l : Int)] 64) = V := ⟨_, rfl⟩
  rw [hV] at h1 i1 x1 f1 z1 ⊢
  generalize W.heap.size = I at *
  clear hV
  go_wp2
  exact bodyPost_end (v := .tuple #[]) (by simp [results, Tryz.results98]) rfl ⟨rfl, hend.out _ _ (by first | exact h1.out.put 13 (.bool true) { x.c with halt := true } rfl | exact (h1.out.put 13 (.bool true) { x.c with halt := true } rfl).drew)⟩
set_option maxRecDepth 100000 in
set_option maxHeartbeats 2000000 in
theorem op_20 (a b m l : Nat) (p : Par) (hT : Tells p) (z : Kps) (W : World) (x : Mx) (h : At p z W x) (hG : Flags p.w) (hD : Conds p.w) (hl : x.cy.length ≤ 900) (hk : okM x.m = true) (hc : x.c.ok) (ha : a < 8) (hb : b < 8) (hm : m < 256) (hn : p.n < 256) :
    Calls Tryz.prog 99 #[.pointer (some ⟨p.Y, 0, none⟩), insV 20 a b m l] W fun e W' => e = .returned (.tuple #[]) ∧ At p z W' (x.run p.n a b m 20) := by
  have e : x.run p.n a b m 20 = ({ x with c := { x.c with iff := true, ei := true } } : Mx) := rfl
  rw [e]
  clear e
  obtain ⟨hcb, hcc, hcd, hce, hch, hcl, hca, hcf, hcs, hcp⟩ := id hc
  obtain ⟨z2, hz2⟩ : ∃ z2 : Kps, ((W.heap.size, #[.int .i64 20, .int .i64 (a : Int), .int .i64 (b : Int), .int .i64 (m : Int), .int .i64 (l : Int)]) :: z) = z2 := ⟨_, rfl⟩
  have h1 := h.boxed #[.int .i64 20, .int .i64 (a : Int), .int .i64 (b : Int), .int .i64 (m : Int), .int .i64 (l : Int)] 64
  rw [hz2] at h1
  have hend : Hid (∀ W' y, At p z2 W' y → At p z W' y) := fun W' y hh => by rw [← hz2] at hh; exact hh.less
  have hin : Hid (∀ W' y, At p z2 W' y → ∀ i, W'.cell? ⟨W.heap.size, i, none⟩ = (#[.int .i64 20, .int .i64 (a : Int), .int .i64 (b : Int), .int .i64 (m : Int), .int .i64 (l : Int)] : Array Value)[i]?) := fun W' y hh => by rw [← hz2] at hh; exact hh.kept.cell
  have i1 := hin.out _ _ h1
  have x1 := h1.cell
  have f1 := h1.frozen
  have z1 := h1.lt
  replace h1 := hid h1
  clear h hz2
  replace hT := hid hT
  replace hG := hid hG
  replace hD := hid hD
  go_enter Tryz.func99, Tryz.ntmps99
  go_upto_region 1 with fail
  obtain ⟨V, hV⟩ : ∃ V, W.alloc (Obj.cells #[.int .i64 20, .int .i64 (a : Int), .int .i64 (b : Int), .int .i64 (m : Int), .int .i64 (l : Int)] 64) = V := ⟨_, rfl⟩
  rw [hV] at h1 i1 x1 f1 z1 ⊢
  generalize W.heap.size = I at *
  clear hV
  go_wp2
  exact bodyPost_end (v := .tuple #[]) (by simp [results, Tryz.results99]) rfl ⟨rfl, hend.out _ _ ((h1.out.put 11 (.bool true) { x.c with iff := true } rfl).put 12 (.bool true) { x.c with iff := true, ei := true } rfl)⟩
set_option maxRecDepth 100000 in
set_option maxHeartbeats 2000000 in
theorem op_21 (a b m l : Nat) (p : Par) (hT : Tells p) (z : Kps) (W : World) (x : Mx) (h : At p z W x) (hG : Flags p.w) (hD : Conds p.w) (hl : x.cy.length ≤ 900) (hk : okM x.m = true) (hc : x.c.ok) (ha : a < 8) (hb : b < 8) (hm : m < 256) (hn : p.n < 256) :
    Calls Tryz.prog 100 #[.pointer (some ⟨p.Y, 0, none⟩), insV 21 a b m l] W fun e W' => e = .returned (.tuple #[]) ∧ At p z W' (x.run p.n a b m 21) := by
  have e : x.run p.n a b m 21 = ({ x with c := { x.c with iff := false, ei := false } } : Mx) := rfl
  rw [e]
  clear e
  obtain ⟨hcb, hcc, hcd, hce, hch, hcl, hca, hcf, hcs, hcp⟩ := id hc
  obtain ⟨z2, hz2⟩ : ∃ z2 : Kps, ((W.heap.size, #[.int .i64 21, .int .i64 (a : Int), .int .i64 (b : Int), .int .i64 (m : Int), .int .i64 (l : Int)]) :: z) = z2 := ⟨_, rfl⟩
  have h1 := h.boxed #[.int .i64 21, .int .i64 (a : Int), .int .i64 (b : Int), .int .i64 (m : Int), .int .i64 (l : Int)] 64
  rw [hz2] at h1
  have hend : Hid (∀ W' y, At p z2 W' y → At p z W' y) := fun W' y hh => by rw [← hz2] at hh; exact hh.less
  have hin : Hid (∀ W' y, At p z2 W' y → ∀ i, W'.cell? ⟨W.heap.size, i, none⟩ = (#[.int .i64 21, .int .i64 (a : Int), .int .i64 (b : Int), .int .i64 (m : Int), .int .i64 (l : Int)] : Array Value)[i]?) := fun W' y hh => by rw [← hz2] at hh; exact hh.kept.cell
  have i1 := hin.out _ _ h1
  have x1 := h1.cell
  have f1 := h1.frozen
  have z1 := h1.lt
  replace h1 := hid h1
  clear h hz2
  replace hT := hid hT
  replace hG := hid hG
  replace hD := hid hD
  go_enter Tryz.func100, Tryz.ntmps100
  go_upto_region 1 with fail
  obtain ⟨V, hV⟩ : ∃ V, W.alloc (Obj.cells #[.int .i64 21, .int .i64 (a : Int), .int .i64 (b : Int), .int .i64 (m : Int), .int .i64 (l : Int)] 64) = V := ⟨_, rfl⟩
  rw [hV] at h1 i1 x1 f1 z1 ⊢
  generalize W.heap.size = I at *
  clear hV
  go_wp2
  exact bodyPost_end (v := .tuple #[]) (by simp [results, Tryz.results100]) rfl ⟨rfl, hend.out _ _ ((h1.out.put 11 (.bool false) { x.c with iff := false } rfl).put 12 (.bool false) { x.c with iff := false, ei := false } rfl)⟩
set_option maxRecDepth 100000 in
set_option maxHeartbeats 2000000 in
theorem op_22 (a b m l : Nat) (p : Par) (hT : Tells p) (z : Kps) (W : World) (x : Mx) (h : At p z W x) (hG : Flags p.w) (hD : Conds p.w) (hl : x.cy.length ≤ 900) (hk : okM x.m = true) (hc : x.c.ok) (ha : a < 8) (hb : b < 8) (hm : m < 256) (hn : p.n < 256) :
    Calls Tryz.prog 101 #[.pointer (some ⟨p.Y, 0, none⟩), insV 22 a b m l] W fun e W' => e = .returned (.tuple #[]) ∧ At p z W' (x.run p.n a b m 22) := by
  have e : x.run p.n a b m 22 = x.copy := rfl
  rw [e]
  clear e
  obtain ⟨hcb, hcc, hcd, hce, hch, hcl, hca, hcf, hcs, hcp⟩ := id hc
  obtain ⟨z2, hz2⟩ : ∃ z2 : Kps, ((W.heap.size, #[.int .i64 22, .int .i64 (a : Int), .int .i64 (b : Int), .int .i64 (m : Int), .int .i64 (l : Int)]) :: z) = z2 := ⟨_, rfl⟩
  have h1 := h.boxed #[.int .i64 22, .int .i64 (a : Int), .int .i64 (b : Int), .int .i64 (m : Int), .int .i64 (l : Int)] 64
  rw [hz2] at h1
  have hend : Hid (∀ W' y, At p z2 W' y → At p z W' y) := fun W' y hh => by rw [← hz2] at hh; exact hh.less
  have hin : Hid (∀ W' y, At p z2 W' y → ∀ i, W'.cell? ⟨W.heap.size, i, none⟩ = (#[.int .i64 22, .int .i64 (a : Int), .int .i64 (b : Int), .int .i64 (m : Int), .int .i64 (l : Int)] : Array Value)[i]?) := fun W' y hh => by rw [← hz2] at hh; exact hh.kept.cell
  have i1 := hin.out _ _ h1
  have x1 := h1.cell
  have f1 := h1.frozen
  have z1 := h1.lt
  replace h1 := hid h1
  clear h hz2
  have hco := hid (fun W1 (h3 : At p z2 W1 x) => pcopy p hT z2 W1 x h3 hl hk hc)
  replace hT := hid hT
  replace hG := hid hG
  replace hD := hid hD
  go_enter Tryz.func101, Tryz.ntmps101
  go_upto_region 1 with fail
  obtain ⟨V, hV⟩ : ∃ V, W.alloc (Obj.cells #[.int .i64 22, .int .i64 (a : Int), .int .i64 (b : Int), .int .i64 (m : Int), .int .i64 (l : Int)] 64) = V := ⟨_, rfl⟩
  rw [hV] at h1 i1 x1 f1 z1 ⊢
  generalize W.heap.size = I at *
  clear hV
  go_wp2_with fail
  refine (hco.out _ h1.out).mono ?_
  rintro e w3 ⟨rfl, h3⟩
  replace h3 := hid h3
  clear i1 x1 f1 z1
  go_wp2
  exact bodyPost_end (v := .tuple #[]) (by simp [results, Tryz.results101]) rfl ⟨rfl, hend.out _ _ h3.out⟩
set_option maxRecDepth 100000 in
set_option maxHeartbeats 2000000 in
theorem op_23 (a b m l : Nat) (p : Par) (hT : Tells p) (z : Kps) (W : World) (x : Mx) (h : At p z W x) (hG : Flags p.w) (hD : Conds p.w) (hl : x.cy.length ≤ 900) (hk : okM x.m = true) (hc : x.c.ok) (ha : a < 8) (hb : b < 8) (hm : m < 256) (hn : p.n < 256) :
    Calls Tryz.prog 66 #[.pointer (some ⟨p.Y, 0, none⟩), insV 23 a b m l] W fun e W' => e = .returned (.tuple #[]) ∧ At p z W' (x.run p.n a b m 23) := by
  have e : x.run p.n a b m 23 = x := rfl
  rw [e]
  clear e
  obtain ⟨hcb, hcc, hcd, hce, hch, hcl, hca, hcf, hcs, hcp⟩ := id hc
  obtain ⟨z2, hz2⟩ : ∃ z2 : Kps, ((W.heap.size, #[.int .i64 23, .int .i64 (a : Int), .int .i64 (b : Int), .int .i64 (m : Int), .int .i64 (l : Int)]) :: z) = z2 := ⟨_, rfl⟩
  have h1 := h.boxed #[.int .i64 23, .int .i64 (a : Int), .int .i64 (b : Int), .int .i64 (m : Int), .int .i64 (l : Int)] 64
  rw [hz2] at h1
  have hend : Hid (∀ W' y, At p z2 W' y → At p z W' y) := fun W' y hh => by rw [← hz2] at hh; exact hh.less
  have hin : Hid (∀ W' y, At p z2 W' y → ∀ i, W'.cell? ⟨W.heap.size, i, none⟩ = (#[.int .i64 23, .int .i64 (a : Int), .int .i64 (b : Int), .int .i64 (m : Int), .int .i64 (l : Int)] : Array Value)[i]?) := fun W' y hh => by rw [← hz2] at hh; exact hh.kept.cell
  have i1 := hin.out _ _ h1
  have x1 := h1.cell
  have f1 := h1.frozen
  have z1 := h1.lt
  replace h1 := hid h1
  clear h hz2
  replace hT := hid hT
  replace hG := hid hG
  replace hD := hid hD
  go_enter Tryz.func66, Tryz.ntmps66
  go_wp2
  exact bodyPost_end (v := .tuple #[]) (by simp [results, Tryz.results66]) rfl ⟨rfl, hend.out _ _ h1.out⟩
end Go.Proofs.YtgpmpfikeindfaaGreatDoor
