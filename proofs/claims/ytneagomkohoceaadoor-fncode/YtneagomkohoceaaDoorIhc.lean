/- An instruction's text, as the specification writes it. -/
import Derived.Test.YtneagomkohoceaaDoorKac
import Derived.Test.YtneagomkohoceaaDoorKec
import Derived.Test.YtneagomkohoceaaDoorIcc
import Derived.Test.YtneagomkohoceaaDoorIgc
namespace Go.Proofs.YtneagomkohoceaaDoor
open Go.ChangeShapes Go.WideShapes Go.ChangeAt Go.RowKit
set_option linter.unusedVariables false
set_option linter.unusedSimpArgs false

def spB : ByteArray := ⟨#[32]⟩
def textB (k A B N : Nat) : ByteArray :=
  kdW k ++ (if hasM (kdN k) 1 = true then spB ++ digB A else ⟨#[]⟩) ++ (if hasM (kdN k) 2 = true then spB ++ digB B else ⟨#[]⟩) ++ (if hasM (kdN k) 12 = true then spB ++ digB N else ⟨#[]⟩)
theorem app_nil (s : ByteArray) : s ++ (⟨#[]⟩ : ByteArray) = s := by apply ByteArray.ext; simp [ByteArray.data_append]
theorem kd_five : ∀ k, k < 23 → (hasC k 65 = false ∧ hasC k 66 = false ∧ hasC k 78 = false ∧ hasM (kdN k) 1 = false ∧ hasM (kdN k) 2 = false ∧ hasM (kdN k) 12 = false) ∨ (hasC k 65 = true ∧ hasC k 66 = true ∧ hasC k 78 = false ∧ hasM (kdN k) 1 = true ∧ hasM (kdN k) 2 = true ∧ hasM (kdN k) 12 = false) ∨
    (hasC k 65 = true ∧ hasC k 66 = false ∧ hasC k 78 = true ∧ hasM (kdN k) 1 = true ∧ hasM (kdN k) 2 = false ∧ hasM (kdN k) 12 = true) ∨ (hasC k 65 = false ∧ hasC k 66 = false ∧ hasC k 78 = true ∧ hasM (kdN k) 1 = false ∧ hasM (kdN k) 2 = false ∧ hasM (kdN k) 12 = true) ∨
    (hasC k 65 = true ∧ hasC k 66 = false ∧ hasC k 78 = false ∧ hasM (kdN k) 1 = true ∧ hasM (kdN k) 2 = false ∧ hasM (kdN k) 12 = false) := by decide +kernel
theorem kdW_size : ∀ k, k < 24 → (kdW k).size ≤ 4 := by decide +kernel
def wdsC : Array Value := ((kdWL.take 23).map fun z => Value.string ⟨z.toArray⟩).toArray
theorem wdsC_at (k : Nat) (hk : k < 23) : wdsC[k]? = some (.string (kdW k)) := by
  have h : ∀ k, k < 23 → (kdWL.take 23)[k]? = some (kdWL.getD k []) := by decide +kernel
  unfold wdsC kdW
  rw [List.getElem?_toArray, List.getElem?_map, h k hk]
  rfl
set_option maxRecDepth 100000 in
theorem words_spec (w : World) : Calls Tryd.prog 65 #[] w fun e w' => (∃ g, e = .returned (.slice (some ⟨g, 0, none⟩) 23 23) ∧ ∀ i, i < 23 → w'.cell? ⟨g, i, none⟩ = some (.string (kdW i))) ∧ Below w.heap.size w w' := by
  have hx : Hid (∀ i, i < 23 → (w.alloc (.cells wdsC 9)).cell? ⟨w.heap.size, i, none⟩ = some (.string (kdW i))) := fun i hi => by
    rw [World.cell?_alloc_at _ _ _ _ rfl]
    exact wdsC_at i hi
  go_enter Tryd.func65, Tryd.ntmps65
  go_wp2
  go_ret
  exact ⟨⟨_, rfl, hx.out⟩, (Below.refl _ _).alloc (Nat.le_refl _) _⟩
set_option maxRecDepth 100000 in
set_option maxHeartbeats 2000000 in
theorem text0_spec (k A B N : Nat) (l : Int) (w : World) (hk24 : k < 24) (hA : A < 8) (hB : B < 8) (hN : N < 256) :
    Calls Tryd.prog 40 #[insV k A B N l] w fun e w' => e = .returned (.string (textB k A B N)) ∧ Below w.heap.size w w' := by
  have hb0 := hid ((Below.refl w.heap.size w).alloc (Nat.le_refl _) (.cells (insA k A B N l) 24))
  have hq0 := hid (Blk.new w (insA k A B N l) 24)
  have sD := fun n (h : n < 256) => digB_size n (Nat.lt_of_lt_of_le h (by decide))
  have sA := sD A (by omega)
  have sB := sD B (by omega)
  have sN := sD N (by omega)
  have sW := kdW_size k hk24
  clear sD
  obtain ⟨DA, hDA⟩ : ∃ x, digB A = x := ⟨_, rfl⟩
  obtain ⟨DB, hDB⟩ : ∃ x, digB B = x := ⟨_, rfl⟩
  obtain ⟨DN, hDN⟩ : ∃ x, digB N = x := ⟨_, rfl⟩
  rw [hDA] at sA
  rw [hDB] at sB
  rw [hDN] at sN
  replace hDA := hid hDA
  replace hDB := hid hDB
  replace hDN := hid hDN
  by_cases h23 : k = 23
  · subst h23
    have e : textB 23 A B N = ⟨#[100, 98, 32]⟩ ++ digB N := by
      have h1 : hasM (kdN 23) 1 = false ∧ hasM (kdN 23) 2 = false ∧ hasM (kdN 23) 12 = true ∧ kdW 23 ++ spB = ⟨#[100, 98, 32]⟩ := by decide +kernel
      unfold textB
      rw [h1.1, h1.2.1, h1.2.2.1, ← h1.2.2.2]
      simp [app_nil, ByteArray.append_assoc]
    rw [e, hDN.out]
    clear e
    go_enter Tryd.func40, Tryd.ntmps40
    go_wp2_with fail
    refine (digits_spec N _ (by omega)).mono ?_
    rintro e v1 ⟨rfl, hb⟩
    rw [hDN.out]
    have hb1 := hid (new_trans hb0.out hb)
    clear hb hb0 hq0
    go_wp2
    go_ret
    exact ⟨rfl, hb1.out⟩
  have hk : k < 23 := by omega
  have hne : ((k : Int) == 23) = false := by simp; omega
  have hki : (k : Int) < 23 := by omega
  obtain ⟨WD, hWD⟩ : ∃ x, kdW k = x := ⟨_, rfl⟩
  rw [hWD] at sW
  replace hWD := hid hWD
  have h5 := kd_five k hk
  have hbd : Hid (Below w.heap.size w (w.alloc (.cells (insA k A B N l) 24)).drew) := hb0.out.drew
  have hqd : Hid (Blk (w.alloc (.cells (insA k A B N l) 24)).drew w.heap.size (insA k A B N l)) := hq0.out
  have c0 := hqd.out.cell 0
  have c1 := hqd.out.cell 1
  have c2 := hqd.out.cell 2
  have c3 := hqd.out.cell 3
  rcases h5 with ⟨g1, g2, g3, m1, m2, m3⟩ | ⟨g1, g2, g3, m1, m2, m3⟩ | ⟨g1, g2, g3, m1, m2, m3⟩ | ⟨g1, g2, g3, m1, m2, m3⟩ | ⟨g1, g2, g3, m1, m2, m3⟩
  · skip
    have e : textB k A B N = kdW k := by unfold textB; rw [m1, m2, m3]; simp [app_nil]
    rw [e]
    clear e m1 m2 m3
    replace g1 := hid g1
    replace g2 := hid g2
    replace g3 := hid g3
    rw [hWD.out]
    go_enter Tryd.func40, Tryd.ntmps40
    go_upto_region 3 with fail
    refine wp_region_held_drew (S := (fun w' => w'.cell? ⟨w.heap.size, 0, none⟩ = some (.int .i64 (k : Int)) ∧ w'.cell? ⟨w.heap.size, 1, none⟩ = some (.int .i64 (A : Int)) ∧ w'.cell? ⟨w.heap.size, 2, none⟩ = some (.int .i64 (B : Int)) ∧ w'.cell? ⟨w.heap.size, 3, none⟩ = some (.int .i64 (N : Int)) ∧ Hid (Below w.heap.size w w'))) (by kernel_rfl) ⟨c0, c1, c2, c3, hbd⟩ (fun hHeld => ?_)
    refine wpAnyH_take (i := 1) (oi := ({ dst := some 12, op := Op.fieldAddr 24 (Operand.tmp 1) 0, type := 0, pos := "l05_code.go:98", after := #[], guard := none } : Oper)) (v := ?_) rfl (by kernel_rfl) (by kernel_rfl) (by kernel_rfl) (fun _ _ _ h => h) (Or.inl ⟨by rfl, ?_⟩) (by assumption) ?_
    rotate_left
    · intro w hSw
      (try dsimp only at hSw)
      go_simp
      (try with_reducible rfl)
    (try simp only [Act.put, List.setIfInBounds_toArray, List.set_cons_zero, List.set_cons_succ])
    refine wpAnyH_take (i := 2) (oi := ({ dst := some 13, op := Op.load 3 (Operand.tmp 12), type := 3, pos := "l05_code.go:98", after := #[{ on := 1, ground := Ground.data }], guard := none } : Oper)) (v := ?_) rfl (by kernel_rfl) (by kernel_rfl) (by kernel_rfl) (fun _ _ _ h => h) (Or.inl ⟨by rfl, ?_⟩) (by assumption) ?_
    rotate_left
    · intro w hSw
      (try dsimp only at hSw)
      go_simp
      (try with_reducible rfl)
    (try simp only [Act.put, List.setIfInBounds_toArray, List.set_cons_zero, List.set_cons_succ])
    refine wpAnyH_ready (rs := [0]) (by kernel_rfl) (by simp) ?_
    refine AllReadyH.cons (o := ({ dst := some 11, op := Op.call { callee := Callee.value (Operand.func 65), args := #[], argTypes := #[] }, type := 37, pos := "l05_code.go:98", after := #[], guard := none } : Oper)) rfl (fun K hK => ?_) AllReadyH.nil
    go_simp
    go_at_call 65
    refine (words_spec _).mono ?_
    rintro e v1 ⟨⟨g, rfl, hw⟩, hb⟩
    have xw := hw k hk
    rw [hWD.out] at xw
    have hb1 := hid (new_trans hbd.out hb)
    have hq1 := hid (Blk.below hqd.out hb hqd.out.lt)
    clear hb hw
    have d0 : v1.cell? ⟨w.heap.size, 0, none⟩ = some (.int .i64 (k : Int)) := hq1.out.cell 0
    have d1 : v1.cell? ⟨w.heap.size, 1, none⟩ = some (.int .i64 (A : Int)) := hq1.out.cell 1
    have d2 : v1.cell? ⟨w.heap.size, 2, none⟩ = some (.int .i64 (B : Int)) := hq1.out.cell 2
    have d3 : v1.cell? ⟨w.heap.size, 3, none⟩ = some (.int .i64 (N : Int)) := hq1.out.cell 3
    go_wp2_with fail
    refine hK.out _ _ ⟨d0, d1, d2, d3, hb1⟩ (fun hHeld => ?_)
    clear hK K
    (try simp only [Act.put, List.setIfInBounds_toArray, List.set_cons_zero, List.set_cons_succ])
    refine wpAnyH_take (i := 3) (oi := ({ dst := some 14, op := Op.indexAddr 37 (Operand.tmp 11) (Operand.tmp 13), type := 0, pos := "l05_code.go:98", after := #[{ on := 0, ground := Ground.data }, { on := 2, ground := Ground.data }], guard := none } : Oper)) (v := ?_) rfl (by kernel_rfl) (by kernel_rfl) (by kernel_rfl) (fun _ _ _ h => h) (Or.inl ⟨by rfl, ?_⟩) (by assumption) ?_
    rotate_left
    · intro w hSw
      (try dsimp only at hSw)
      go_simp
      (try with_reducible rfl)
    (try simp only [Act.put, List.setIfInBounds_toArray, List.set_cons_zero, List.set_cons_succ])
    refine wpAnyH_ready (rs := [4]) (by kernel_rfl) (by simp) ?_
    refine AllReadyH.cons (o := ({ dst := some 15, op := Op.load 9 (Operand.tmp 14), type := 9, pos := "l05_code.go:98", after := #[{ on := 3, ground := Ground.data }], guard := none } : Oper)) rfl (fun K hK => ?_) AllReadyH.nil
    go_simp
    go_wp2_with fail
    refine hK.out _ _ ⟨d0, d1, d2, d3, hb1⟩ (fun hHeld => ?_)
    clear hK K
    (try simp only [Act.put, List.setIfInBounds_toArray, List.set_cons_zero, List.set_cons_succ])
    refine wpAnyH_take (i := 5) (oi := ({ dst := some 3, op := Op.assign (Operand.tmp 15), type := 9, pos := "l05_code.go:98", after := #[{ on := 4, ground := Ground.data }, { on := 0, ground := Ground.chain }, { on := 0, ground := Ground.phase }, { on := 1, ground := Ground.phase }, { on := 2, ground := Ground.phase }, { on := 3, ground := Ground.phase }, { on := 4, ground := Ground.phase }], guard := none } : Oper)) (v := ?_) rfl (by kernel_rfl) (by kernel_rfl) (by kernel_rfl) (fun _ _ _ h => h) (Or.inl ⟨by rfl, ?_⟩) (by assumption) ?_
    rotate_left
    · intro w hSw
      (try dsimp only at hSw)
      go_simp
      (try with_reducible rfl)
    (try simp only [Act.put, List.setIfInBounds_toArray, List.set_cons_zero, List.set_cons_succ])
    refine wpAnyH_done (by kernel_rfl) ?_ _
    clear xw
    go_wp2_with fail
    clear d0 d1 d2 d3
    refine (has_spec k 65 _ hk).mono ?_
    rintro e v2 ⟨rfl, hb⟩
    rw [g1.out]
    have hb2 := hid (new_trans hb1.out hb)
    have hq2 := hid (hq1.out.below hb hq1.out.lt)
    clear hb hb1 hq1
    have x2 := hq2.out.cell
    go_wp2_with fail
    clear x2
    refine (has_spec k 66 _ hk).mono ?_
    rintro e v3 ⟨rfl, hb⟩
    rw [g2.out]
    have hb3 := hid (new_trans hb2.out hb)
    have hq3 := hid (hq2.out.below hb hq2.out.lt)
    clear hb hb2 hq2
    have x3 := hq3.out.cell
    go_wp2_with fail
    clear x3
    refine (has_spec k 78 _ hk).mono ?_
    rintro e v4 ⟨rfl, hb⟩
    rw [g3.out]
    have hb4 := hid (new_trans hb3.out hb)
    have hq4 := hid (hq3.out.below hb hq3.out.lt)
    clear hb hb3 hq3
    have x4 := hq4.out.cell
    go_wp2
    go_ret
    exact ⟨rfl, hb4.out⟩
  · skip
    have e : textB k A B N = kdW k ++ (spB ++ digB A) ++ (spB ++ digB B) := by unfold textB; rw [m1, m2, m3]; simp [app_nil]
    rw [e]
    clear e m1 m2 m3
    replace g1 := hid g1
    replace g2 := hid g2
    replace g3 := hid g3
    rw [hWD.out, hDA.out, hDB.out]
    go_enter Tryd.func40, Tryd.ntmps40
    go_upto_region 3 with fail
    refine wp_region_held_drew (S := (fun w' => w'.cell? ⟨w.heap.size, 0, none⟩ = some (.int .i64 (k : Int)) ∧ w'.cell? ⟨w.heap.size, 1, none⟩ = some (.int .i64 (A : Int)) ∧ w'.cell? ⟨w.heap.size, 2, none⟩ = some (.int .i64 (B : Int)) ∧ w'.cell? ⟨w.heap.size, 3, none⟩ = some (.int .i64 (N : Int)) ∧ Hid (Below w.heap.size w w'))) (by kernel_rfl) ⟨c0, c1, c2, c3, hbd⟩ (fun hHeld => ?_)
    refine wpAnyH_take (i := 1) (oi := ({ dst := some 12, op := Op.fieldAddr 24 (Operand.tmp 1) 0, type := 0, pos := "l05_code.go:98", after := #[], guard := none } : Oper)) (v := ?_) rfl (by kernel_rfl) (by kernel_rfl) (by kernel_rfl) (fun _ _ _ h => h) (Or.inl ⟨by rfl, ?_⟩) (by assumption) ?_
    rotate_left
    · intro w hSw
      (try dsimp only at hSw)
      go_simp
      (try with_reducible rfl)
    (try simp only [Act.put, List.setIfInBounds_toArray, List.set_cons_zero, List.set_cons_succ])
    refine wpAnyH_take (i := 2) (oi := ({ dst := some 13, op := Op.load 3 (Operand.tmp 12), type := 3, pos := "l05_code.go:98", after := #[{ on := 1, ground := Ground.data }], guard := none } : Oper)) (v := ?_) rfl (by kernel_rfl) (by kernel_rfl) (by kernel_rfl) (fun _ _ _ h => h) (Or.inl ⟨by rfl, ?_⟩) (by assumption) ?_
    rotate_left
    · intro w hSw
      (try dsimp only at hSw)
      go_simp
      (try with_reducible rfl)
    (try simp only [Act.put, List.setIfInBounds_toArray, List.set_cons_zero, List.set_cons_succ])
    refine wpAnyH_ready (rs := [0]) (by kernel_rfl) (by simp) ?_
    refine AllReadyH.cons (o := ({ dst := some 11, op := Op.call { callee := Callee.value (Operand.func 65), args := #[], argTypes := #[] }, type := 37, pos := "l05_code.go:98", after := #[], guard := none } : Oper)) rfl (fun K hK => ?_) AllReadyH.nil
    go_simp
    go_at_call 65
    refine (words_spec _).mono ?_
    rintro e v1 ⟨⟨g, rfl, hw⟩, hb⟩
    have xw := hw k hk
    rw [hWD.out] at xw
    have hb1 := hid (new_trans hbd.out hb)
    have hq1 := hid (Blk.below hqd.out hb hqd.out.lt)
    clear hb hw
    have d0 : v1.cell? ⟨w.heap.size, 0, none⟩ = some (.int .i64 (k : Int)) := hq1.out.cell 0
    have d1 : v1.cell? ⟨w.heap.size, 1, none⟩ = some (.int .i64 (A : Int)) := hq1.out.cell 1
    have d2 : v1.cell? ⟨w.heap.size, 2, none⟩ = some (.int .i64 (B : Int)) := hq1.out.cell 2
    have d3 : v1.cell? ⟨w.heap.size, 3, none⟩ = some (.int .i64 (N : Int)) := hq1.out.cell 3
    go_wp2_with fail
    refine hK.out _ _ ⟨d0, d1, d2, d3, hb1⟩ (fun hHeld => ?_)
    clear hK K
    (try simp only [Act.put, List.setIfInBounds_toArray, List.set_cons_zero, List.set_cons_succ])
    refine wpAnyH_take (i := 3) (oi := ({ dst := some 14, op := Op.indexAddr 37 (Operand.tmp 11) (Operand.tmp 13), type := 0, pos := "l05_code.go:98", after := #[{ on := 0, ground := Ground.data }, { on := 2, ground := Ground.data }], guard := none } : Oper)) (v := ?_) rfl (by kernel_rfl) (by kernel_rfl) (by kernel_rfl) (fun _ _ _ h => h) (Or.inl ⟨by rfl, ?_⟩) (by assumption) ?_
    rotate_left
    · intro w hSw
      (try dsimp only at hSw)
      go_simp
      (try with_reducible rfl)
    (try simp only [Act.put, List.setIfInBounds_toArray, List.set_cons_zero, List.set_cons_succ])
    refine wpAnyH_ready (rs := [4]) (by kernel_rfl) (by simp) ?_
    refine AllReadyH.cons (o := ({ dst := some 15, op := Op.load 9 (Operand.tmp 14), type := 9, pos := "l05_code.go:98", after := #[{ on := 3, ground := Ground.data }], guard := none } : Oper)) rfl (fun K hK => ?_) AllReadyH.nil
    go_simp
    go_wp2_with fail
    refine hK.out _ _ ⟨d0, d1, d2, d3, hb1⟩ (fun hHeld => ?_)
    clear hK K
    (try simp only [Act.put, List.setIfInBounds_toArray, List.set_cons_zero, List.set_cons_succ])
    refine wpAnyH_take (i := 5) (oi := ({ dst := some 3, op := Op.assign (Operand.tmp 15), type := 9, pos := "l05_code.go:98", after := #[{ on := 4, ground := Ground.data }, { on := 0, ground := Ground.chain }, { on := 0, ground := Ground.phase }, { on := 1, ground := Ground.phase }, { on := 2, ground := Ground.phase }, { on := 3, ground := Ground.phase }, { on := 4, ground := Ground.phase }], guard := none } : Oper)) (v := ?_) rfl (by kernel_rfl) (by kernel_rfl) (by kernel_rfl) (fun _ _ _ h => h) (Or.inl ⟨by rfl, ?_⟩) (by assumption) ?_
    rotate_left
    · intro w hSw
      (try dsimp only at hSw)
      go_simp
      (try with_reducible rfl)
    (try simp only [Act.put, List.setIfInBounds_toArray, List.set_cons_zero, List.set_cons_succ])
    refine wpAnyH_done (by kernel_rfl) ?_ _
    clear xw
    go_wp2_with fail
    clear d0 d1 d2 d3
    refine (has_spec k 65 _ hk).mono ?_
    rintro e v2 ⟨rfl, hb⟩
    rw [g1.out]
    have hb2 := hid (new_trans hb1.out hb)
    have hq2 := hid (hq1.out.below hb hq1.out.lt)
    clear hb hb1 hq1
    have x2 := hq2.out.cell
    go_wp2_with fail
    clear x2
    refine (digits_spec A _ (by omega)).mono ?_
    rintro e v3 ⟨rfl, hb⟩
    rw [hDA.out]
    have hb3 := hid (new_trans hb2.out hb)
    have hq3 := hid (hq2.out.below hb hq2.out.lt)
    clear hb hb2 hq2
    have x3 := hq3.out.cell
    go_wp2_with fail
    clear x3
    refine (has_spec k 66 _ hk).mono ?_
    rintro e v4 ⟨rfl, hb⟩
    rw [g2.out]
    have hb4 := hid (new_trans hb3.out hb)
    have hq4 := hid (hq3.out.below hb hq3.out.lt)
    clear hb hb3 hq3
    have x4 := hq4.out.cell
    go_wp2_with fail
    clear x4
    refine (digits_spec B _ (by omega)).mono ?_
    rintro e v5 ⟨rfl, hb⟩
    rw [hDB.out]
    have hb5 := hid (new_trans hb4.out hb)
    have hq5 := hid (hq4.out.below hb hq4.out.lt)
    clear hb hb4 hq4
    have x5 := hq5.out.cell
    go_wp2_with fail
    clear x5
    refine (has_spec k 78 _ hk).mono ?_
    rintro e v6 ⟨rfl, hb⟩
    rw [g3.out]
    have hb6 := hid (new_trans hb5.out hb)
    have hq6 := hid (hq5.out.below hb hq5.out.lt)
    clear hb hb5 hq5
    have x6 := hq6.out.cell
    go_wp2
    go_ret
    exact ⟨rfl, hb6.out⟩
  · skip
    have e : textB k A B N = kdW k ++ (spB ++ digB A) ++ (spB ++ digB N) := by unfold textB; rw [m1, m2, m3]; simp [app_nil]
    rw [e]
    clear e m1 m2 m3
    replace g1 := hid g1
    replace g2 := hid g2
    replace g3 := hid g3
    rw [hWD.out, hDA.out, hDN.out]
    go_enter Tryd.func40, Tryd.ntmps40
    go_upto_region 3 with fail
    refine wp_region_held_drew (S := (fun w' => w'.cell? ⟨w.heap.size, 0, none⟩ = some (.int .i64 (k : Int)) ∧ w'.cell? ⟨w.heap.size, 1, none⟩ = some (.int .i64 (A : Int)) ∧ w'.cell? ⟨w.heap.size, 2, none⟩ = some (.int .i64 (B : Int)) ∧ w'.cell? ⟨w.heap.size, 3, none⟩ = some (.int .i64 (N : Int)) ∧ Hid (Below w.heap.size w w'))) (by kernel_rfl) ⟨c0, c1, c2, c3, hbd⟩ (fun hHeld => ?_)
    refine wpAnyH_take (i := 1) (oi := ({ dst := some 12, op := Op.fieldAddr 24 (Operand.tmp 1) 0, type := 0, pos := "l05_code.go:98", after := #[], guard := none } : Oper)) (v := ?_) rfl (by kernel_rfl) (by kernel_rfl) (by kernel_rfl) (fun _ _ _ h => h) (Or.inl ⟨by rfl, ?_⟩) (by assumption) ?_
    rotate_left
    · intro w hSw
      (try dsimp only at hSw)
      go_simp
      (try with_reducible rfl)
    (try simp only [Act.put, List.setIfInBounds_toArray, List.set_cons_zero, List.set_cons_succ])
    refine wpAnyH_take (i := 2) (oi := ({ dst := some 13, op := Op.load 3 (Operand.tmp 12), type := 3, pos := "l05_code.go:98", after := #[{ on := 1, ground := Ground.data }], guard := none } : Oper)) (v := ?_) rfl (by kernel_rfl) (by kernel_rfl) (by kernel_rfl) (fun _ _ _ h => h) (Or.inl ⟨by rfl, ?_⟩) (by assumption) ?_
    rotate_left
    · intro w hSw
      (try dsimp only at hSw)
      go_simp
      (try with_reducible rfl)
    (try simp only [Act.put, List.setIfInBounds_toArray, List.set_cons_zero, List.set_cons_succ])
    refine wpAnyH_ready (rs := [0]) (by kernel_rfl) (by simp) ?_
    refine AllReadyH.cons (o := ({ dst := some 11, op := Op.call { callee := Callee.value (Operand.func 65), args := #[], argTypes := #[] }, type := 37, pos := "l05_code.go:98", after := #[], guard := none } : Oper)) rfl (fun K hK => ?_) AllReadyH.nil
    go_simp
    go_at_call 65
    refine (words_spec _).mono ?_
    rintro e v1 ⟨⟨g, rfl, hw⟩, hb⟩
    have xw := hw k hk
    rw [hWD.out] at xw
    have hb1 := hid (new_trans hbd.out hb)
    have hq1 := hid (Blk.below hqd.out hb hqd.out.lt)
    clear hb hw
    have d0 : v1.cell? ⟨w.heap.size, 0, none⟩ = some (.int .i64 (k : Int)) := hq1.out.cell 0
    have d1 : v1.cell? ⟨w.heap.size, 1, none⟩ = some (.int .i64 (A : Int)) := hq1.out.cell 1
    have d2 : v1.cell? ⟨w.heap.size, 2, none⟩ = some (.int .i64 (B : Int)) := hq1.out.cell 2
    have d3 : v1.cell? ⟨w.heap.size, 3, none⟩ = some (.int .i64 (N : Int)) := hq1.out.cell 3
    go_wp2_with fail
    refine hK.out _ _ ⟨d0, d1, d2, d3, hb1⟩ (fun hHeld => ?_)
    clear hK K
    (try simp only [Act.put, List.setIfInBounds_toArray, List.set_cons_zero, List.set_cons_succ])
    refine wpAnyH_take (i := 3) (oi := ({ dst := some 14, op := Op.indexAddr 37 (Operand.tmp 11) (Operand.tmp 13), type := 0, pos := "l05_code.go:98", after := #[{ on := 0, ground := Ground.data }, { on := 2, ground := Ground.data }], guard := none } : Oper)) (v := ?_) rfl (by kernel_rfl) (by kernel_rfl) (by kernel_rfl) (fun _ _ _ h => h) (Or.inl ⟨by rfl, ?_⟩) (by assumption) ?_
    rotate_left
    · intro w hSw
      (try dsimp only at hSw)
      go_simp
      (try with_reducible rfl)
    (try simp only [Act.put, List.setIfInBounds_toArray, List.set_cons_zero, List.set_cons_succ])
    refine wpAnyH_ready (rs := [4]) (by kernel_rfl) (by simp) ?_
    refine AllReadyH.cons (o := ({ dst := some 15, op := Op.load 9 (Operand.tmp 14), type := 9, pos := "l05_code.go:98", after := #[{ on := 3, ground := Ground.data }], guard := none } : Oper)) rfl (fun K hK => ?_) AllReadyH.nil
    go_simp
    go_wp2_with fail
    refine hK.out _ _ ⟨d0, d1, d2, d3, hb1⟩ (fun hHeld => ?_)
    clear hK K
    (try simp only [Act.put, List.setIfInBounds_toArray, List.set_cons_zero, List.set_cons_succ])
    refine wpAnyH_take (i := 5) (oi := ({ dst := some 3, op := Op.assign (Operand.tmp 15), type := 9, pos := "l05_code.go:98", after := #[{ on := 4, ground := Ground.data }, { on := 0, ground := Ground.chain }, { on := 0, ground := Ground.phase }, { on := 1, ground := Ground.phase }, { on := 2, ground := Ground.phase }, { on := 3, ground := Ground.phase }, { on := 4, ground := Ground.phase }], guard := none } : Oper)) (v := ?_) rfl (by kernel_rfl) (by kernel_rfl) (by kernel_rfl) (fun _ _ _ h => h) (Or.inl ⟨by rfl, ?_⟩) (by assumption) ?_
    rotate_left
    · intro w hSw
      (try dsimp only at hSw)
      go_simp
      (try with_reducible rfl)
    (try simp only [Act.put, List.setIfInBounds_toArray, List.set_cons_zero, List.set_cons_succ])
    refine wpAnyH_done (by kernel_rfl) ?_ _
    clear xw
    go_wp2_with fail
    clear d0 d1 d2 d3
    refine (has_spec k 65 _ hk).mono ?_
    rintro e v2 ⟨rfl, hb⟩
    rw [g1.out]
    have hb2 := hid (new_trans hb1.out hb)
    have hq2 := hid (hq1.out.below hb hq1.out.lt)
    clear hb hb1 hq1
    have x2 := hq2.out.cell
    go_wp2_with fail
    clear x2
    refine (digits_spec A _ (by omega)).mono ?_
    rintro e v3 ⟨rfl, hb⟩
    rw [hDA.out]
    have hb3 := hid (new_trans hb2.out hb)
    have hq3 := hid (hq2.out.below hb hq2.out.lt)
    clear hb hb2 hq2
    have x3 := hq3.out.cell
    go_wp2_with fail
    clear x3
    refine (has_spec k 66 _ hk).mono ?_
    rintro e v4 ⟨rfl, hb⟩
    rw [g2.out]
    have hb4 := hid (new_trans hb3.out hb)
    have hq4 := hid (hq3.out.below hb hq3.out.lt)
    clear hb hb3 hq3
    have x4 := hq4.out.cell
    go_wp2_with fail
    clear x4
    refine (has_spec k 78 _ hk).mono ?_
    rintro e v5 ⟨rfl, hb⟩
    rw [g3.out]
    have hb5 := hid (new_trans hb4.out hb)
    have hq5 := hid (hq4.out.below hb hq4.out.lt)
    clear hb hb4 hq4
    have x5 := hq5.out.cell
    go_wp2_with fail
    clear x5
    refine (digits_spec N _ (by omega)).mono ?_
    rintro e v6 ⟨rfl, hb⟩
    rw [hDN.out]
    have hb6 := hid (new_trans hb5.out hb)
    have hq6 := hid (hq5.out.below hb hq5.out.lt)
    clear hb hb5 hq5
    have x6 := hq6.out.cell
    go_wp2
    go_ret
    exact ⟨rfl, hb6.out⟩
  · skip
    have e : textB k A B N = kdW k ++ (spB ++ digB N) := by unfold textB; rw [m1, m2, m3]; simp [app_nil]
    rw [e]
    clear e m1 m2 m3
    replace g1 := hid g1
    replace g2 := hid g2
    replace g3 := hid g3
    rw [hWD.out, hDN.out]
    go_enter Tryd.func40, Tryd.ntmps40
    go_upto_region 3 with fail
    refine wp_region_held_drew (S := (fun w' => w'.cell? ⟨w.heap.size, 0, none⟩ = some (.int .i64 (k : Int)) ∧ w'.cell? ⟨w.heap.size, 1, none⟩ = some (.int .i64 (A : Int)) ∧ w'.cell? ⟨w.heap.size, 2, none⟩ = some (.int .i64 (B : Int)) ∧ w'.cell? ⟨w.heap.size, 3, none⟩ = some (.int .i64 (N : Int)) ∧ Hid (Below w.heap.size w w'))) (by kernel_rfl) ⟨c0, c1, c2, c3, hbd⟩ (fun hHeld => ?_)
    refine wpAnyH_take (i := 1) (oi := ({ dst := some 12, op := Op.fieldAddr 24 (Operand.tmp 1) 0, type := 0, pos := "l05_code.go:98", after := #[], guard := none } : Oper)) (v := ?_) rfl (by kernel_rfl) (by kernel_rfl) (by kernel_rfl) (fun _ _ _ h => h) (Or.inl ⟨by rfl, ?_⟩) (by assumption) ?_
    rotate_left
    · intro w hSw
      (try dsimp only at hSw)
      go_simp
      (try with_reducible rfl)
    (try simp only [Act.put, List.setIfInBounds_toArray, List.set_cons_zero, List.set_cons_succ])
    refine wpAnyH_take (i := 2) (oi := ({ dst := some 13, op := Op.load 3 (Operand.tmp 12), type := 3, pos := "l05_code.go:98", after := #[{ on := 1, ground := Ground.data }], guard := none } : Oper)) (v := ?_) rfl (by kernel_rfl) (by kernel_rfl) (by kernel_rfl) (fun _ _ _ h => h) (Or.inl ⟨by rfl, ?_⟩) (by assumption) ?_
    rotate_left
    · intro w hSw
      (try dsimp only at hSw)
      go_simp
      (try with_reducible rfl)
    (try simp only [Act.put, List.setIfInBounds_toArray, List.set_cons_zero, List.set_cons_succ])
    refine wpAnyH_ready (rs := [0]) (by kernel_rfl) (by simp) ?_
    refine AllReadyH.cons (o := ({ dst := some 11, op := Op.call { callee := Callee.value (Operand.func 65), args := #[], argTypes := #[] }, type := 37, pos := "l05_code.go:98", after := #[], guard := none } : Oper)) rfl (fun K hK => ?_) AllReadyH.nil
    go_simp
    go_at_call 65
    refine (words_spec _).mono ?_
    rintro e v1 ⟨⟨g, rfl, hw⟩, hb⟩
    have xw := hw k hk
    rw [hWD.out] at xw
    have hb1 := hid (new_trans hbd.out hb)
    have hq1 := hid (Blk.below hqd.out hb hqd.out.lt)
    clear hb hw
    have d0 : v1.cell? ⟨w.heap.size, 0, none⟩ = some (.int .i64 (k : Int)) := hq1.out.cell 0
    have d1 : v1.cell? ⟨w.heap.size, 1, none⟩ = some (.int .i64 (A : Int)) := hq1.out.cell 1
    have d2 : v1.cell? ⟨w.heap.size, 2, none⟩ = some (.int .i64 (B : Int)) := hq1.out.cell 2
    have d3 : v1.cell? ⟨w.heap.size, 3, none⟩ = some (.int .i64 (N : Int)) := hq1.out.cell 3
    go_wp2_with fail
    refine hK.out _ _ ⟨d0, d1, d2, d3, hb1⟩ (fun hHeld => ?_)
    clear hK K
    (try simp only [Act.put, List.setIfInBounds_toArray, List.set_cons_zero, List.set_cons_succ])
    refine wpAnyH_take (i := 3) (oi := ({ dst := some 14, op := Op.indexAddr 37 (Operand.tmp 11) (Operand.tmp 13), type := 0, pos := "l05_code.go:98", after := #[{ on := 0, ground := Ground.data }, { on := 2, ground := Ground.data }], guard := none } : Oper)) (v := ?_) rfl (by kernel_rfl) (by kernel_rfl) (by kernel_rfl) (fun _ _ _ h => h) (Or.inl ⟨by rfl, ?_⟩) (by assumption) ?_
    rotate_left
    · intro w hSw
      (try dsimp only at hSw)
      go_simp
      (try with_reducible rfl)
    (try simp only [Act.put, List.setIfInBounds_toArray, List.set_cons_zero, List.set_cons_succ])
    refine wpAnyH_ready (rs := [4]) (by kernel_rfl) (by simp) ?_
    refine AllReadyH.cons (o := ({ dst := some 15, op := Op.load 9 (Operand.tmp 14), type := 9, pos := "l05_code.go:98", after := #[{ on := 3, ground := Ground.data }], guard := none } : Oper)) rfl (fun K hK => ?_) AllReadyH.nil
    go_simp
    go_wp2_with fail
    refine hK.out _ _ ⟨d0, d1, d2, d3, hb1⟩ (fun hHeld => ?_)
    clear hK K
    (try simp only [Act.put, List.setIfInBounds_toArray, List.set_cons_zero, List.set_cons_succ])
    refine wpAnyH_take (i := 5) (oi := ({ dst := some 3, op := Op.assign (Operand.tmp 15), type := 9, pos := "l05_code.go:98", after := #[{ on := 4, ground := Ground.data }, { on := 0, ground := Ground.chain }, { on := 0, ground := Ground.phase }, { on := 1, ground := Ground.phase }, { on := 2, ground := Ground.phase }, { on := 3, ground := Ground.phase }, { on := 4, ground := Ground.phase }], guard := none } : Oper)) (v := ?_) rfl (by kernel_rfl) (by kernel_rfl) (by kernel_rfl) (fun _ _ _ h => h) (Or.inl ⟨by rfl, ?_⟩) (by assumption) ?_
    rotate_left
    · intro w hSw
      (try dsimp only at hSw)
      go_simp
      (try with_reducible rfl)
    (try simp only [Act.put, List.setIfInBounds_toArray, List.set_cons_zero, List.set_cons_succ])
    refine wpAnyH_done (by kernel_rfl) ?_ _
    clear xw
    go_wp2_with fail
    clear d0 d1 d2 d3
    refine (has_spec k 65 _ hk).mono ?_
    rintro e v2 ⟨rfl, hb⟩
    rw [g1.out]
    have hb2 := hid (new_trans hb1.out hb)
    have hq2 := hid (hq1.out.below hb hq1.out.lt)
    clear hb hb1 hq1
    have x2 := hq2.out.cell
    go_wp2_with fail
    clear x2
    refine (has_spec k 66 _ hk).mono ?_
    rintro e v3 ⟨rfl, hb⟩
    rw [g2.out]
    have hb3 := hid (new_trans hb2.out hb)
    have hq3 := hid (hq2.out.below hb hq2.out.lt)
    clear hb hb2 hq2
    have x3 := hq3.out.cell
    go_wp2_with fail
    clear x3
    refine (has_spec k 78 _ hk).mono ?_
    rintro e v4 ⟨rfl, hb⟩
    rw [g3.out]
    have hb4 := hid (new_trans hb3.out hb)
    have hq4 := hid (hq3.out.below hb hq3.out.lt)
    clear hb hb3 hq3
    have x4 := hq4.out.cell
    go_wp2_with fail
    clear x4
    refine (digits_spec N _ (by omega)).mono ?_
    rintro e v5 ⟨rfl, hb⟩
    rw [hDN.out]
    have hb5 := hid (new_trans hb4.out hb)
    have hq5 := hid (hq4.out.below hb hq4.out.lt)
    clear hb hb4 hq4
    have x5 := hq5.out.cell
    go_wp2
    go_ret
    exact ⟨rfl, hb5.out⟩
  · skip
    have e : textB k A B N = kdW k ++ (spB ++ digB A) := by unfold textB; rw [m1, m2, m3]; simp [app_nil]
    rw [e]
    clear e m1 m2 m3
    replace g1 := hid g1
    replace g2 := hid g2
    replace g3 := hid g3
    rw [hWD.out, hDA.out]
    go_enter Tryd.func40, Tryd.ntmps40
    go_upto_region 3 with fail
    refine wp_region_held_drew (S := (fun w' => w'.cell? ⟨w.heap.size, 0, none⟩ = some (.int .i64 (k : Int)) ∧ w'.cell? ⟨w.heap.size, 1, none⟩ = some (.int .i64 (A : Int)) ∧ w'.cell? ⟨w.heap.size, 2, none⟩ = some (.int .i64 (B : Int)) ∧ w'.cell? ⟨w.heap.size, 3, none⟩ = some (.int .i64 (N : Int)) ∧ Hid (Below w.heap.size w w'))) (by kernel_rfl) ⟨c0, c1, c2, c3, hbd⟩ (fun hHeld => ?_)
    refine wpAnyH_take (i := 1) (oi := ({ dst := some 12, op := Op.fieldAddr 24 (Operand.tmp 1) 0, type := 0, pos := "l05_code.go:98", after := #[], guard := none } : Oper)) (v := ?_) rfl (by kernel_rfl) (by kernel_rfl) (by kernel_rfl) (fun _ _ _ h => h) (Or.inl ⟨by rfl, ?_⟩) (by assumption) ?_
    rotate_left
    · intro w hSw
      (try dsimp only at hSw)
      go_simp
      (try with_reducible rfl)
    (try simp only [Act.put, List.setIfInBounds_toArray, List.set_cons_zero, List.set_cons_succ])
    refine wpAnyH_take (i := 2) (oi := ({ dst := some 13, op := Op.load 3 (Operand.tmp 12), type := 3, pos := "l05_code.go:98", after := #[{ on := 1, ground := Ground.data }], guard := none } : Oper)) (v := ?_) rfl (by kernel_rfl) (by kernel_rfl) (by kernel_rfl) (fun _ _ _ h => h) (Or.inl ⟨by rfl, ?_⟩) (by assumption) ?_
    rotate_left
    · intro w hSw
      (try dsimp only at hSw)
      go_simp
      (try with_reducible rfl)
    (try simp only [Act.put, List.setIfInBounds_toArray, List.set_cons_zero, List.set_cons_succ])
    refine wpAnyH_ready (rs := [0]) (by kernel_rfl) (by simp) ?_
    refine AllReadyH.cons (o := ({ dst := some 11, op := Op.call { callee := Callee.value (Operand.func 65), args := #[], argTypes := #[] }, type := 37, pos := "l05_code.go:98", after := #[], guard := none } : Oper)) rfl (fun K hK => ?_) AllReadyH.nil
    go_simp
    go_at_call 65
    refine (words_spec _).mono ?_
    rintro e v1 ⟨⟨g, rfl, hw⟩, hb⟩
    have xw := hw k hk
    rw [hWD.out] at xw
    have hb1 := hid (new_trans hbd.out hb)
    have hq1 := hid (Blk.below hqd.out hb hqd.out.lt)
    clear hb hw
    have d0 : v1.cell? ⟨w.heap.size, 0, none⟩ = some (.int .i64 (k : Int)) := hq1.out.cell 0
    have d1 : v1.cell? ⟨w.heap.size, 1, none⟩ = some (.int .i64 (A : Int)) := hq1.out.cell 1
    have d2 : v1.cell? ⟨w.heap.size, 2, none⟩ = some (.int .i64 (B : Int)) := hq1.out.cell 2
    have d3 : v1.cell? ⟨w.heap.size, 3, none⟩ = some (.int .i64 (N : Int)) := hq1.out.cell 3
    go_wp2_with fail
    refine hK.out _ _ ⟨d0, d1, d2, d3, hb1⟩ (fun hHeld => ?_)
    clear hK K
    (try simp only [Act.put, List.setIfInBounds_toArray, List.set_cons_zero, List.set_cons_succ])
    refine wpAnyH_take (i := 3) (oi := ({ dst := some 14, op := Op.indexAddr 37 (Operand.tmp 11) (Operand.tmp 13), type := 0, pos := "l05_code.go:98", after := #[{ on := 0, ground := Ground.data }, { on := 2, ground := Ground.data }], guard := none } : Oper)) (v := ?_) rfl (by kernel_rfl) (by kernel_rfl) (by kernel_rfl) (fun _ _ _ h => h) (Or.inl ⟨by rfl, ?_⟩) (by assumption) ?_
    rotate_left
    · intro w hSw
      (try dsimp only at hSw)
      go_simp
      (try with_reducible rfl)
    (try simp only [Act.put, List.setIfInBounds_toArray, List.set_cons_zero, List.set_cons_succ])
    refine wpAnyH_ready (rs := [4]) (by kernel_rfl) (by simp) ?_
    refine AllReadyH.cons (o := ({ dst := some 15, op := Op.load 9 (Operand.tmp 14), type := 9, pos := "l05_code.go:98", after := #[{ on := 3, ground := Ground.data }], guard := none } : Oper)) rfl (fun K hK => ?_) AllReadyH.nil
    go_simp
    go_wp2_with fail
    refine hK.out _ _ ⟨d0, d1, d2, d3, hb1⟩ (fun hHeld => ?_)
    clear hK K
    (try simp only [Act.put, List.setIfInBounds_toArray, List.set_cons_zero, List.set_cons_succ])
    refine wpAnyH_take (i := 5) (oi := ({ dst := some 3, op := Op.assign (Operand.tmp 15), type := 9, pos := "l05_code.go:98", after := #[{ on := 4, ground := Ground.data }, { on := 0, ground := Ground.chain }, { on := 0, ground := Ground.phase }, { on := 1, ground := Ground.phase }, { on := 2, ground := Ground.phase }, { on := 3, ground := Ground.phase }, { on := 4, ground := Ground.phase }], guard := none } : Oper)) (v := ?_) rfl (by kernel_rfl) (by kernel_rfl) (by kernel_rfl) (fun _ _ _ h => h) (Or.inl ⟨by rfl, ?_⟩) (by assumption) ?_
    rotate_left
    · intro w hSw
      (try dsimp only at hSw)
      go_simp
      (try with_reducible rfl)
    (try simp only [Act.put, List.setIfInBounds_toArray, List.set_cons_zero, List.set_cons_succ])
    refine wpAnyH_done (by kernel_rfl) ?_ _
    clear xw
    go_wp2_with fail
    clear d0 d1 d2 d3
    refine (has_spec k 65 _ hk).mono ?_
    rintro e v2 ⟨rfl, hb⟩
    rw [g1.out]
    have hb2 := hid (new_trans hb1.out hb)
    have hq2 := hid (hq1.out.below hb hq1.out.lt)
    clear hb hb1 hq1
    have x2 := hq2.out.cell
    go_wp2_with fail
    clear x2
    refine (digits_spec A _ (by omega)).mono ?_
    rintro e v3 ⟨rfl, hb⟩
    rw [hDA.out]
    have hb3 := hid (new_trans hb2.out hb)
    have hq3 := hid (hq2.out.below hb hq2.out.lt)
    clear hb hb2 hq2
    have x3 := hq3.out.cell
    go_wp2_with fail
    clear x3
    refine (has_spec k 66 _ hk).mono ?_
    rintro e v4 ⟨rfl, hb⟩
    rw [g2.out]
    have hb4 := hid (new_trans hb3.out hb)
    have hq4 := hid (hq3.out.below hb hq3.out.lt)
    clear hb hb3 hq3
    have x4 := hq4.out.cell
    go_wp2_with fail
    clear x4
    refine (has_spec k 78 _ hk).mono ?_
    rintro e v5 ⟨rfl, hb⟩
    rw [g3.out]
    have hb5 := hid (new_trans hb4.out hb)
    have hq5 := hid (hq4.out.below hb hq4.out.lt)
    clear hb hb4 hq4
    have x5 := hq5.out.cell
    go_wp2
    go_ret
    exact ⟨rfl, hb5.out⟩
end Go.Proofs.YtneagomkohoceaaDoor
