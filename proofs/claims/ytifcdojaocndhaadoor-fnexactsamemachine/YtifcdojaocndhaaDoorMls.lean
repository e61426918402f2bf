/- What the specification answers whether two memories are alike. -/
import Derived.Test.YtifcdojaocndhaaDoorS14
import Derived.Test.YtifcdojaocndhaaDoorS00
namespace Go.Proofs.YtifcdojaocndhaaDoor
open Go.ChangeShapes Go.WideShapes Go.ChangeAt Go.RowKit
set_option linter.unusedVariables false

/-- both are right, and alike -/
def sameM (A B : Mem) : Bool := okM A && okM B && decide (A.page = B.page) && decide (A.screen = B.screen) && (A.locked == B.locked) && decide (A.rom = B.rom) && decide (A.ram = B.ram)
theorem sameM_no {A B : Mem} (h : okM A = false ∨ okM B = false ∨ ¬ A.page = B.page ∨ ¬ A.screen = B.screen ∨ (A.locked == B.locked) = false ∨ ¬ A.rom = B.rom ∨ ¬ A.ram = B.ram) : sameM A B = false := by
  unfold sameM
  rcases h with h | h | h | h | h | h | h <;> simp [h]
theorem sameM_yes {A B : Mem} (h1 : okM A = true) (h2 : okM B = true) (h3 : A.page = B.page) (h4 : A.screen = B.screen) (h5 : (A.locked == B.locked) = true) (h6 : A.rom = B.rom) (h7 : A.ram = B.ram) : sameM A B = true := by
  unfold sameM
  rw [h1, h2, h5]
  simp [h3, h4, h6, h7]
theorem sameM_eq {A B : Mem} (h : sameM A B = true) : A = B ∧ okM A = true := by
  unfold sameM at h
  simp only [Bool.and_eq_true, decide_eq_true_eq, beq_iff_eq] at h
  obtain ⟨⟨⟨⟨⟨⟨h1, h2⟩, h3⟩, h4⟩, h5⟩, h6⟩, h7⟩ := h
  refine ⟨?_, h1⟩
  cases A
  cases B
  simp_all
set_option maxRecDepth 100000 in
theorem same0_spec (v v' : Value) (za zb : List Int) (w : World) (h : RowR w v za) (h' : RowR w v' zb) (hl : za.length ≤ 1000000000) (hl' : zb.length ≤ 1000000000) :
    Calls Tryd.prog 126 #[v, v'] w fun e w' => e = .returned (.bool (decide (za = zb))) ∧ ∃ n, w' = w.drewN n := by
  obtain ⟨a, cap, rfl, h⟩ := h
  obtain ⟨a', cap', rfl, h'⟩ := h'
  replace h := hid h
  replace h' := hid h'
  by_cases hne : za.length = zb.length
  · have hN : Hid (∀ k, k < za.length → ¬ za.getD k 0 = zb.getD k 0 → decide (za = zb) = false) := fun k hk hn => by
      apply decide_eq_false
      intro e
      exact hn (by rw [e])
    have hY : Hid ((∀ j, j < za.length → za.getD j 0 = zb.getD j 0) → decide (za = zb) = true) := fun hj => decide_eq_true (getD_ext hne hj)
    have hln := hid hne
    rw [← hne] at hl' ⊢
    clear hne
    go_enter Tryd.func126, Tryd.ntmps126
    go_wp2
    go_loopw [5] (fun i wr => ∃ k : Nat, k ≤ za.length ∧ i = .int .i64 k ∧ (∃ n, wr = w.drewN n) ∧ ∀ j, j < k → za.getD j 0 = zb.getD j 0) (fun i _ => za.length - (intOf i).toNat)
    case atStart => exact ⟨0, by omega, rfl, ⟨0, rfl⟩, fun j hj => by omega⟩
    case round =>
      obtain ⟨k, hk, rfl, ⟨n, rfl⟩, hj⟩ := hrel
      by_cases hlt : k < za.length
      · obtain ⟨b, off, rfl, c1⟩ := row_some h.out hlt
        obtain ⟨b', off', rfl, c2⟩ := row_some h'.out (k := k) (by rw [← hln.out]; exact hlt)
        by_cases he : za.getD k 0 = zb.getD k 0
        · have hj2 : Hid (∀ j, j < k + 1 → za.getD j 0 = zb.getD j 0) := fun j hj1 => by
            by_cases e : j = k
            · rw [e]; exact he
            · exact hj j (by omega)
          rw [← he] at c2
          clear h h' hj hN hY he
          generalize za.getD k 0 = z at *
          go_wp2
          go_region
          go_wp2
          go_roundw
          case rel => exact ⟨k + 1, by omega, by go_num, ⟨n + 1, rfl⟩, hj2.out⟩
          case measure => simp [intOf]; omega
        · have hE := hid (hN.out k hlt he)
          have he2 : (za.getD k 0 != zb.getD k 0) = true := by simpa using he
          clear h h' hj hN hY he
          generalize za.getD k 0 = z at *
          generalize zb.getD k 0 = z' at *
          go_wp2
          go_region
          go_wp2
          go_ret
          exact ⟨ret_bool hE.out.symm, n + 1, rfl⟩
      · obtain rfl : k = za.length := by omega
        have hE := hid (hY.out hj)
        clear hj hN hY
        go_wp2
        go_ret
        exact ⟨ret_bool hE.out.symm, n, rfl⟩
  · have e : decide (za = zb) = false := decide_eq_false (fun e => hne (by rw [e]))
    have hne2 : ((za.length : Int) != (zb.length : Int)) = true := by simp; omega
    rw [e]
    clear e hne
    go_enter Tryd.func126, Tryd.ntmps126
    go_wp2
    go_ret
    exact ⟨rfl, 0, rfl⟩
set_option maxRecDepth 100000 in
set_option maxHeartbeats 1000000 in
theorem same_spec (v v' : Value) (A B : Mem) (w : World) (h : MemR w v A) (h' : MemR w v' B) (hf : Fit A) (hf' : Fit B) :
    Calls Tryd.prog 70 #[v, v'] w fun e w' => e = .returned (.bool (sameM A B)) ∧ Below w.heap.size w w' := by
  obtain ⟨a1, p1, a2, p2, rfl, r1, r2⟩ := h.form
  obtain ⟨a3, p3, a4, p4, rfl, r3, r4⟩ := h'.form
  have hB : Hid (∀ o o', Below w.heap.size w ((w.alloc o).alloc o')) := fun o o' => ((Below.refl _ _).alloc (Nat.le_refl _) _).alloc (by simp) _
  have hMA : Hid (∀ W', Below w.heap.size w W' → MemR W' (memV (.slice a1 A.rom.length p1) (.slice a2 A.ram.length p2) A.page A.screen A.locked) A) := fun W' hb => h.below hb
  have hMB : Hid (∀ W', Below w.heap.size w W' → MemR W' (memV (.slice a3 B.rom.length p3) (.slice a4 B.ram.length p4) B.page B.screen B.locked) B) := fun W' hb => h'.below hb
  have hRA : Hid (∀ W', Below w.heap.size w W' → RowR W' (.slice a1 A.rom.length p1) A.rom) := fun W' hb => r1.below hb
  have hRB : Hid (∀ W', Below w.heap.size w W' → RowR W' (.slice a3 B.rom.length p3) B.rom) := fun W' hb => r3.below hb
  have hFA : Hid (Fit A) := hf
  have hFB : Hid (Fit B) := hf'
  have S : Hid (∀ (w1 : World), Below ((w.alloc (.cells #[.slice a1 A.rom.length p1, .slice a2 A.ram.length p2, .int .i64 A.page, .int .i64 A.screen, .bool A.locked] 30)).alloc (.cells #[.slice a3 B.rom.length p3, .slice a4 B.ram.length p4, .int .i64 B.page, .int .i64 B.screen, .bool B.locked] 30)).heap.size ((w.alloc (.cells #[.slice a1 A.rom.length p1, .slice a2 A.ram.length p2, .int .i64 A.page, .int .i64 A.screen, .bool A.locked] 30)).alloc (.cells #[.slice a3 B.rom.length p3, .slice a4 B.ram.length p4, .int .i64 B.page, .int .i64 B.screen, .bool B.locked] 30)) w1 → Blk w1 w.heap.size #[.slice a1 A.rom.length p1, .slice a2 A.ram.length p2, .int .i64 A.page, .int .i64 A.screen, .bool A.locked] ∧ Blk w1 (w.heap.size + 1) #[.slice a3 B.rom.length p3, .slice a4 B.ram.length p4, .int .i64 B.page, .int .i64 B.screen, .bool B.locked] ∧ Below w.heap.size w w1) := by
    intro w1 hb1
    have q1 := (Blk.new (w.alloc (.cells #[.slice a1 A.rom.length p1, .slice a2 A.ram.length p2, .int .i64 A.page, .int .i64 A.screen, .bool A.locked] 30)) #[.slice a3 B.rom.length p3, .slice a4 B.ram.length p4, .int .i64 B.page, .int .i64 B.screen, .bool B.locked] 30).below hb1 (by simp)
    rw [World.size_alloc] at q1
    exact ⟨((Blk.new w _ 30).alloc (.cells #[.slice a3 B.rom.length p3, .slice a4 B.ram.length p4, .int .i64 B.page, .int .i64 B.screen, .bool B.locked] 30)).below hb1 (by simp; omega), q1, (hB.out _ _).trans (hb1.mono (by simp; omega))⟩
  replace r2 := hid r2
  replace r4 := hid r4
  clear h h' hf hf' r1 r3
  cases hk1 : okM A
  · rw [sameM_no (.inl hk1)]
    go_enter Tryd.func70, Tryd.ntmps70
    go_wp2_with fail
    refine (ok_spec _ A _ (hMA.out _ (hB.out _ _)) hFA.out.1 hFA.out.2.1 hFA.out.2.2).mono ?_
    rintro e w1 ⟨rfl, hb1⟩
    rw [hk1]
    obtain ⟨q0, q1, hB1⟩ := S.out w1 hb1
    replace hB1 := hid hB1
    clear hb1 q0 q1
    go_wp2
    go_ret
    exact ⟨rfl, hB1.out⟩
  cases hk2 : okM B
  · rw [sameM_no (.inr (.inl hk2))]
    go_enter Tryd.func70, Tryd.ntmps70
    go_wp2_with fail
    refine (ok_spec _ A _ (hMA.out _ (hB.out _ _)) hFA.out.1 hFA.out.2.1 hFA.out.2.2).mono ?_
    rintro e w1 ⟨rfl, hb1⟩
    rw [hk1]
    obtain ⟨q0, q1, hB1⟩ := S.out w1 hb1
    have x0 := q0.cell
    have x1 := q1.cell
    have hz := q1.lt
    replace q0 := hid q0
    replace q1 := hid q1
    replace hB1 := hid hB1
    clear hb1
    go_wp2_with fail
    refine (ok_spec _ B _ (hMB.out _ hB1.out) hFB.out.1 hFB.out.2.1 hFB.out.2.2).mono ?_
    rintro e w2 ⟨rfl, hb2⟩
    rw [hk2]
    have r0 := q0.out.below hb2 (by omega)
    have r1 := q1.out.below hb2 (by omega)
    have hB2 := hid (hB1.out.trans (hb2.mono hB1.out.size))
    clear x0 x1 q0 q1 hB1 hb2
    have x0 := r0.cell
    have x1 := r1.cell
    clear r0 r1
    go_wp2
    go_ret
    exact ⟨rfl, hB2.out⟩
  by_cases hpg : A.page = B.page
  rotate_left
  · rw [sameM_no (.inr (.inr (.inl hpg)))]
    have hpg2 : (A.page != B.page) = true := by simpa using hpg
    clear hpg
    go_enter Tryd.func70, Tryd.ntmps70
    go_wp2_with fail
    refine (ok_spec _ A _ (hMA.out _ (hB.out _ _)) hFA.out.1 hFA.out.2.1 hFA.out.2.2).mono ?_
    rintro e w1 ⟨rfl, hb1⟩
    rw [hk1]
    obtain ⟨q0, q1, hB1⟩ := S.out w1 hb1
    have x0 := q0.cell
    have x1 := q1.cell
    have hz := q1.lt
    replace q0 := hid q0
    replace q1 := hid q1
    replace hB1 := hid hB1
    clear hb1
    go_wp2_with fail
    refine (ok_spec _ B _ (hMB.out _ hB1.out) hFB.out.1 hFB.out.2.1 hFB.out.2.2).mono ?_
    rintro e w2 ⟨rfl, hb2⟩
    rw [hk2]
    have r0 := q0.out.below hb2 (by omega)
    have r1 := q1.out.below hb2 (by omega)
    have hB2 := hid (hB1.out.trans (hb2.mono hB1.out.size))
    clear x0 x1 q0 q1 hB1 hb2
    have x0 := r0.cell
    have x1 := r1.cell
    clear r0 r1
    go_wp2
    go_ret
    exact ⟨rfl, hB2.out⟩

  have hpg2 : (A.page != B.page) = false := by simpa using hpg
  replace hpg := hid hpg
  by_cases hsc : A.screen = B.screen
  rotate_left
  · rw [sameM_no (.inr (.inr (.inr (.inl hsc))))]
    have hsc2 : (A.screen != B.screen) = true := by simpa using hsc
    clear hsc
    go_enter Tryd.func70, Tryd.ntmps70
    go_wp2_with fail
    refine (ok_spec _ A _ (hMA.out _ (hB.out _ _)) hFA.out.1 hFA.out.2.1 hFA.out.2.2).mono ?_
    rintro e w1 ⟨rfl, hb1⟩
    rw [hk1]
    obtain ⟨q0, q1, hB1⟩ := S.out w1 hb1
    have x0 := q0.cell
    have x1 := q1.cell
    have hz := q1.lt
    replace q0 := hid q0
    replace q1 := hid q1
    replace hB1 := hid hB1
    clear hb1
    go_wp2_with fail
    refine (ok_spec _ B _ (hMB.out _ hB1.out) hFB.out.1 hFB.out.2.1 hFB.out.2.2).mono ?_
    rintro e w2 ⟨rfl, hb2⟩
    rw [hk2]
    have r0 := q0.out.below hb2 (by omega)
    have r1 := q1.out.below hb2 (by omega)
    have hB2 := hid (hB1.out.trans (hb2.mono hB1.out.size))
    clear x0 x1 q0 q1 hB1 hb2
    have x0 := r0.cell
    have x1 := r1.cell
    clear r0 r1
    go_wp2
    go_ret
    exact ⟨rfl, hB2.out⟩

  have hsc2 : (A.screen != B.screen) = false := by simpa using hsc
  replace hsc := hid hsc
  cases hlk : (A.locked == B.locked)
  · rw [sameM_no (.inr (.inr (.inr (.inr (.inl hlk)))))]
    have hlk2 : (!(A.locked == B.locked)) = true := by rw [hlk]; rfl
    go_enter Tryd.func70, Tryd.ntmps70
    go_wp2_with fail
    refine (ok_spec _ A _ (hMA.out _ (hB.out _ _)) hFA.out.1 hFA.out.2.1 hFA.out.2.2).mono ?_
    rintro e w1 ⟨rfl, hb1⟩
    rw [hk1]
    obtain ⟨q0, q1, hB1⟩ := S.out w1 hb1
    have x0 := q0.cell
    have x1 := q1.cell
    have hz := q1.lt
    replace q0 := hid q0
    replace q1 := hid q1
    replace hB1 := hid hB1
    clear hb1
    go_wp2_with fail
    refine (ok_spec _ B _ (hMB.out _ hB1.out) hFB.out.1 hFB.out.2.1 hFB.out.2.2).mono ?_
    rintro e w2 ⟨rfl, hb2⟩
    rw [hk2]
    have r0 := q0.out.below hb2 (by omega)
    have r1 := q1.out.below hb2 (by omega)
    have hB2 := hid (hB1.out.trans (hb2.mono hB1.out.size))
    clear x0 x1 q0 q1 hB1 hb2
    have x0 := r0.cell
    have x1 := r1.cell
    clear r0 r1
    go_wp2
    go_ret
    exact ⟨rfl, hB2.out⟩

  have hlk2 : (!(A.locked == B.locked)) = false := by rw [hlk]; rfl
  have hlk3 := hid hlk
  by_cases hrm : A.rom = B.rom
  rotate_left
  · rw [sameM_no (.inr (.inr (.inr (.inr (.inr (.inl hrm))))))]
    have hro : decide (A.rom = B.rom) = false := decide_eq_false hrm
    clear hrm
    go_enter Tryd.func70, Tryd.ntmps70
    go_wp2_with fail
    refine (ok_spec _ A _ (hMA.out _ (hB.out _ _)) hFA.out.1 hFA.out.2.1 hFA.out.2.2).mono ?_
    rintro e w1 ⟨rfl, hb1⟩
    rw [hk1]
    obtain ⟨q0, q1, hB1⟩ := S.out w1 hb1
    have x0 := q0.cell
    have x1 := q1.cell
    have hz := q1.lt
    replace q0 := hid q0
    replace q1 := hid q1
    replace hB1 := hid hB1
    clear hb1
    go_wp2_with fail
    refine (ok_spec _ B _ (hMB.out _ hB1.out) hFB.out.1 hFB.out.2.1 hFB.out.2.2).mono ?_
    rintro e w2 ⟨rfl, hb2⟩
    rw [hk2]
    have r0 := q0.out.below hb2 (by omega)
    have r1 := q1.out.below hb2 (by omega)
    have hB2 := hid (hB1.out.trans (hb2.mono hB1.out.size))
    clear x0 x1 q0 q1 hB1 hb2
    have x0 := r0.cell
    have x1 := r1.cell
    clear r0 r1
    go_wp2_with fail
    refine (same0_spec _ _ A.rom B.rom _ (hRA.out _ hB2.out) (hRB.out _ hB2.out) hFA.out.1 hFB.out.1).mono ?_
    rintro e w3 ⟨rfl, nn, rfl⟩
    rw [hro]
    go_wp2
    go_ret
    exact ⟨rfl, hB2.out.trans (Below.drewN _ _ _)⟩

  have hro : decide (A.rom = B.rom) = true := decide_eq_true hrm
  have hNo : Hid (∀ k, k < 4 → ¬ A.ram.getD k [] = B.ram.getD k [] → sameM A B = false) := fun k hk hn => sameM_no (.inr (.inr (.inr (.inr (.inr (.inr (fun e => hn (by rw [e]))))))))
  have hYes : Hid ((∀ j, j < 4 → A.ram.getD j [] = B.ram.getD j []) → sameM A B = true) := fun hj => sameM_yes hk1 hk2 hpg.out hsc.out hlk3.out hrm (getD_ext2 (by rw [(ok_parts hk1).2.1, (ok_parts hk2).2.1]) (fun i hi => hj i (by rw [(ok_parts hk1).2.1] at hi; exact hi)))
  have hl4 := hid (ok_parts hk1).2.1
  have hl4' := hid (ok_parts hk2).2.1
  replace hrm := hid hrm
  · skip
    go_enter Tryd.func70, Tryd.ntmps70
    go_wp2_with fail
    refine (ok_spec _ A _ (hMA.out _ (hB.out _ _)) hFA.out.1 hFA.out.2.1 hFA.out.2.2).mono ?_
    rintro e w1 ⟨rfl, hb1⟩
    rw [hk1]
    obtain ⟨q0, q1, hB1⟩ := S.out w1 hb1
    have x0 := q0.cell
    have x1 := q1.cell
    have hz := q1.lt
    replace q0 := hid q0
    replace q1 := hid q1
    replace hB1 := hid hB1
    clear hb1
    go_wp2_with fail
    refine (ok_spec _ B _ (hMB.out _ hB1.out) hFB.out.1 hFB.out.2.1 hFB.out.2.2).mono ?_
    rintro e w2 ⟨rfl, hb2⟩
    rw [hk2]
    have r0 := q0.out.below hb2 (by omega)
    have r1 := q1.out.below hb2 (by omega)
    have hB2 := hid (hB1.out.trans (hb2.mono hB1.out.size))
    clear x0 x1 q0 q1 hB1 hb2
    have x0 := r0.cell
    have x1 := r1.cell
    have hz2 := r1.lt
    replace r0 := hid r0
    replace r1 := hid r1
    go_wp2_with fail
    refine (same0_spec _ _ A.rom B.rom _ (hRA.out _ hB2.out) (hRB.out _ hB2.out) hFA.out.1 hFB.out.1).mono ?_
    rintro e w3 ⟨rfl, nn, rfl⟩
    rw [hro]
    go_wp2
    go_loopw [5] (fun i wr => ∃ k : Nat, k ≤ 4 ∧ i = .int .i64 k ∧ (∃ n, wr = w2.drewN n) ∧ ∀ j, j < k → A.ram.getD j [] = B.ram.getD j []) (fun i _ => 4 - (intOf i).toNat)
    case atStart => exact ⟨0, by omega, rfl, ⟨nn, rfl⟩, fun j hj => by omega⟩
    case round =>
      obtain ⟨k, hk, rfl, ⟨n, rfl⟩, hj⟩ := hrel
      have hlA : A.ram.length = 4 := hl4.out
      have hlB : B.ram.length = 4 := hl4'.out
      by_cases hlt : k < 4
      · obtain ⟨b, off, a5, p5, rfl, c1, hb1, s1⟩ := rows_at (r2.out.below (hB2.out.trans (Below.drewN _ n _))) (k := k) (by omega)
        obtain ⟨b', off', a6, p6, rfl, c2, hb2, s2⟩ := rows_at (r4.out.below (hB2.out.trans (Below.drewN _ n _))) (k := k) (by omega)
        have t1 := hFA.out.2.2 k (by omega)
        have t2 := hFB.out.2.2 k (by omega)
        have hkA : k < A.ram.length := by omega
        have hkB : k < B.ram.length := by omega
        replace s1 := hid s1
        replace s2 := hid s2
        clear hlA hlB
        have y0 : ∀ i, (w2.drewN n).cell? ⟨w.heap.size, i, none⟩ = _ := fun i => r0.out.cell i
        have y1 : ∀ i, (w2.drewN n).cell? ⟨w.heap.size + 1, i, none⟩ = _ := fun i => r1.out.cell i
        by_cases he : A.ram.getD k [] = B.ram.getD k []
        · have hj2 : Hid (∀ j, j < k + 1 → A.ram.getD j [] = B.ram.getD j []) := fun j hj1 => by
            by_cases e : j = k
            · rw [e]; exact he
            · exact hj j (by omega)
          have hde : decide (A.ram.getD k [] = B.ram.getD k []) = true := decide_eq_true he
          clear hj hNo hYes he x0 x1
          generalize A.ram.getD k [] = z at *
          generalize B.ram.getD k [] = z' at *
          generalize hW : w2.drewN n = W at *
          replace hW := hid hW
          go_wp2
          go_quiet ((go_at_call 126; refine Calls.quiet_of (same0_spec _ _ z z' _ ?_ ?_ t1 t2); exact s1.out; exact s2.out))
          go_wp2
          go_roundw
          case rel => exact ⟨k + 1, by omega, by go_num, ⟨n + nq, by rw [← World.drewN_drewN, hW.out]⟩, hj2.out⟩
          case measure => simp [intOf]; omega
        · have hE := hid (hNo.out k hlt he)
          have hde : decide (A.ram.getD k [] = B.ram.getD k []) = false := decide_eq_false he
          clear hj hNo hYes he x0 x1
          generalize A.ram.getD k [] = z at *
          generalize B.ram.getD k [] = z' at *
          generalize hW : w2.drewN n = W at *
          replace hW := hid hW
          go_wp2
          go_quiet ((go_at_call 126; refine Calls.quiet_of (same0_spec _ _ z z' _ ?_ ?_ t1 t2); exact s1.out; exact s2.out))
          go_wp2
          go_ret
          exact ⟨ret_bool hE.out.symm, by rw [← hW.out]; exact (hB2.out.trans (Below.drewN _ _ _)).trans (Below.drewN _ _ _)⟩
      · obtain rfl : k = 4 := by omega
        have hE := hid (hYes.out hj)
        clear hj hNo hYes
        go_wp2
        go_ret
        exact ⟨ret_bool hE.out.symm, hB2.out.trans (Below.drewN _ _ _)⟩
end Go.Proofs.YtifcdojaocndhaaDoor
