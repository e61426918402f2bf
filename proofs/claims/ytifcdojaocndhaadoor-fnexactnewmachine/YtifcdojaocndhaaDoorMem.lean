/- What the exact laws' helpers over memories answer: equal ones are told equal, marks are held, sizes taken off, a copy is made in blocks of its own. -/
import Derived.Test.YtifcdojaocndhaaDoorM14
import Derived.Test.YtifcdojaocndhaaDoorM00
namespace Go.Proofs.YtifcdojaocndhaaDoor
open Go.ChangeShapes Go.WideShapes Go.ChangeAt Go.RowKit
set_option linter.unusedVariables false

/-- a memory that is not too great for the laws -/
def Small (M : Mem) : Prop := M.rom.length ≤ 2000000 ∧ M.ram.length ≤ 2000000 ∧ pre M.ram M.ram.length ≤ 2000000
theorem Small.rows {M : Mem} (h : Small M) : ∀ i, i < M.ram.length → (M.ram.getD i []).length ≤ 1000000000 := fun i hi => by
  have := row_le_pre M.ram i hi
  have := h.2.2
  omega
def Big (M : Mem) : Prop := M.rom.length ≤ maxLen ∧ M.ram.length ≤ maxLen ∧ ∀ i, i < M.ram.length → (M.ram.getD i []).length ≤ maxLen
/-- how many numbers a memory has -/
def cntM (M : Mem) : Nat := M.rom.length + pre M.ram M.ram.length
def markM (M : Mem) (m : Int) : Mem := { M with rom := markL m M.rom.length, ram := mrL M.ram (m + (M.rom.length : Nat)) M.ram.length }
theorem RowR.form {w : World} {v : Value} {zs : List Int} (h : RowR w v zs) : ∃ a cap, v = .slice a zs.length cap := by
  obtain ⟨a, cap, h, _⟩ := h
  exact ⟨a, cap, h⟩
theorem RowsR.form {w : World} {v : Value} {zss : List (List Int)} (h : RowsR w v zss) : ∃ a cap, v = .slice a zss.length cap := by
  obtain ⟨a, cap, h, _⟩ := h
  exact ⟨a, cap, h⟩

theorem eqm_yes (v v' : Value) (M : Mem) (w : World) (h : MemR w v M) (h' : MemR w v' M) (hs : Small M) :
    Calls Tryd.prog 36 #[v, v'] w fun e w' => e = .returned (.bool true) ∧ Below w.heap.size w w' := by
  obtain ⟨vr, vm, rfl, h1, h2⟩ := h
  obtain ⟨vr', vm', rfl, h1', h2'⟩ := h'
  obtain ⟨a1, p1, rfl⟩ := h1.form
  obtain ⟨a2, p2, rfl⟩ := h2.form
  obtain ⟨a3, p3, rfl⟩ := h1'.form
  obtain ⟨a4, p4, rfl⟩ := h2'.form
  have hB : Hid (∀ o o' n, Below w.heap.size w (((w.alloc o).alloc o').drewN n)) := fun o o' n => (((Below.refl _ _).alloc (Nat.le_refl _) _).alloc (by simp) _).trans (Below.drewN _ _ _)
  have k1 : Hid (∀ o o' n, RowR (((w.alloc o).alloc o').drewN n) _ M.rom) := fun o o' n => h1.below (hB.out o o' n)
  have k2 : Hid (∀ o o' n, RowsR (((w.alloc o).alloc o').drewN n) _ M.ram) := fun o o' n => h2.below (hB.out o o' n)
  have k1' : Hid (∀ o o' n, RowR (((w.alloc o).alloc o').drewN n) _ M.rom) := fun o o' n => h1'.below (hB.out o o' n)
  have k2' : Hid (∀ o o' n, RowsR (((w.alloc o).alloc o').drewN n) _ M.ram) := fun o o' n => h2'.below (hB.out o o' n)
  have hr := hs.rows
  obtain ⟨hs1, hs2, hs3⟩ := hs
  replace hr := hid (hr)
  clear h1 h2 h1' h2' hs3
  go_enter Tryd.func36, Tryd.ntmps36
  go_wp2_with fail
  refine (eqr_yes _ _ M.rom _ (k1.out _ _ 0) (k1'.out _ _ 0) (by omega)).mono ?_
  rintro e w1 ⟨rfl, n, rfl⟩
  go_wp2_with fail
  refine (eqss_yes _ _ M.ram _ (k2.out _ _ n) (k2'.out _ _ n) (by omega) hr.out).mono ?_
  rintro e w1 ⟨rfl, n', rfl⟩
  go_wp2
  go_ret
  exact ⟨rfl, hB.out _ _ _⟩
theorem heldm (v : Value) (M : Mem) (m : Int) (w : World) (h : MemR w v (markM M m)) (hs : Small M) (hm0 : 0 ≤ m) (hm1 : m ≤ 10000000) :
    Calls Tryd.prog 46 #[v, .int .i64 m] w fun e w' => e = .returned (.int .i64 (m + (cntM M : Nat))) ∧ Below w.heap.size w w' := by
  obtain ⟨vr, vm, rfl, h1, h2⟩ := h
  obtain ⟨a1, p1, rfl⟩ := h1.form
  obtain ⟨a2, p2, rfl⟩ := h2.form
  have hB : Hid (∀ o, Below w.heap.size w (w.alloc o)) := fun o => (Below.refl _ _).alloc (Nat.le_refl _) _
  have k1 : Hid (∀ o, RowR (w.alloc o) _ (markL m M.rom.length)) := fun o => h1.below (hB.out o)
  have k2 : Hid (∀ o, RowsR (w.alloc o) _ (mrL M.ram (m + (M.rom.length : Nat)) M.ram.length)) := fun o => h2.below (hB.out o)
  obtain ⟨hs1, hs2, hs3⟩ := hs
  have hc : Hid (m + (M.rom.length : Nat) + (pre M.ram M.ram.length : Nat) = m + (cntM M : Nat)) := by unfold Hid cntM; omega
  clear h1 h2
  unfold markM at *
  dsimp only at *
  generalize (markL m M.rom.length).length = L1 at *
  generalize (mrL M.ram (m + (M.rom.length : Nat)) M.ram.length).length = L2 at *
  go_enter Tryd.func46, Tryd.ntmps46
  go_wp2_with fail
  refine (heldr _ m M.rom.length _ (k1.out _) (by omega) (by omega) (by omega)).mono ?_
  rintro e w1 ⟨rfl, rfl⟩
  obtain ⟨q, hq⟩ : ∃ q : Int, m + (M.rom.length : Nat) = q := ⟨_, rfl⟩
  rw [hq] at k2 hc ⊢
  have hq0 : 0 ≤ q ∧ q ≤ 20000000 := by omega
  clear hq
  go_wp2_with fail
  refine (heldss _ q M.ram _ (k2.out _) (by omega) (by omega) (by omega) (by omega)).mono ?_
  rintro e w1 ⟨rfl, rfl⟩
  rw [hc.out]
  have hc0 : 0 ≤ m + (cntM M : Nat) := by omega
  go_wp2
  go_ret
  exact ⟨rfl, hB.out _⟩
theorem markr_nil (m : Int) (w : World) (hm0 : 0 ≤ m) (hm1 : m ≤ 1000000000) : Calls Tryd.prog 88 #[.slice none 0 0, .int .i64 m] w fun e w' => e = .returned (.int .i64 m) ∧ w' = w := by
  go_enter Tryd.func88, Tryd.ntmps88
  go_wp2
  go_loop [1, 5] (fun q i => q = .int .i64 m ∧ i = .int .i64 0) (fun _ i => 0)
  case atStart => exact ⟨rfl, rfl⟩
  case round =>
    obtain ⟨rfl, rfl⟩ := hrel
    go_wp2
    go_ret
    exact ⟨rfl, rfl⟩
theorem markss_nil (m : Int) (w : World) (hm0 : 0 ≤ m) (hm1 : m ≤ 1000000000) : Calls Tryd.prog 89 #[.slice none 0 0, .int .i64 m] w fun e w' => e = .returned (.int .i64 m) ∧ w' = w := by
  go_enter Tryd.func89, Tryd.ntmps89
  go_wp2
  go_loop [1, 5] (fun q i => q = .int .i64 m ∧ i = .int .i64 0) (fun _ i => 0)
  case atStart => exact ⟨rfl, rfl⟩
  case round =>
    obtain ⟨rfl, rfl⟩ := hrel
    go_wp2
    go_ret
    exact ⟨rfl, rfl⟩
theorem markm (v : Value) (M : Mem) (m : Int) (lo hi : Nat) (w : World) (h : MemO w lo hi v M) (hw : hi ≤ w.heap.size) (hs : Small M) (hm0 : 0 ≤ m) (hm1 : m ≤ 10000000) :
    Calls Tryd.prog 43 #[v, .int .i64 m] w fun e w' => e = .returned (.int .i64 (m + (cntM M : Nat))) ∧ MemO w' lo hi v (markM M m) ∧ Touch lo hi w w' := by
  obtain ⟨hs1, hs2, hs3⟩ := hs
  have hc : m + (M.rom.length : Nat) + (pre M.ram M.ram.length : Nat) = m + (cntM M : Nat) := by unfold cntM; omega
  rcases h with ⟨rfl, e1, e2⟩ | ⟨vr, vm, r, s, G, rfl, h1, h2, b1, b2, b3, d1, d2, d3⟩
  · have hz : cntM M = 0 := by unfold cntM; rw [e1, e2]; rfl
    have F : Hid (MemO (w.alloc (.cells #[.slice none 0 0, .slice none 0 0, .int .i64 M.page, .int .i64 M.screen, .bool M.locked] 30)) lo hi (memV (.slice none 0 0) (.slice none 0 0) M.page M.screen M.locked) (markM M m)) := .inl ⟨rfl, by unfold markM; simp [e1, markL], by unfold markM; simp [e2, mrL]⟩
    rw [hz]
    clear hc e1 e2 hz
    go_enter Tryd.func43, Tryd.ntmps43
    go_wp2_with (first | (go_at_call 88; refine (markr_nil _ _ hm0 (by omega)).mono ?_; rintro e w' ⟨rfl, rfl⟩) | (go_at_call 89; refine (markss_nil _ _ hm0 (by omega)).mono ?_; rintro e w' ⟨rfl, rfl⟩))
    go_ret
    exact ⟨ret_int (by simp), F.out, Touch.of_below ((Below.refl _ _).alloc (Nat.le_refl _) _)⟩
  · have hB : Hid (∀ o, Below w.heap.size w (w.alloc o)) := fun o => (Below.refl _ _).alloc (Nat.le_refl _) _
    obtain ⟨c1, _, _, hv1, _, _⟩ := id h1
    obtain ⟨c2, _, _, _, hv2, _, _, _⟩ := id h2
    subst hv1 hv2
    have k1 : Hid (∀ o, RowO (w.alloc o) r _ M.rom) := fun o => h1.kept ((hB.out o).block _ (by omega))
    replace hc := hid (hc)
    have F : Hid (∀ o w1 w2, RowO w1 r (.slice (some ⟨r, 0, none⟩) M.rom.length c1) (markL m M.rom.length) → (w.alloc o).grownBy w1 (some r) →
        (RowsO w1 s G (.slice (some ⟨s, 0, none⟩) M.ram.length c2) M.ram ∧
        (RowsO w2 s G (.slice (some ⟨s, 0, none⟩) M.ram.length c2) (mrL M.ram (m + (M.rom.length : Nat)) M.ram.length) → Touch lo hi w1 w2 → (∀ b, b < w1.heap.size → (∀ i, i < M.ram.length → G i ≠ b) → w2.heap[b]? = w1.heap[b]?) →
          MemO w2 lo hi (memV (.slice (some ⟨r, 0, none⟩) M.rom.length c1) (.slice (some ⟨s, 0, none⟩) M.ram.length c2) M.page M.screen M.locked) (markM M m) ∧ Touch lo hi w w2))) := by
      intro o w1 w2 g1 g2
      have g3 : ∀ b, b < hi → b ≠ r → w1.heap[b]? = w.heap[b]? := fun b hb hne => (g2.block b (by simp; omega) (by simpa using hne)).trans ((hB.out o).block b (by omega))
      refine ⟨h2.kept (g3 s b2.2 (fun e => d1 e.symm)) (fun i hi => g3 _ (b3 i hi).2 (d2 i hi).1), fun g4 g5 g6 => ⟨.inr ⟨_, _, r, s, G, rfl, ?_, ?_, b1, b2, ?_, d1, ?_, ?_⟩, (Touch.of_below (hB.out o)).trans ((Touch.of_grown g2 b1.1 b1.2).trans g5)⟩⟩
      · exact g1.kept (g6 r g1.lt (fun i hi => (d2 i hi).1))
      · exact g4
      · exact fun i hi => b3 i (by simpa [markM, mrL_len] using hi)
      · exact fun i hi => d2 i (by simpa [markM, mrL_len] using hi)
      · exact fun i j hi hj => d3 i j (by simpa [markM, mrL_len] using hi) (by simpa [markM, mrL_len] using hj)
    replace b3 := hid (b3)
    replace d2 := hid (d2)
    replace d3 := hid (d3)
    clear h1 h2
    go_enter Tryd.func43, Tryd.ntmps43
    go_wp2_with fail
    refine (markr _ r m M.rom _ (k1.out _) (by omega) (by omega) (by omega)).mono ?_
    rintro e w1 ⟨rfl, hr1, hg1⟩
    have hf := fun w2 => F.out _ w1 w2 hr1 hg1
    have hx : w1.cell? ⟨w.heap.size, 1, none⟩ = some (.slice (some ⟨s, 0, none⟩) M.ram.length c2) := hg1.cell (by simp) (by simp; omega)
    replace hf := hid (hf)
    clear hr1 hg1 F k1
    obtain ⟨q, hq⟩ : ∃ q : Int, m + (M.rom.length : Nat) = q := ⟨_, rfl⟩
    rw [hq] at hc hf ⊢
    have hq0 : 0 ≤ q ∧ q ≤ 20000000 := by omega
    clear hq
    go_wp2_with fail
    refine (markss _ q M.ram s lo hi G _ (hf.out w1).1 b3.out (fun i hi => (d2.out i hi).2) d3.out (by omega) (by omega) (by omega) (by omega)).mono ?_
    rintro e w2 ⟨rfl, hr2, ht2, ho2⟩
    have hE := (hf.out w2).2 hr2 ht2 ho2
    replace hE := hid (hE)
    rw [hc.out]
    clear hr2 ht2 ho2 hf
    go_wp2
    go_ret
    exact ⟨rfl, hE.out.1, hE.out.2⟩
theorem szm (v : Value) (M : Mem) (left : Int) (w : World) (h : MemR w v M) (hs : Big M) (hl0 : 0 ≤ left) (hl1 : left ≤ 1000000000) :
    Calls Tryd.prog 49 #[v, .int .i64 left] w fun e w' => ∃ R : Int, e = .returned (.int .i64 R) ∧ (R < 0 ∨ (0 ≤ R ∧ (M.rom.length : Int) + (M.ram.length : Int) + (pre M.ram M.ram.length : Nat) + R = left)) ∧ Below w.heap.size w w' := by
  obtain ⟨vr, vm, rfl, h1, h2⟩ := h
  obtain ⟨a1, p1, rfl⟩ := h1.form
  obtain ⟨a2, p2, rfl⟩ := h2.form
  have hB : Hid (∀ o, Below w.heap.size w (w.alloc o)) := fun o => (Below.refl _ _).alloc (Nat.le_refl _) _
  have k1 : Hid (∀ o, RowR (w.alloc o) _ M.rom) := fun o => h1.below (hB.out o)
  have k2 : Hid (∀ o, RowsR (w.alloc o) _ M.ram) := fun o => h2.below (hB.out o)
  replace hs : Hid (Big M) := hs
  clear h1 h2
  by_cases hlt : left - (M.rom.length : Int) < 0
  · go_enter Tryd.func49, Tryd.ntmps49
    go_wp2_with fail
    refine (szr _ M.rom _ _ (k1.out _) hs.out.1 (by omega) (by omega)).mono ?_
    rintro e w1 ⟨rfl, rfl⟩
    rw [if_pos (by omega)]
    go_wp2
    go_ret
    exact ⟨_, rfl, .inl (by omega), hB.out _⟩
  · go_enter Tryd.func49, Tryd.ntmps49
    go_wp2_with fail
    refine (szr _ M.rom _ _ (k1.out _) hs.out.1 (by omega) (by omega)).mono ?_
    rintro e w1 ⟨rfl, rfl⟩
    rw [if_neg (by omega)]
    obtain ⟨q, hq⟩ : ∃ q : Int, left - (M.rom.length : Int) = q := ⟨_, rfl⟩
    rw [hq] at hlt ⊢
    have hq2 : Hid ((M.rom.length : Int) + q = left) := by unfold Hid; omega
    clear hq
    go_wp2_with fail
    refine (szss _ M.ram _ _ (k2.out _) hs.out.2.1 hs.out.2.2 (by omega) (by have := hq2.out; omega)).mono ?_
    rintro e w1 ⟨R, rfl, hR, rfl⟩
    rcases hR with hR | ⟨hR, hR2⟩
    · go_wp2
      go_ret
      exact ⟨_, rfl, .inl (by omega), hB.out _⟩
    · replace hR2 := hid (hR2)
      go_wp2
      go_ret
      exact ⟨_, rfl, .inr ⟨hR, by have := hR2.out; have := hq2.out; omega⟩, hB.out _⟩
set_option maxHeartbeats 1000000 in
set_option maxRecDepth 100000 in
theorem tom (v : Value) (M : Mem) (w : World) (h : MemR w v M) (hs : Small M) :
    Calls Tryd.prog 56 #[v] w fun e w' => ∃ u, e = .returned u ∧ MemO w' w.heap.size w'.heap.size u M ∧ Below w.heap.size w w' := by
  obtain ⟨vr, vm, rfl, h1, h2⟩ := h
  obtain ⟨a1, p1, rfl⟩ := h1.form
  obtain ⟨a2, p2, rfl⟩ := h2.form
  have hr := hs.rows
  obtain ⟨hs1, hs2, hs3⟩ := hs
  replace hr := hid (hr)
  replace h1 : Hid (RowR w (.slice a1 M.rom.length p1) M.rom) := h1
  replace h2 : Hid (RowsR w (.slice a2 M.ram.length p2) M.ram) := h2
  go_enter Tryd.func56, Tryd.ntmps56
  go_wp2_with fail
  have q0 := ((Blk.new w #[.slice a1 M.rom.length p1, .slice a2 M.ram.length p2, .int .i64 M.page, .int .i64 M.screen, .bool M.locked] 52).alloc (.cells #[.slice none 0 0, .slice none 0 0, .int .i64 0, .int .i64 0, .bool false] 30)).alloc (.cells #[.slice none 0 0, .slice none 0 0, .int .i64 0, .int .i64 0, .bool false] 30)
  have q1 := (Blk.new (w.alloc (.cells #[.slice a1 M.rom.length p1, .slice a2 M.ram.length p2, .int .i64 M.page, .int .i64 M.screen, .bool M.locked] 52)) #[.slice none 0 0, .slice none 0 0, .int .i64 0, .int .i64 0, .bool false] 30).alloc (.cells #[.slice none 0 0, .slice none 0 0, .int .i64 0, .int .i64 0, .bool false] 30)
  have q2 := Blk.new ((w.alloc (.cells #[.slice a1 M.rom.length p1, .slice a2 M.ram.length p2, .int .i64 M.page, .int .i64 M.screen, .bool M.locked] 52)).alloc (.cells #[.slice none 0 0, .slice none 0 0, .int .i64 0, .int .i64 0, .bool false] 30)) #[.slice none 0 0, .slice none 0 0, .int .i64 0, .int .i64 0, .bool false] 30
  have hB : Below w.heap.size w (((w.alloc (.cells #[.slice a1 M.rom.length p1, .slice a2 M.ram.length p2, .int .i64 M.page, .int .i64 M.screen, .bool M.locked] 52)).alloc (.cells #[.slice none 0 0, .slice none 0 0, .int .i64 0, .int .i64 0, .bool false] 30)).alloc (.cells #[.slice none 0 0, .slice none 0 0, .int .i64 0, .int .i64 0, .bool false] 30)) := (((Below.refl _ _).alloc (Nat.le_refl _) _).alloc (by simp) _).alloc (by simp; omega) _
  have hz : (((w.alloc (.cells #[.slice a1 M.rom.length p1, .slice a2 M.ram.length p2, .int .i64 M.page, .int .i64 M.screen, .bool M.locked] 52)).alloc (.cells #[.slice none 0 0, .slice none 0 0, .int .i64 0, .int .i64 0, .bool false] 30)).alloc (.cells #[.slice none 0 0, .slice none 0 0, .int .i64 0, .int .i64 0, .bool false] 30)).heap.size = w.heap.size + 3 := by simp
  simp only [World.size_alloc] at q1 q2
  generalize (((w.alloc (.cells #[.slice a1 M.rom.length p1, .slice a2 M.ram.length p2, .int .i64 M.page, .int .i64 M.screen, .bool M.locked] 52)).alloc (.cells #[.slice none 0 0, .slice none 0 0, .int .i64 0, .int .i64 0, .bool false] 30)).alloc (.cells #[.slice none 0 0, .slice none 0 0, .int .i64 0, .int .i64 0, .bool false] 30)) = W3 at *
  refine (tor _ M.rom _ (h1.out.below hB) (by omega)).mono ?_
  rintro e w1 ⟨u1, rfl, hro, hb1⟩
  obtain ⟨c1, _, _, hv1, _, _⟩ := id hro
  subst hv1
  rw [hz] at hro hb1 ⊢
  have r0 := q0.below hb1 (by omega)
  have r1 := q1.below hb1 (by omega)
  have r2 := q2.below hb1 (by omega)
  have hB1 : Below w.heap.size w w1 := hB.trans (hb1.mono (by omega))
  have hz1 := hro.lt
  clear q0 q1 q2 hB hb1
  have x0 := r0.cell
  have x2 := r2.cell
  have f2 := r2.frozen
  replace hro := hid (hro)
  replace r0 := hid (r0)
  replace r1 := hid (r1)
  replace r2 := hid (r2)
  go_wp2_with fail
  have s0 := r0.out.other (p := ⟨w.heap.size + 1 + 1, 0, none⟩) (by simp; omega) (.slice (some ⟨w.heap.size + 3, 0, none⟩) M.rom.length c1)
  have s1 := r1.out.other (p := ⟨w.heap.size + 1 + 1, 0, none⟩) (by simp) (.slice (some ⟨w.heap.size + 3, 0, none⟩) M.rom.length c1)
  have s2 := r2.out.set 0 (.slice (some ⟨w.heap.size + 3, 0, none⟩) M.rom.length c1)
  have hro2 : RowO _ (w.heap.size + 3) _ M.rom := hro.out.kept (Below.heap_setCell w1 ⟨w.heap.size + 1 + 1, 0, none⟩ (.slice (some ⟨w.heap.size + 3, 0, none⟩) M.rom.length c1) _ (by simp))
  have hB2 := hB1.setCell (p := ⟨w.heap.size + 1 + 1, 0, none⟩) (by simp; omega) (.slice (some ⟨w.heap.size + 3, 0, none⟩) M.rom.length c1)
  have hz2 : (w1.setCell ⟨w.heap.size + 1 + 1, 0, none⟩ (.slice (some ⟨w.heap.size + 3, 0, none⟩) M.rom.length c1)).heap.size = w1.heap.size := by simp [World.setCell]
  simp at s2
  clear r0 r1 r2 x0 x2 f2 hB1 hro
  generalize w1.setCell ⟨w.heap.size + 1 + 1, 0, none⟩ (.slice (some ⟨w.heap.size + 3, 0, none⟩) M.rom.length c1) = W4 at *
  refine (toss _ M.ram _ (h2.out.below hB2) (by omega) hr.out).mono ?_
  rintro e w2 ⟨u2, rfl, hrn, hb2⟩
  obtain ⟨s, G, ⟨c2, C2, T2, V2, hv2, g1, g2, g3⟩, b2, b3, d2, d3⟩ := hrn
  subst hv2
  have t0 := s0.below hb2 (by omega)
  have t1 := s1.below hb2 (by omega)
  have t2 := s2.below hb2 (by omega)
  have hro3 := hro2.kept (hb2.block _ (by omega))
  have hB3 := hB2.trans (hb2.mono hB2.size)
  have hz3 := hb2.size
  clear s0 s1 s2 hro2 hB2 hb2
  have x0 := t0.cell
  have x1 := t1.cell
  have x2 := t2.cell
  have f1 := t1.frozen
  have f2 := t2.frozen
  have E : Hid (∀ W', (∀ b, w.heap.size + 3 ≤ b → b < w2.heap.size → W'.heap[b]? = w2.heap[b]?) → w2.heap.size ≤ W'.heap.size → MemO W' w.heap.size W'.heap.size (memV (.slice (some ⟨w.heap.size + 3, 0, none⟩) M.rom.length c1) (.slice (some ⟨s, 0, none⟩) M.ram.length c2) M.page M.screen M.locked) M) := by
    intro W' k1 k2
    have hl3 := hro3.lt
    refine .inr ⟨_, _, w.heap.size + 3, s, G, rfl, hro3.kept (k1 _ (Nat.le_refl _) hl3), ⟨c2, C2, T2, V2, rfl, (k1 _ (by omega) (by omega)).trans g1, g2, fun i hi => (g3 i hi).kept (k1 _ (by have := b3 i hi; omega) (by have := b3 i hi; omega))⟩, by omega, by omega, fun i hi => by have := b3 i hi; omega, by omega, fun i hi => ⟨by have := b3 i hi; omega, d2 i hi⟩, d3⟩
  replace hB3 := hid (hB3)
  clear g1 g2 g3 b3 d2 d3 hro3 t0 t1 t2 h1 h2 hr
  go_wp2
  refine bodyPost_ret (v := memV (.slice (some ⟨w.heap.size + 3, 0, none⟩) M.rom.length c1) (.slice (some ⟨s, 0, none⟩) M.ram.length c2) M.page M.screen M.locked) (by simp [results, Tryd.results56, go_sem, x1]) rfl ⟨_, rfl, ?_, ?_⟩
  · refine E.out _ (fun b h0 h1 => ?_) ?_
    · iterate 9 rw [Below.heap_setCell _ _ _ _ (by simp; omega)]
    · iterate 9 rw [sizeSet]
      exact Nat.le_refl _
  · iterate 9 refine Below.setCell ?_ (by first | omega | (simp; done) | (simp; omega)) _
    exact hB3.out
end Go.Proofs.YtifcdojaocndhaaDoor
