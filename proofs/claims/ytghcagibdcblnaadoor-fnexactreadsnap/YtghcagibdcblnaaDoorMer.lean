/- What the exact laws' helpers over memories answer: equal ones are told equal, marks are held, sizes taken off, a copy is made in blocks of its own. -/
import Derived.Test.YtghcagibdcblnaaDoorR11
import Derived.Test.YtghcagibdcblnaaDoorR02
namespace Go.Proofs.YtghcagibdcblnaaDoor
open Go.ChangeShapes Go.WideShapes Go.ChangeAt Go.RowKit
set_option linter.unusedVariables false

/-- a memory that is not too great for the laws -/
def Small (M : Mem) : Prop := M.rom.length ≤ 2000000 ∧ M.ram.length ≤ 2000000 ∧ pre M.ram M.ram.length ≤ 2000000
theorem Small.rows {M : Mem} (h : Small M) : ∀ i, i < M.ram.length → (M.ram.getD i []).length ≤ 1000000000 := fun i hi => by
  have := row_le_pre M.ram i hi
  have := h.2.2
  omega
def Big (M : Mem) : Prop := M.rom.length ≤ maxLen ∧ M.ram.length ≤ maxLen ∧ ∀ i, i < M.ram.length → (M.ram.getD i []).length ≤ maxLen
/-- how many numbers a memory has -/
def cntM (M : Mem) : Nat := M.rom.length + pre M.ram M.ram.length
def markM (M : Mem) (m : Int) : Mem := { M with rom := markL m M.rom.length, ram := mrL M.ram (m + (M.rom.length : Nat)) M.ram.length }
theorem RowR.form {w : World} {v : Value} {zs : List Int} (h : RowR w v zs) : ∃ a cap, v = .slice a zs.length cap := by
  obtain ⟨a, cap, h, _⟩ := h
  exact ⟨a, cap, h⟩
theorem RowsR.form {w : World} {v : Value} {zss : List (List Int)} (h : RowsR w v zss) : ∃ a cap, v = .slice a zss.length cap := by
  obtain ⟨a, cap, h, _⟩ := h
  exact ⟨a, cap, h⟩

theorem eqm_yes (v v' : Value) (M : Mem) (w : World) (h : MemR w v M) (h' : MemR w v' M) (hs : Small M) :
    Calls Tryd.prog 12 #[v, v'] w fun e w' => e = .returned (.bool true) ∧ Below w.heap.size w w' := by
  obtain ⟨vr, vm, rfl, h1, h2⟩ := h
  obtain ⟨vr', vm', rfl, h1', h2'⟩ := h'
  obtain ⟨a1, p1, rfl⟩ := h1.form
  obtain ⟨a2, p2, rfl⟩ := h2.form
  obtain ⟨a3, p3, rfl⟩ := h1'.form
  obtain ⟨a4, p4, rfl⟩ := h2'.form
  have hB : Hid (∀ o o' n, Below w.heap.size w (((w.alloc o).alloc o').drewN n)) := fun o o' n => (((Below.refl _ _).alloc (Nat.le_refl _) _).alloc (by simp) _).trans (Below.drewN _ _ _)
  have k1 : Hid (∀ o o' n, RowR (((w.alloc o).alloc o').drewN n) _ M.rom) := fun o o' n => h1.below (hB.out o o' n)
  have k2 : Hid (∀ o o' n, RowsR (((w.alloc o).alloc o').drewN n) _ M.ram) := fun o o' n => h2.below (hB.out o o' n)
  have k1' : Hid (∀ o o' n, RowR (((w.alloc o).alloc o').drewN n) _ M.rom) := fun o o' n => h1'.below (hB.out o o' n)
  have k2' : Hid (∀ o o' n, RowsR (((w.alloc o).alloc o').drewN n) _ M.ram) := fun o o' n => h2'.below (hB.out o o' n)
  have hr := hs.rows
  obtain ⟨hs1, hs2, hs3⟩ := hs
  replace hr := hid (hr)
  clear h1 h2 h1' h2' hs3
  go_enter Tryd.func12, Tryd.ntmps12
  go_wp2_with fail
  refine (eqr_yes _ _ M.rom _ (k1.out _ _ 0) (k1'.out _ _ 0) (by omega)).mono ?_
  rintro e w1 ⟨rfl, n, rfl⟩
  go_wp2_with fail
  refine (eqss_yes _ _ M.ram _ (k2.out _ _ n) (k2'.out _ _ n) (by omega) hr.out).mono ?_
  rintro e w1 ⟨rfl, n', rfl⟩
  go_wp2
  go_ret
  exact ⟨rfl, hB.out _ _ _⟩
theorem heldm (v : Value) (M : Mem) (m : Int) (w : World) (h : MemR w v (markM M m)) (hs : Small M) (hm0 : 0 ≤ m) (hm1 : m ≤ 10000000) :
    Calls Tryd.prog 15 #[v, .int .i64 m] w fun e w' => e = .returned (.int .i64 (m + (cntM M : Nat))) ∧ Below w.heap.size w w' := by
  obtain ⟨vr, vm, rfl, h1, h2⟩ := h
  obtain ⟨a1, p1, rfl⟩ := h1.form
  obtain ⟨a2, p2, rfl⟩ := h2.form
  have hB : Hid (∀ o, Below w.heap.size w (w.alloc o)) := fun o => (Below.refl _ _).alloc (Nat.le_refl _) _
  have k1 : Hid (∀ o, RowR (w.alloc o) _ (markL m M.rom.length)) := fun o => h1.below (hB.out o)
  have k2 : Hid (∀ o, RowsR (w.alloc o) _ (mrL M.ram (m + (M.rom.length : Nat)) M.ram.length)) := fun o => h2.below (hB.out o)
  obtain ⟨hs1, hs2, hs3⟩ := hs
  have hc : Hid (m + (M.rom.length : Nat) + (pre M.ram M.ram.length : Nat) = m + (cntM M : Nat)) := by unfold Hid cntM; omega
  clear h1 h2
  unfold markM at *
  dsimp only at *
  generalize (markL m M.rom.length).length = L1 at *
  generalize (mrL M.ram (m + (M.rom.length : Nat)) M.ram.length).length = L2 at *
  go_enter Tryd.func15, Tryd.ntmps15
  go_wp2_with fail
  refine (heldr _ m M.rom.length _ (k1.out _) (by omega) (by omega) (by omega)).mono ?_
  rintro e w1 ⟨rfl, rfl⟩
  obtain ⟨q, hq⟩ : ∃ q : Int, m + (M.rom.length : Nat) = q := ⟨_, rfl⟩
  rw [hq] at k2 hc ⊢
  have hq0 : 0 ≤ q ∧ q ≤ 20000000 := by omega
  clear hq
  go_wp2_with fail
  refine (heldss _ q M.ram _ (k2.out _) (by omega) (by omega) (by omega) (by omega)).mono ?_
  rintro e w1 ⟨rfl, rfl⟩
  rw [hc.out]
  have hc0 : 0 ≤ m + (cntM M : Nat) := by omega
  go_wp2
  go_ret
  exact ⟨rfl, hB.out _⟩
theorem markr_nil (m : Int) (w : World) (hm0 : 0 ≤ m) (hm1 : m ≤ 1000000000) : Calls Tryd.prog 32 #[.slice none 0 0, .int .i64 m] w fun e w' => e = .returned (.int .i64 m) ∧ w' = w := by
  go_enter Tryd.func32, Tryd.ntmps32
  go_wp2
  go_loop [1, 5] (fun q i => q = .int .i64 m ∧ i = .int .i64 0) (fun _ i => 0)
  case atStart => exact ⟨rfl, rfl⟩
  case round =>
    obtain ⟨rfl, rfl⟩ := hrel
    go_wp2
    go_ret
    exact ⟨rfl, rfl⟩
theorem markss_nil (m : Int) (w : World) (hm0 : 0 ≤ m) (hm1 : m ≤ 1000000000) : Calls Tryd.prog 33 #[.slice none 0 0, .int .i64 m] w fun e w' => e = .returned (.int .i64 m) ∧ w' = w := by
  go_enter Tryd.func33, Tryd.ntmps33
  go_wp2
  go_loop [1, 5] (fun q i => q = .int .i64 m ∧ i = .int .i64 0) (fun _ i => 0)
  case atStart => exact ⟨rfl, rfl⟩
  case round =>
    obtain ⟨rfl, rfl⟩ := hrel
    go_wp2
    go_ret
    exact ⟨rfl, rfl⟩
theorem markm (v : Value) (M : Mem) (m : Int) (lo hi : Nat) (w : World) (h : MemO w lo hi v M) (hw : hi ≤ w.heap.size) (hs : Small M) (hm0 : 0 ≤ m) (hm1 : m ≤ 10000000) :
    Calls Tryd.prog 14 #[v, .int .i64 m] w fun e w' => e = .returned (.int .i64 (m + (cntM M : Nat))) ∧ MemO w' lo hi v (markM M m) ∧ Touch lo hi w w' := by
  obtain ⟨hs1, hs2, hs3⟩ := hs
  have hc : m + (M.rom.length : Nat) + (pre M.ram M.ram.length : Nat) = m + (cntM M : Nat) := by unfold cntM; omega
  rcases h with ⟨rfl, e1, e2⟩ | ⟨vr, vm, r, s, G, rfl, h1, h2, b1, b2, b3, d1, d2, d3⟩
  · have hz : cntM M = 0 := by unfold cntM; rw [e1, e2]; rfl
    have F : Hid (MemO (w.alloc (.cells #[.slice none 0 0, .slice none 0 0, .int .i64 M.page, .int .i64 M.screen, .bool M.locked] 28)) lo hi (memV (.slice none 0 0) (.slice none 0 0) M.page M.screen M.locked) (markM M m)) := .inl ⟨rfl, by unfold markM; simp [e1, markL], by unfold markM; simp [e2, mrL]⟩
    rw [hz]
    clear hc e1 e2 hz
    go_enter Tryd.func14, Tryd.ntmps14
    go_wp2_with (first | (go_at_call 32; refine (markr_nil _ _ hm0 (by omega)).mono ?_; rintro e w' ⟨rfl, rfl⟩) | (go_at_call 33; refine (markss_nil _ _ hm0 (by omega)).mono ?_; rintro e w' ⟨rfl, rfl⟩))
    go_ret
    exact ⟨ret_int (by simp), F.out, Touch.of_below ((Below.refl _ _).alloc (Nat.le_refl _) _)⟩
  · have hB : Hid (∀ o, Below w.heap.size w (w.alloc o)) := fun o => (Below.refl _ _).alloc (Nat.le_refl _) _
    obtain ⟨c1, _, _, hv1, _, _⟩ := id h1
    obtain ⟨c2, _, _, _, hv2, _, _, _⟩ := id h2
    subst hv1 hv2
    have k1 : Hid (∀ o, RowO (w.alloc o) r _ M.rom) := fun o => h1.kept ((hB.out o).block _ (by omega))
    replace hc := hid (hc)
    have F : Hid (∀ o w1 w2, RowO w1 r (.slice (some ⟨r, 0, none⟩) M.rom.length c1) (markL m M.rom.length) → (w.alloc o).grownBy w1 (some r) →
        (RowsO w1 s G (.slice (some ⟨s, 0, none⟩) M.ram.length c2) M.ram ∧
        (RowsO w2 s G (.slice (some ⟨s, 0, none⟩) M.ram.length c2) (mrL M.ram (m + (M.rom.length : Nat)) M.ram.length) → Touch lo hi w1 w2 → (∀ b, b < w1.heap.size → (∀ i, i < M.ram.length → G i ≠ b) → w2.heap[b]? = w1.heap[b]?) →
          MemO w2 lo hi (memV (.slice (some ⟨r, 0, none⟩) M.rom.length c1) (.slice (some ⟨s, 0, none⟩) M.ram.length c2) M.page M.screen M.locked) (markM M m) ∧ Touch lo hi w w2))) := by
      intro o w1 w2 g1 g2
      have g3 : ∀ b, b < hi → b ≠ r → w1.heap[b]? = w.heap[b]? := fun b hb hne => (g2.block b (by simp; omega) (by simpa using hne)).trans ((hB.out o).block b (by omega))
      refine ⟨h2.kept (g3 s b2.2 (fun e => d1 e.symm)) (fun i hi => g3 _ (b3 i hi).2 (d2 i hi).1), fun g4 g5 g6 => ⟨.inr ⟨_, _, r, s, G, rfl, ?_, ?_, b1, b2, ?_, d1, ?_, ?_⟩, (Touch.of_below (hB.out o)).trans ((Touch.of_grown g2 b1.1 b1.2).trans g5)⟩⟩
      · exact g1.kept (g6 r g1.lt (fun i hi => (d2 i hi).1))
      · exact g4
      · exact fun i hi => b3 i (by simpa [markM, mrL_len] using hi)
      · exact fun i hi => d2 i (by simpa [markM, mrL_len] using hi)
      · exact fun i j hi hj => d3 i j (by simpa [markM, mrL_len] using hi) (by simpa [markM, mrL_len] using hj)
    replace b3 := hid (b3)
    replace d2 := hid (d2)
    replace d3 := hid (d3)
    clear h1 h2
    go_enter Tryd.func14, Tryd.ntmps14
    go_wp2_with fail
    refine (markr _ r m M.rom _ (k1.out _) (by omega) (by omega) (by omega)).mono ?_
    rintro e w1 ⟨rfl, hr1, hg1⟩
    have hf := fun w2 => F.out _ w1 w2 hr1 hg1
    have hx : w1.cell? ⟨w.heap.size, 1, none⟩ = some (.slice (some ⟨s, 0, none⟩) M.ram.length c2) := hg1.cell (by simp) (by simp; omega)
    replace hf := hid (hf)
    clear hr1 hg1 F k1
    obtain ⟨q, hq⟩ : ∃ q : Int, m + (M.rom.length : Nat) = q := ⟨_, rfl⟩
    rw [hq] at hc hf ⊢
    have hq0 : 0 ≤ q ∧ q ≤ 20000000 := by omega
    clear hq
    go_wp2_with fail
    refine (markss _ q M.ram s lo hi G _ (hf.out w1).1 b3.out (fun i hi => (d2.out i hi).2) d3.out (by omega) (by omega) (by omega) (by omega)).mono ?_
    rintro e w2 ⟨rfl, hr2, ht2, ho2⟩
    have hE := (hf.out w2).2 hr2 ht2 ho2
    replace hE := hid (hE)
    rw [hc.out]
    clear hr2 ht2 ho2 hf
    go_wp2
    go_ret
    exact ⟨rfl, hE.out.1, hE.out.2⟩
end Go.Proofs.YtghcagibdcblnaaDoor
