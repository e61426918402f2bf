/- What the program answers where an address lies, what is read there, whether it is shared, and what a write makes of a memory. -/
import Derived.Test.YtpdngjjbhcfplabBf
namespace Go.Proofs.Ytpdngjjbhcfplab
open Go.ChangeShapes Go.WideShapes Go.ChangeAt Go.RowKit
set_option linter.unusedVariables false
set_option linter.unusedSimpArgs false

theorem row_one (W : World) (a : Int) (t : TypeId) : RowR (W.alloc (.cells #[.int .i64 a] t)) (.slice (some ⟨W.heap.size, 0, none⟩) 1 1) [a] :=
  ⟨_, 1, rfl, .inr ⟨W.heap.size, 0, rfl, fun i hi => by
    have hi : i < 1 := hi
    obtain rfl : i = 0 := by omega
    exact cell_new1 W _ t⟩⟩
theorem row_one2 (W : World) (o : Obj) (a : Int) (t : TypeId) : RowR ((W.alloc o).alloc (.cells #[.int .i64 a] t)) (.slice (some ⟨W.heap.size + 1, 0, none⟩) 1 1) [a] := by
  have := row_one (W.alloc o) a t
  rw [World.size_alloc] at this
  exact this
theorem row_one3 (W : World) (o o' : Obj) (a : Int) (t : TypeId) : RowR (((W.alloc o).alloc o').alloc (.cells #[.int .i64 a] t)) (.slice (some ⟨W.heap.size + 1 + 1, 0, none⟩) 1 1) [a] := by
  have := row_one ((W.alloc o).alloc o') a t
  simp only [World.size_alloc] at this
  exact this
theorem row_two3 (W : World) (o o' : Obj) (a b : Int) (t : TypeId) : RowR (((W.alloc o).alloc o').alloc (.cells #[.int .i64 a, .int .i64 b] t)) (.slice (some ⟨W.heap.size + 1 + 1, 0, none⟩) 2 2) [a, b] := by
  have h := (Blk.new ((W.alloc o).alloc o') #[.int .i64 a, .int .i64 b] t).cell
  simp only [World.size_alloc] at h
  refine ⟨_, 2, rfl, .inr ⟨W.heap.size + 1 + 1, 0, rfl, fun i hi => ?_⟩⟩
  have hi : i < 2 := hi
  rcases (by omega : i = 0 ∨ i = 1) with rfl | rfl
  · exact h 0
  · exact h 1
/-- memoryFault with one number beside -/
theorem fault1_impl (v : Value) (M : Mem) (b cap : Nat) (a : Int) (w : World) (h : MemR w v M) (hf : Fit M) (hz : RowR w (.slice (some ⟨b, 0, none⟩) 1 cap) [a]) :
    Calls Try.prog 19 #[v, .slice (some ⟨b, 0, none⟩) 1 cap] w fun e w' => e = .returned (.int .i64 (askM M a)) ∧ Below w.heap.size w w' := by
  rw [← fault_one]
  exact fault_impl v M (some ⟨b, 0, none⟩) cap [a] w h hf hz (by simp)
theorem fault2_impl (v : Value) (M : Mem) (b cap : Nat) (a x : Int) (w : World) (h : MemR w v M) (hf : Fit M) (hz : RowR w (.slice (some ⟨b, 0, none⟩) 2 cap) [a, x]) :
    Calls Try.prog 19 #[v, .slice (some ⟨b, 0, none⟩) 2 cap] w fun e w' => e = .returned (.int .i64 (pokeC M a x)) ∧ Below w.heap.size w w' := by
  have e : pokeC M a x = faultM M [a, x] := by
    unfold pokeC faultM askM
    cases okM M
    · simp
    · cases ha : inB a 0 255
      · simp [ha]
      · cases hx : inB x 0 255 <;> simp [ha, hx]
  rw [e]
  exact fault_impl v M (some ⟨b, 0, none⟩) cap [a, x] w h hf hz (by simp)
theorem Brd.below {w w' : World} {lo hi B r s : Nat} {G Q : Nat → Nat} {M : Mem} (h : Brd w lo hi B r s G Q M) (hb : Below w.heap.size w w') : Brd w' lo hi B r s G Q M := by
  have hB := h.blk.lt
  have ho := h.ord
  exact ⟨h.lies.kept (fun b _ h1 => hb.block b (by omega)), h.blk.below hb hB, fun q hq => by
    obtain ⟨cap, hc⟩ := h.bank q hq
    exact ⟨cap, hc.below hb hc.lt⟩, ho⟩
theorem where_impl (v : Value) (M : Mem) (a : Int) (w : World) (h : MemR w v M) (hf : Fit M) :
    Calls Try.prog 9 #[v, .int .i64 a] w fun e w' => e = .returned (where3 M a) ∧ Below w.heap.size w w' := by
  obtain ⟨a1, p1, a2, p2, rfl, _, _⟩ := h.form
  have hB : Hid (∀ o o', Below w.heap.size w ((w.alloc o).alloc o')) := fun o o' => ((Below.refl _ _).alloc (Nat.le_refl _) _).alloc (by simp) _
  have hM : Hid (∀ o o', MemR ((w.alloc o).alloc o') (memV (.slice a1 M.rom.length p1) (.slice a2 M.ram.length p2) M.page M.screen M.locked) M) := fun o o' => h.below (hB.out o o')
  have hF : Hid (Fit M) := hf
  clear h hf
  rcases ask_cases M a with ⟨hk, _, h0, h1⟩ | ⟨hk, hk2⟩
  · have e : where3 M a = .tuple #[.int .i64 (bankI M.page a), .int .i64 (a % 64), .int .i64 0] := by unfold where3; rw [if_pos hk]
    rw [e]
    clear e
    go_enter Try.func9, Try.ntmps9
    go_wp2_with fail
    refine (fault1_impl _ M _ _ a _ (hM.out _ _) hF.out (row_one2 _ _ _ _)).mono ?_
    rintro e w1 ⟨rfl, hb1⟩
    rw [hk]
    have hz := hb1.size
    simp only [World.size_alloc] at hz
    have x0 := (((Blk.new w _ _).alloc _).below hb1 (by simp; omega)).cell
    have hB1 := hid (new_trans (hB.out _ _) hb1)
    clear hb1
    go_wp2_with fail
    refine (bank_impl a1 a2 _ p1 _ p2 _ _ _ a _ h0 h1).mono ?_
    rintro e w2 ⟨rfl, hb2⟩
    replace hb2 := hid hb2
    clear x0
    go_wp2
    go_ret3
    exact ⟨rfl, new_trans hB1.out hb2.out⟩
  · have e : where3 M a = .tuple #[.int .i64 0, .int .i64 0, .int .i64 (askM M a)] := by unfold where3; rw [if_neg hk]
    rw [e]
    clear e
    generalize hx : askM M a = x at *
    replace hx := hid hx
    go_enter Try.func9, Try.ntmps9
    go_wp2_with fail
    refine (fault1_impl _ M _ _ a _ (hM.out _ _) hF.out (row_one2 _ _ _ _)).mono ?_
    rintro e w1 ⟨rfl, hb1⟩
    rw [hx.out]
    replace hb1 := hid hb1
    go_wp2
    go_ret3
    exact ⟨rfl, new_trans (hB.out _ _) hb1.out⟩
theorem shared_impl (v : Value) (M : Mem) (a : Int) (w : World) (h : MemR w v M) (hf : Fit M) :
    Calls Try.prog 10 #[v, .int .i64 a] w fun e w' => e = .returned (shared2 M a) ∧ Below w.heap.size w w' := by
  obtain ⟨a1, p1, a2, p2, rfl, _, _⟩ := h.form
  have hB : Hid (∀ o o', Below w.heap.size w ((w.alloc o).alloc o')) := fun o o' => ((Below.refl _ _).alloc (Nat.le_refl _) _).alloc (by simp) _
  have hM : Hid (∀ o o', MemR ((w.alloc o).alloc o') (memV (.slice a1 M.rom.length p1) (.slice a2 M.ram.length p2) M.page M.screen M.locked) M) := fun o o' => h.below (hB.out o o')
  have hF : Hid (Fit M) := hf
  clear h hf
  rcases ask_cases M a with ⟨hk, _, h0, h1⟩ | ⟨hk, hk2⟩
  · have e : shared2 M a = .tuple #[.bool (decide (bankI M.page a = 1 ∨ bankI M.page a = 3)), .int .i64 0] := by unfold shared2; rw [if_pos hk]
    rw [e]
    clear e
    generalize hd : decide (bankI M.page a = 1 ∨ bankI M.page a = 3) = d
    replace hd := hid hd
    go_enter Try.func10, Try.ntmps10
    go_wp2_with fail
    refine (fault1_impl _ M _ _ a _ (hM.out _ _) hF.out (row_one2 _ _ _ _)).mono ?_
    rintro e w1 ⟨rfl, hb1⟩
    rw [hk]
    have hz := hb1.size
    simp only [World.size_alloc] at hz
    have x0 := (((Blk.new w _ _).alloc _).below hb1 (by simp; omega)).cell
    have hB1 := hid (new_trans (hB.out _ _) hb1)
    clear hb1
    go_wp2_with fail
    refine (bank_impl a1 a2 _ p1 _ p2 _ _ _ a _ h0 h1).mono ?_
    rintro e w2 ⟨rfl, hb2⟩
    replace hb2 := hid hb2
    clear x0
    go_wp2_with (go_at_call 27; refine (screen_impl _ _).mono ?_; rintro e w' ⟨rfl, rfl⟩; rw [hd.out])
    go_ret2
    exact ⟨rfl, new_trans hB1.out hb2.out⟩
  · have e : shared2 M a = .tuple #[.bool false, .int .i64 (askM M a)] := by unfold shared2; rw [if_neg hk]
    rw [e]
    clear e
    generalize hx : askM M a = x at *
    replace hx := hid hx
    go_enter Try.func10, Try.ntmps10
    go_wp2_with fail
    refine (fault1_impl _ M _ _ a _ (hM.out _ _) hF.out (row_one2 _ _ _ _)).mono ?_
    rintro e w1 ⟨rfl, hb1⟩
    rw [hx.out]
    replace hb1 := hid hb1
    go_wp2
    go_ret2
    exact ⟨rfl, new_trans (hB.out _ _) hb1.out⟩
theorem peek_impl (v : Value) (M : Mem) (a : Int) (w : World) (h : MemR w v M) (hf : Fit M) :
    Calls Try.prog 13 #[v, .int .i64 a] w fun e w' => e = .returned (peek2 M a) ∧ Below w.heap.size w w' := by
  obtain ⟨a1, p1, a2, p2, rfl, _, _⟩ := h.form
  have hB : Hid (∀ o o', Below w.heap.size w ((w.alloc o).alloc o')) := fun o o' => ((Below.refl _ _).alloc (Nat.le_refl _) _).alloc (by simp) _
  have hM : Hid (∀ W', Below w.heap.size w W' → MemR W' (memV (.slice a1 M.rom.length p1) (.slice a2 M.ram.length p2) M.page M.screen M.locked) M) := fun W' hb => h.below hb
  have hF : Hid (Fit M) := hf
  clear h hf
  rcases ask_cases M a with ⟨hk, ho, h0, h1⟩ | ⟨hk, hk2⟩
  · have e : peek2 M a = .tuple #[.int .i64 (peekI M a), .int .i64 0] := by unfold peek2; rw [if_pos hk]
    rw [e]
    clear e
    go_enter Try.func13, Try.ntmps13
    go_wp2_with fail
    refine (fault1_impl _ M _ _ a _ (hM.out _ (hB.out _ _)) hF.out (row_one2 _ _ _ _)).mono ?_
    rintro e w1 ⟨rfl, hb1⟩
    rw [hk]
    have hz := hb1.size
    simp only [World.size_alloc] at hz
    have x0 := (((Blk.new w _ _).alloc _).below hb1 (by simp; omega)).cell
    have hB1 := hid (new_trans (hB.out _ _) hb1)
    clear hb1
    go_wp2_with fail
    refine (board_impl _ M _ (hM.out _ hB1.out) ho hF.out).mono ?_
    rintro e w2 ⟨hi, B, r, s, G, Q, rfl, hBr, hb2⟩
    have hB2 := hid (new_trans hB1.out hb2)
    replace hBr := hid hBr
    clear x0 hb2 hB1
    go_wp2_with (go_at_call 32; refine (read_impl _ _ _ _ _ _ _ _ M a hBr.out ho h0 h1).mono ?_; rintro e w' ⟨rfl, rfl⟩)
    go_ret2
    exact ⟨rfl, hB2.out⟩
  · have e : peek2 M a = .tuple #[.int .i64 0, .int .i64 (askM M a)] := by unfold peek2; rw [if_neg hk]
    rw [e]
    clear e
    generalize hx : askM M a = x at *
    replace hx := hid hx
    go_enter Try.func13, Try.ntmps13
    go_wp2_with fail
    refine (fault1_impl _ M _ _ a _ (hM.out _ (hB.out _ _)) hF.out (row_one2 _ _ _ _)).mono ?_
    rintro e w1 ⟨rfl, hb1⟩
    rw [hx.out]
    replace hb1 := hid hb1
    go_wp2
    go_ret2
    exact ⟨rfl, new_trans (hB.out _ _) hb1.out⟩
end Go.Proofs.Ytpdngjjbhcfplab
