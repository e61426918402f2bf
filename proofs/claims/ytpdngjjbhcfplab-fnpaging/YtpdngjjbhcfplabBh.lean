/- What the program answers of a write and of paging. -/
import Derived.Test.YtpdngjjbhcfplabBg
import Derived.Test.YtpdngjjbhcfplabMk
namespace Go.Proofs.Ytpdngjjbhcfplab
open Go.ChangeShapes Go.WideShapes Go.ChangeAt Go.RowKit
set_option linter.unusedVariables false
set_option linter.unusedSimpArgs false

theorem three_new {w w1 : World} {A0 A1 : Array Value} {t t1 : TypeId} {o : Obj} (hb : Below (((w.alloc (.cells A0 t)).alloc (.cells A1 t1)).alloc o).heap.size (((w.alloc (.cells A0 t)).alloc (.cells A1 t1)).alloc o) w1) :
    Blk w1 w.heap.size A0 ∧ Blk w1 (w.heap.size + 1) A1 ∧ Below w.heap.size w w1 := by
  have hs : (((w.alloc (.cells A0 t)).alloc (.cells A1 t1)).alloc o).heap.size = w.heap.size + 1 + 1 + 1 := by simp
  have q1 := Blk.new (w.alloc (.cells A0 t)) A1 t1
  simp only [World.size_alloc] at q1
  refine ⟨(((Blk.new w A0 t).alloc _).alloc _).below hb (by omega), (q1.alloc _).below hb (by omega), ?_⟩
  exact ((((Below.refl _ _).alloc (Nat.le_refl _) _).alloc (by simp) _).alloc (by simp; omega) _).trans (hb.mono (by omega))
theorem pokeC_cases (M : Mem) (a v : Int) : (pokeC M a v = 0 ∧ okM M = true ∧ (0 ≤ a ∧ a ≤ 255) ∧ inB v 0 255 = true) ∨ (pokeC M a v ≠ 0 ∧ (pokeC M a v == 0) = false) := by
  unfold pokeC
  rcases ask_cases M a with ⟨hk, ho, h0, h1⟩ | ⟨hk, hk2⟩
  · rw [if_pos hk]
    cases hv : inB v 0 255
    · right; simp
    · left; exact ⟨by simp, ho, ⟨h0, h1⟩, rfl⟩
  · rw [if_neg hk]
    exact .inr ⟨hk, hk2⟩
set_option maxRecDepth 100000 in
theorem poke_impl (v : Value) (M : Mem) (a x : Int) (w : World) (h : MemR w v M) (hf : Fit M) :
    Calls Try.prog 7 #[v, .int .i64 a, .int .i64 x] w fun e w' => ∃ u, e = .returned (.tuple #[u, .int .i64 (pokeC M a x)]) ∧ MemO w' w.heap.size w'.heap.size u (pokeR M a x) ∧ Below w.heap.size w w' := by
  obtain ⟨a1, p1, a2, p2, rfl, _, _⟩ := h.form
  have hB : Hid (∀ o o' o'', Below w.heap.size w (((w.alloc o).alloc o').alloc o'')) := fun o o' o'' => (((Below.refl _ _).alloc (Nat.le_refl _) _).alloc (by simp) _).alloc (by simp; omega) _
  have hM : Hid (∀ W', Below w.heap.size w W' → MemR W' (memV (.slice a1 M.rom.length p1) (.slice a2 M.ram.length p2) M.page M.screen M.locked) M) := fun W' hb => h.below hb
  have hF : Hid (Fit M) := hf
  clear h hf
  rcases pokeC_cases M a x with ⟨hk, ho, ⟨h0, h1⟩, hv⟩ | ⟨hk, hk2⟩
  · have e : pokeR M a x = pokeM M a x := by unfold pokeR; rw [if_pos hk]
    rw [e, hk]
    have hk' := hid hk
    clear e hk
    go_enter Try.func7, Try.ntmps7
    go_wp2_with fail
    refine (fault2_impl _ M _ _ a x _ (hM.out _ (hB.out _ _ _)) hF.out (row_two3 _ _ _ _ _ _)).mono ?_
    rintro e w1 ⟨rfl, hb1⟩
    rw [hk'.out]
    obtain ⟨q0, q1, hB1⟩ := three_new hb1
    have x0 := q0.cell
    have hz1 := q1.lt
    replace q1 := hid q1
    replace hB1 := hid hB1
    clear hb1 q0
    go_wp2_with fail
    refine (board_impl _ M _ (hM.out _ hB1.out) ho hF.out).mono ?_
    rintro e w2 ⟨hi, B, r, s, G, Q, rfl, hBr, hb2⟩
    have q2 := hid (q1.out.below hb2 hz1)
    have hB2 := hid (new_trans hB1.out hb2)
    have hl1 := hb2.size
    replace hBr := hid hBr
    clear x0 hb2 hB1 q1
    go_wp2_with fail
    refine (write_impl _ _ _ _ _ _ _ _ M a x hBr.out ho h0 h1).mono ?_
    rintro e w3 ⟨rfl, hBr3, hb3⟩
    have q3 := q2.out.below hb3 hz1
    have hB3 := hid (hB2.out.trans (hb3.mono (by omega)))
    have hpok := poke_ok (a := a) ho hv
    have hlr : (pokeM M a x).rom.length = 64 := bytes_len (ok_parts hpok).1
    have hlm : (pokeM M a x).ram.length = 4 := (ok_parts hpok).2.1
    have hmem := hid (by have := hBr3.lies.memO; rw [hlr, hlm] at this; exact this)
    have hord := hBr3.ord.1
    have y := hBr3.blk.cell
    have f3 := q3.frozen
    have x3 := q3.cell
    have hw1 : w.heap.size + 1 < w1.heap.size := hz1
    have hBl := hBr3.blk.lt
    have hlo := hBr3.lies.br
    clear hBr hBr3 hb3 q2 q3 hB2 hlr hlm
    go_wp2
    refine bodyPost_ret (v := .tuple #[memV (.slice (some ⟨r, 0, none⟩) 64 64) (.slice (some ⟨s, 0, none⟩) 4 4) (pokeM M a x).page (pokeM M a x).screen (pokeM M a x).locked, .int .i64 0]) (by simp [results, Try.results7, go_sem, x3]) rfl ⟨_, rfl, ?_, ?_⟩
    · refine (hmem.out.kept (fun b hb1 hb2 => ?_)).mono (by omega) (by (iterate 5 rw [sizeSet]); omega)
      iterate 5 rw [Below.heap_setCell _ _ _ _ (by simp; omega)]
    · iterate 5 refine Below.setCell ?_ (by first | omega | (simp; done) | (simp; omega)) _
      exact hB3.out
  · have e : pokeR M a x = mem0 := by unfold pokeR; rw [if_neg hk]
    rw [e]
    clear e
    generalize hx : pokeC M a x = y at *
    replace hx := hid hx
    go_enter Try.func7, Try.ntmps7
    go_wp2_with fail
    refine (fault2_impl _ M _ _ a x _ (hM.out _ (hB.out _ _ _)) hF.out (row_two3 _ _ _ _ _ _)).mono ?_
    rintro e w1 ⟨rfl, hb1⟩
    rw [hx.out]
    obtain ⟨q0, q1, hB1⟩ := three_new hb1
    have x1 := q1.cell
    have f1 := q1.frozen
    replace hB1 := hid hB1
    clear hb1 q0 q1
    go_wp2
    refine bodyPost_ret (v := .tuple #[memV (.slice none 0 0) (.slice none 0 0) 0 0 false, .int .i64 y]) (by simp [results, Try.results7, go_sem, x1]) rfl ⟨_, rfl, MemO.zero _ _ _, ?_⟩
    iterate 5 refine Below.setCell ?_ (by first | omega | (simp; done) | (simp; omega)) _
    exact hB1.out
theorem memO_fields {W : World} {lo hi : Nat} {vr vm : Value} {pg sc : Int} {l : Bool} {M : Mem} (h : MemO W lo hi (memV vr vm M.page M.screen M.locked) M) : MemO W lo hi (memV vr vm pg sc l) { M with page := pg, screen := sc, locked := l } := by
  rcases h with ⟨e, e1, e2⟩ | ⟨vr', vm', r, s, G, e, h1, h2, r2⟩
  · injection e with e
    have e3 : vr = .slice none 0 0 := by
      have := congrArg (·[0]?) e
      simpa using this
    have e4 : vm = .slice none 0 0 := by
      have := congrArg (·[1]?) e
      simpa using this
    exact .inl ⟨by rw [e3, e4], e1, e2⟩
  · injection e with e
    have e3 : vr = vr' := by
      have := congrArg (·[0]?) e
      simpa using this
    have e4 : vm = vm' := by
      have := congrArg (·[1]?) e
      simpa using this
    subst e3 e4
    exact .inr ⟨_, _, r, s, G, rfl, h1, h2, r2⟩
/-- what the program makes of the screen's bit -/
theorem screen_bit (k : Nat) (hk : k < 256) : (1 + 2 * ((Nat.land (k / 8) 1 : Nat) : Int)) = if Nat.land k 8 = 0 then 1 else 3 := by
  have h : ∀ k, k < 256 → (Nat.beq (Nat.land k 8) 0 = true ∧ Nat.land (k / 8) 1 = 0) ∨ (Nat.beq (Nat.land k 8) 0 = false ∧ Nat.land (k / 8) 1 = 1) := by decide +kernel
  rcases h k hk with ⟨h1, h2⟩ | ⟨h1, h2⟩
  · rw [h2, if_pos (Nat.eq_of_beq_eq_true h1)]; rfl
  · rw [h2, if_neg (fun e => by rw [e] at h1; cases h1)]; rfl
set_option maxRecDepth 100000 in
theorem page_impl (v : Value) (M : Mem) (a : Int) (w : World) (h : MemR w v M) (hf : Fit M) :
    Calls Try.prog 16 #[v, .int .i64 a] w fun e w' => ∃ u, e = .returned (.tuple #[u, .int .i64 (pageC M a)]) ∧ MemO w' w.heap.size w'.heap.size u (pageR M a) ∧ Below w.heap.size w w' := by
  obtain ⟨a1, p1, a2, p2, rfl, _, _⟩ := h.form
  have hB : Hid (∀ o o' o'', Below w.heap.size w (((w.alloc o).alloc o').alloc o'')) := fun o o' o'' => (((Below.refl _ _).alloc (Nat.le_refl _) _).alloc (by simp) _).alloc (by simp; omega) _
  have hM : Hid (∀ W', Below w.heap.size w W' → MemR W' (memV (.slice a1 M.rom.length p1) (.slice a2 M.ram.length p2) M.page M.screen M.locked) M) := fun W' hb => h.below hb
  have hF : Hid (Fit M) := hf
  clear h hf
  rcases ask_cases M a with ⟨hk, ho, h0, h1⟩ | ⟨hk, hk2⟩
  · cases hl : M.locked
    · have e1 : pageC M a = 0 := by unfold pageC; rw [if_pos hk, hl]; rfl
      have e2 : pageR M a = pageM M a := by unfold pageR; rw [if_pos hk, hl]; rfl
      rw [e1, e2]
      clear e1 e2
      obtain ⟨k, rfl⟩ : ∃ k : Nat, a = (k : Int) := ⟨a.toNat, by omega⟩
      have hk256 : k < 256 := by omega
      have hkk := hid hk
      have hl' := hid hl
      rw [hl] at hM
      have r1 : bits .and .i64 (k : Int) 3 = ((Nat.land k 3 : Nat) : Int) := bAnd k 3 (by omega) (by omega)
      have r2 : bits .and .i64 (k : Int) 8 = ((Nat.land k 8 : Nat) : Int) := bAnd k 8 (by omega) (by omega)
      have r3 : bits .and .i64 (k : Int) 32 = ((Nat.land k 32 : Nat) : Int) := bAnd k 32 (by omega) (by omega)
      have hpm : Hid (∀ b, b = (Nat.beq (Nat.land k 8) 0) → pageM M (k : Int) = { M with page := (Nat.land k 3 : Nat), screen := (if b = true then 1 else 3), locked := !(Nat.beq (Nat.land k 32) 0) }) := fun b hb => by
        unfold pageM
        rw [Int.toNat_natCast, screen_bit k hk256]
        congr 1
        subst hb
        by_cases e : Nat.land k 8 = 0
        · rw [if_pos e, e]; rfl
        · rw [if_neg e]
          cases e' : Nat.beq (Nat.land k 8) 0
          · rfl
          · exact absurd (Nat.eq_of_beq_eq_true e') e
      have r4 : (((Nat.land k 32 : Nat) : Int) != 0) = !(Nat.beq (Nat.land k 32) 0) := by
        rw [bne]
        congr 1
        rw [Bool.eq_iff_iff]
        simp
      have r5 : (((Nat.land k 8 : Nat) : Int) != 0) = !(Nat.beq (Nat.land k 8) 0) := by
        rw [bne]
        congr 1
        rw [Bool.eq_iff_iff]
        simp
      generalize Nat.land k 3 = x1 at *
      generalize Nat.land k 8 = x2 at *
      generalize Nat.land k 32 = x3 at *
      generalize Nat.beq x3 0 = y3 at *
      generalize Nat.beq x2 0 = y2 at *
      clear hk
      go_enter Try.func16, Try.ntmps16
      go_wp2_with fail
      refine (fault1_impl _ M _ _ (k : Int) _ ?_ hF.out (row_one3 _ _ _ _ _)).mono ?_
      · exact hM.out _ (hB.out _ _ _)
      rintro e w1 ⟨rfl, hb1⟩
      rw [hkk.out]
      obtain ⟨q0, q1, hB1⟩ := three_new hb1
      have x0 := q0.cell
      have hz1 := q1.lt
      have hz0 := q0.lt
      replace q1 := hid q1
      replace q0 := hid q0
      replace hB1 := hid hB1
      clear hb1
      go_wp2_with fail
      refine (copy_impl _ M _ ?_ hF.out).mono ?_
      · exact hM.out _ hB1.out
      rintro e w2 ⟨r, s, G, rfl, hL, hb2⟩
      rw [hl'.out]
      have q3 := q1.out.below hb2 hz1
      have q4 := q0.out.below hb2 hz0
      have hB2 := hid (new_trans hB1.out hb2)
      have x3 := q3.cell
      have f3 := q3.frozen
      have x4 := q4.cell
      have hz3 := q3.lt
      have hz4 := q4.lt
      have hl1 : M.rom.length = 64 := bytes_len (ok_parts ho).1
      have hl2 : M.ram.length = 4 := (ok_parts ho).2.1
      have hmo := hid (by have := hL.memO; rw [hl1, hl2] at this; exact this)
      rw [hl1, hl2]
      clear x0 q0 q1 q3 q4 hb2 hB1 hL hl1 hl2
      cases y2
      · go_wp2
        refine bodyPost_ret (v := .tuple #[memV (.slice (some ⟨r, 0, none⟩) 64 64) (.slice (some ⟨s, 0, none⟩) 4 4) (x1 : Nat) 3 (!y3), .int .i64 0]) (by simp [results, Try.results16, go_sem, x3, hz3]) rfl ⟨_, rfl, ?_, ?_⟩
        · rw [hpm.out _ rfl]
          refine memO_fields ((hmo.out.kept (fun b hb1 hb2 => ?_)).mono (by omega) (by rw [World.size_alloc]; (iterate 5 rw [sizeSet]); omega))
          rw [Below.heap_alloc _ _ _ (by (iterate 5 rw [sizeSet]); exact hb2)]
          iterate 5 rw [Below.heap_setCell _ _ _ _ (by simp; omega)]
        · refine Below.alloc ?_ (by (iterate 5 rw [sizeSet]); omega) _
          iterate 5 refine Below.setCell ?_ (by first | omega | (simp; done) | (simp; omega)) _
          exact hB2.out
      · go_wp2
        refine bodyPost_ret (v := .tuple #[memV (.slice (some ⟨r, 0, none⟩) 64 64) (.slice (some ⟨s, 0, none⟩) 4 4) (x1 : Nat) 1 (!y3), .int .i64 0]) (by simp [results, Try.results16, go_sem, x3, hz3]) rfl ⟨_, rfl, ?_, ?_⟩
        · rw [hpm.out _ rfl]
          refine memO_fields ((hmo.out.kept (fun b hb1 hb2 => ?_)).mono (by omega) (by rw [World.size_alloc]; (iterate 5 rw [sizeSet]); omega))
          rw [Below.heap_alloc _ _ _ (by (iterate 5 rw [sizeSet]); exact hb2)]
          iterate 5 rw [Below.heap_setCell _ _ _ _ (by simp; omega)]
        · refine Below.alloc ?_ (by (iterate 5 rw [sizeSet]); omega) _
          iterate 5 refine Below.setCell ?_ (by first | omega | (simp; done) | (simp; omega)) _
          exact hB2.out
    · have e1 : pageC M a = 12 := by unfold pageC; rw [if_pos hk, hl]; rfl
      have e2 : pageR M a = M := by unfold pageR; rw [if_pos hk, hl]; rfl
      rw [e1, e2]
      clear e1 e2
      have hkk := hid hk
      have hl' := hid hl
      rw [hl] at hM
      clear hk
      go_enter Try.func16, Try.ntmps16
      go_wp2_with fail
      refine (fault1_impl _ M _ _ a _ ?_ hF.out (row_one3 _ _ _ _ _)).mono ?_
      · exact hM.out _ (hB.out _ _ _)
      rintro e w1 ⟨rfl, hb1⟩
      rw [hkk.out]
      obtain ⟨q0, q1, hB1⟩ := three_new hb1
      have x0 := q0.cell
      have hz1 := q1.lt
      have hz0 := q0.lt
      replace q1 := hid q1
      replace q0 := hid q0
      replace hB1 := hid hB1
      clear hb1
      go_wp2_with fail
      refine (copy_impl _ M _ ?_ hF.out).mono ?_
      · exact hM.out _ hB1.out
      rintro e w2 ⟨r, s, G, rfl, hL, hb2⟩
      rw [hl'.out]
      have q3 := q1.out.below hb2 hz1
      have q4 := q0.out.below hb2 hz0
      have hB2 := hid (new_trans hB1.out hb2)
      have x3 := q3.cell
      have f3 := q3.frozen
      have x4 := q4.cell
      have hz3 := q3.lt
      have hz4 := q4.lt
      have hl1 : M.rom.length = 64 := bytes_len (ok_parts ho).1
      have hl2 : M.ram.length = 4 := (ok_parts ho).2.1
      have hmo := hid (by have := hL.memO; rw [hl1, hl2, hl'.out] at this; exact this)
      rw [hl1, hl2]
      clear x0 q0 q1 q3 q4 hb2 hB1 hL hl1 hl2
      go_wp2
      refine bodyPost_ret (v := .tuple #[memV (.slice (some ⟨r, 0, none⟩) 64 64) (.slice (some ⟨s, 0, none⟩) 4 4) M.page M.screen true, .int .i64 12]) (by simp [results, Try.results16, go_sem, x3, hz3]) rfl ⟨_, rfl, ?_, ?_⟩
      · refine (hmo.out.kept (fun b hb1 hb2 => ?_)).mono (by omega) (by rw [World.size_alloc]; (iterate 5 rw [sizeSet]); omega)
        rw [Below.heap_alloc _ _ _ (by (iterate 5 rw [sizeSet]); exact hb2)]
        iterate 5 rw [Below.heap_setCell _ _ _ _ (by simp; omega)]
      · refine Below.alloc ?_ (by (iterate 5 rw [sizeSet]); omega) _
        iterate 5 refine Below.setCell ?_ (by first | omega | (simp; done) | (simp; omega)) _
        exact hB2.out
  · have e1 : pageC M a = askM M a := by unfold pageC; rw [if_neg hk]
    have e2 : pageR M a = mem0 := by unfold pageR; rw [if_neg hk]
    rw [e1, e2]
    clear e1 e2
    generalize hx : askM M a = y at *
    replace hx := hid hx
    go_enter Try.func16, Try.ntmps16
    go_wp2_with fail
    refine (fault1_impl _ M _ _ a _ (hM.out _ (hB.out _ _ _)) hF.out (row_one3 _ _ _ _ _)).mono ?_
    rintro e w1 ⟨rfl, hb1⟩
    rw [hx.out]
    obtain ⟨q0, q1, hB1⟩ := three_new hb1
    have x1 := q1.cell
    have f1 := q1.frozen
    replace hB1 := hid hB1
    clear hb1 q0 q1
    go_wp2
    refine bodyPost_ret (v := .tuple #[memV (.slice none 0 0) (.slice none 0 0) 0 0 false, .int .i64 y]) (by simp [results, Try.results16, go_sem, x1]) rfl ⟨_, rfl, MemO.zero _ _ _, ?_⟩
    iterate 5 refine Below.setCell ?_ (by first | omega | (simp; done) | (simp; omega)) _
    exact hB1.out
end Go.Proofs.Ytpdngjjbhcfplab
