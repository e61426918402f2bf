/- What the specification answers whether an address is shared, and what paging makes of a memory. -/
import Derived.Test.YtpdngjjbhcfplalMi
import Derived.Test.YtpdngjjbhcfplalBt
namespace Go.Proofs.Ytpdngjjbhcfplal
open Go.ChangeShapes Go.WideShapes Go.ChangeAt Go.RowKit
set_option linter.unusedVariables false

theorem shared0_spec (a1 a2 : Option Addr) (n1 p1 n2 p2 : Nat) (pg sc : Int) (l : Bool) (a : Int) (w : World) (h0 : 0 ≤ a) (h1 : a ≤ 255) :
    Calls Try.prog 49 #[memV (.slice a1 n1 p1) (.slice a2 n2 p2) pg sc l, .int .i64 a] w fun e w' => e = .returned (.bool (decide (bankI pg a = 1 ∨ bankI pg a = 3))) ∧ Below w.heap.size w w' := by
  have hB : Hid (∀ o, Below w.heap.size w (w.alloc o)) := fun o => (Below.refl _ _).alloc (Nat.le_refl _) _
  by_cases h2 : bankI pg a = 1
  · have e : decide (bankI pg a = 1 ∨ bankI pg a = 3) = true := by simp [h2]
    rw [e]
    clear e
    go_enter Try.func49, Try.ntmps49
    go_wp2_with fail
    refine (bank_spec a1 a2 _ p1 _ p2 _ _ _ a _ h0 h1).mono ?_
    rintro e w1 ⟨rfl, hb1⟩
    rw [h2]
    replace hb1 := hid hb1
    go_wp2
    go_ret
    exact ⟨rfl, new_trans (hB.out _) hb1.out⟩
  · have e : decide (bankI pg a = 1 ∨ bankI pg a = 3) = (bankI pg a == 3) := by rw [Bool.eq_iff_iff]; simp [h2]
    have h3 : (bankI pg a == 1) = false := by simpa using h2
    rw [e]
    clear e h2
    obtain ⟨k, hkk⟩ : ∃ k, bankI pg a = k := ⟨_, rfl⟩
    rw [hkk] at h3 ⊢
    replace hkk := hid hkk
    go_enter Try.func49, Try.ntmps49
    go_wp2_with fail
    refine (bank_spec a1 a2 _ p1 _ p2 _ _ _ a _ h0 h1).mono ?_
    rintro e w1 ⟨rfl, hb1⟩
    replace hb1 := hid hb1
    rw [hkk.out]
    go_wp2
    go_ret
    exact ⟨rfl, new_trans (hB.out _) hb1.out⟩
theorem shared_spec (v : Value) (M : Mem) (a : Int) (w : World) (h : MemR w v M) (hf : Fit M) :
    Calls Try.prog 22 #[v, .int .i64 a] w fun e w' => e = .returned (shared2 M a) ∧ Below w.heap.size w w' := by
  obtain ⟨a1, p1, a2, p2, rfl, _, _⟩ := h.form
  have hB : Hid (∀ o, Below w.heap.size w (w.alloc o)) := fun o => (Below.refl _ _).alloc (Nat.le_refl _) _
  have hM : Hid (∀ o, MemR (w.alloc o) (memV (.slice a1 M.rom.length p1) (.slice a2 M.ram.length p2) M.page M.screen M.locked) M) := fun o => h.below (hB.out o)
  have hF : Hid (Fit M) := hf
  clear h hf
  rcases ask_cases M a with ⟨hk, _, h0, h1⟩ | ⟨hk, hk2⟩
  · have e : shared2 M a = .tuple #[.bool (decide (bankI M.page a = 1 ∨ bankI M.page a = 3)), .int .i64 0] := by unfold shared2; rw [if_pos hk]
    rw [e]
    clear e
    generalize hd : decide (bankI M.page a = 1 ∨ bankI M.page a = 3) = d
    replace hd := hid hd
    go_enter Try.func22, Try.ntmps22
    go_wp2_with fail
    refine (ask_spec _ M a _ (hM.out _) hF.out).mono ?_
    rintro e w1 ⟨rfl, hb1⟩
    rw [hk]
    have hz := hb1.size
    simp only [World.size_alloc] at hz
    have hc := fun i => (bcell hb1).1 w.heap.size i (by simp)
    replace hb1 := hid hb1
    go_wp2_with fail
    refine (shared0_spec a1 a2 _ p1 _ p2 _ _ _ a _ h0 h1).mono ?_
    rintro e w2 ⟨rfl, hb2⟩
    rw [hd.out]
    replace hb2 := hid hb2
    clear hc
    go_wp2
    go_ret2
    exact ⟨rfl, new_trans (new_trans (hB.out _) hb1.out) hb2.out⟩
  · have e : shared2 M a = .tuple #[.bool false, .int .i64 (askM M a)] := by unfold shared2; rw [if_neg hk]
    rw [e]
    clear e
    generalize hx : askM M a = x at *
    replace hx := hid hx
    go_enter Try.func22, Try.ntmps22
    go_wp2_with fail
    refine (ask_spec _ M a _ (hM.out _) hF.out).mono ?_
    rintro e w1 ⟨rfl, hb1⟩
    rw [hx.out]
    replace hb1 := hid hb1
    go_wp2
    go_ret2
    exact ⟨rfl, new_trans (hB.out _) hb1.out⟩
/-- a memory behind paging -/
def pageM (M : Mem) (v : Int) : Mem := { M with page := (Nat.land v.toNat 3 : Nat), screen := 1 + 2 * (Nat.land (v.toNat / 8) 1 : Nat), locked := !(Nat.beq (Nat.land v.toNat 32) 0) }
def pageC (M : Mem) (v : Int) : Int := if askM M v = 0 then (if M.locked = true then 12 else 0) else askM M v
def pageR (M : Mem) (v : Int) : Mem := if askM M v = 0 then (if M.locked = true then M else pageM M v) else mem0
theorem land3 (k : Nat) : Nat.land k 3 ≤ 3 := Nat.and_le_right
theorem land1 (k : Nat) : Nat.land k 1 ≤ 1 := Nat.and_le_right
theorem page_ok {M : Mem} {v : Int} (h : okM M = true) : okM (pageM M v) = true := by
  obtain ⟨h1, h2, h3, h4, h5⟩ := ok_parts h
  have k3 := land3 v.toNat
  have k1 := land1 (v.toNat / 8)
  refine ok_all h1 h2 (in_yes ?_ ?_) ?_ (fun i hi => h5 i (by omega))
  · show (0 : Int) ≤ (Nat.land v.toNat 3 : Nat)
    omega
  · show ((Nat.land v.toNat 3 : Nat) : Int) ≤ 3
    omega
  · show 1 + 2 * ((Nat.land (v.toNat / 8) 1 : Nat) : Int) = 1 ∨ 1 + 2 * ((Nat.land (v.toNat / 8) 1 : Nat) : Int) = 3
    omega
theorem page0_spec (a1 a2 : Option Addr) (n1 p1 n2 p2 : Nat) (pg sc : Int) (v : Int) (w : World) (h0 : 0 ≤ v) (h1 : v ≤ 255) :
    Calls Try.prog 47 #[memV (.slice a1 n1 p1) (.slice a2 n2 p2) pg sc false, .int .i64 v] w fun e w' => e = .returned (memV (.slice a1 n1 p1) (.slice a2 n2 p2) (Nat.land v.toNat 3 : Nat) (1 + 2 * (Nat.land (v.toNat / 8) 1 : Nat)) (!(Nat.beq (Nat.land v.toNat 32) 0))) ∧ Below w.heap.size w w' := by
  obtain ⟨k, rfl⟩ : ∃ k : Nat, v = (k : Int) := ⟨v.toNat, by omega⟩
  have hk : k < 256 := by omega
  have r1 : bits .and .i64 (k : Int) 3 = ((Nat.land k 3 : Nat) : Int) := bAnd k 3 (by omega) (by omega)
  have r2 : bits .and .i64 ((k : Int) / 8) 1 = ((Nat.land (k / 8) 1 : Nat) : Int) := by
    have := bAnd (k / 8) 1 (by omega) (by omega)
    have e : ((k : Int) / 8) = ((k / 8 : Nat) : Int) := by omega
    rw [e]
    exact this
  have r3 : bits .and .i64 (k : Int) 32 = ((Nat.land k 32 : Nat) : Int) := bAnd k 32 (by omega) (by omega)
  have k1 := land1 (k / 8)
  have k3 := land3 k
  have r4 : (((Nat.land k 32 : Nat) : Int) != 0) = !(Nat.beq (Nat.land k 32) 0) := by
    rw [bne]
    congr 1
    rw [Bool.eq_iff_iff]
    simp
  rw [Int.toNat_natCast]
  generalize Nat.land k 3 = x1 at *
  generalize Nat.land (k / 8) 1 = x2 at *
  generalize Nat.land k 32 = x3 at *
  generalize Nat.beq x3 0 = y3 at *
  go_enter Try.func47, Try.ntmps47
  go_wp2
  refine bodyPost_ret (v := memV (.slice a1 n1 p1) (.slice a2 n2 p2) (x1 : Nat) (1 + 2 * (x2 : Nat)) (!y3)) (by simp [results, Try.results47, go_sem]) rfl ⟨rfl, ?_⟩
  exact ((Below.refl _ _).alloc (Nat.le_refl _) _).alloc (by simp) _
set_option maxRecDepth 100000 in
theorem page_spec (v : Value) (M : Mem) (a : Int) (w : World) (h : MemR w v M) (hf : Fit M) :
    Calls Try.prog 20 #[v, .int .i64 a] w fun e w' => ∃ u, e = .returned (.tuple #[u, .int .i64 (pageC M a)]) ∧ MemO w' w.heap.size w'.heap.size u (pageR M a) ∧ Below w.heap.size w w' := by
  obtain ⟨a1, p1, a2, p2, rfl, _, _⟩ := h.form
  have hB : Hid (∀ o o', Below w.heap.size w ((w.alloc o).alloc o')) := fun o o' => ((Below.refl _ _).alloc (Nat.le_refl _) _).alloc (by simp) _
  have hM : Hid (∀ W', Below w.heap.size w W' → MemR W' (memV (.slice a1 M.rom.length p1) (.slice a2 M.ram.length p2) M.page M.screen M.locked) M) := fun W' hb => h.below hb
  have hF : Hid (Fit M) := hf
  have S : ∀ (w1 : World), Below ((w.alloc (.cells #[.slice a1 M.rom.length p1, .slice a2 M.ram.length p2, .int .i64 M.page, .int .i64 M.screen, .bool M.locked] 29)).alloc (.cells #[.slice none 0 0, .slice none 0 0, .int .i64 0, .int .i64 0, .bool false] 29)).heap.size ((w.alloc (.cells #[.slice a1 M.rom.length p1, .slice a2 M.ram.length p2, .int .i64 M.page, .int .i64 M.screen, .bool M.locked] 29)).alloc (.cells #[.slice none 0 0, .slice none 0 0, .int .i64 0, .int .i64 0, .bool false] 29)) w1 →
      Blk w1 w.heap.size #[.slice a1 M.rom.length p1, .slice a2 M.ram.length p2, .int .i64 M.page, .int .i64 M.screen, .bool M.locked] ∧ Blk w1 (w.heap.size + 1) #[.slice none 0 0, .slice none 0 0, .int .i64 0, .int .i64 0, .bool false] ∧ Below w.heap.size w w1 := by
    intro w1 hb1
    have q1 := (Blk.new (w.alloc (.cells #[.slice a1 M.rom.length p1, .slice a2 M.ram.length p2, .int .i64 M.page, .int .i64 M.screen, .bool M.locked] 29)) #[.slice none 0 0, .slice none 0 0, .int .i64 0, .int .i64 0, .bool false] 29).below hb1 (by simp)
    rw [World.size_alloc] at q1
    exact ⟨((Blk.new w _ 29).alloc (.cells #[.slice none 0 0, .slice none 0 0, .int .i64 0, .int .i64 0, .bool false] 29)).below hb1 (by simp; omega), q1, (hB.out _ _).trans (hb1.mono (by simp; omega))⟩
  replace S := hid S
  clear h hf
  rcases ask_cases M a with ⟨hk, ho, h0, h1⟩ | ⟨hk, hk2⟩
  · cases hl : M.locked
    · have e1 : pageC M a = 0 := by unfold pageC; rw [if_pos hk, hl]; rfl
      have e2 : pageR M a = pageM M a := by unfold pageR; rw [if_pos hk, hl]; rfl
      have hok := page_ok (v := a) ho
      rw [e1, e2]
      clear e1 e2
      have hMp : Hid (∀ W', Below w.heap.size w W' → MemR W' (memV (.slice a1 M.rom.length p1) (.slice a2 M.ram.length p2) (Nat.land a.toNat 3 : Nat) (1 + 2 * (Nat.land (a.toNat / 8) 1 : Nat)) (!(Nat.beq (Nat.land a.toNat 32) 0))) (pageM M a)) := fun W' hb => by
        obtain ⟨vr, vm, e, k1, k2⟩ := hM.out W' hb
        injection e with e
        have e1 : Value.slice a1 M.rom.length p1 = vr := by
          have := congrArg (·[0]?) e
          simpa using this
        have e2 : Value.slice a2 M.ram.length p2 = vm := by
          have := congrArg (·[1]?) e
          simpa using this
        subst e1 e2
        exact ⟨_, _, rfl, k1, k2⟩
      rw [hl] at hM S
      go_enter Try.func20, Try.ntmps20
      go_wp2_with fail
      refine (ask_spec _ M a _ ?_ hF.out).mono ?_
      · exact hM.out _ (hB.out _ _)
      rintro e w1 ⟨rfl, hb1⟩
      rw [hk]
      obtain ⟨q0, q1, hB1⟩ := S.out w1 hb1
      have x0 := q0.cell
      have hz := q1.lt
      replace hB1 := hid hB1
      replace q1 := hid q1
      clear hb1 q0
      go_wp2_with fail
      refine (page0_spec a1 a2 _ p1 _ p2 _ _ a _ h0 h1).mono ?_
      rintro e w2 ⟨rfl, hb2⟩
      have hB2 := hid (hB1.out.trans (hb2.mono hB1.out.size))
      have q2 := hid (q1.out.below hb2 (by omega))
      have hm2 := hid (hMp.out w2 hB2.out)
      have hz2 := hb2.size
      clear hb2 q1 hB1 x0
      generalize Nat.land a.toNat 3 = y1 at *
      generalize Nat.land (a.toNat / 8) 1 = y2 at *
      generalize Nat.beq (Nat.land a.toNat 32) 0 = y3 at *
      go_wp2_with fail
      refine (own_spec _ (pageM M a) _ hm2.out hok).mono ?_
      rintro e w3 ⟨u3, rfl, hm3, hb3⟩
      have hB3 := hid (hB2.out.trans (hb3.mono hB2.out.size))
      have q3 := q2.out.below hb3 (by omega)
      have x3 := q3.cell
      have f3 := q3.frozen
      obtain ⟨b3, d3, b4, d4, rfl, _, _⟩ := hm3.reads.form
      have hz3 := hb3.size
      have hm4 : Hid (MemO w3 (w.heap.size + 1 + 1) w3.heap.size _ (pageM M a)) := hm3.mono (by omega) (Nat.le_refl _)
      clear hm3 hb3 hm2 q2 q3
      go_wp2
      refine bodyPost_ret (v := .tuple #[memV (.slice b3 (pageM M a).rom.length d3) (.slice b4 (pageM M a).ram.length d4) (pageM M a).page (pageM M a).screen (pageM M a).locked, .int .i64 0]) (by simp [results, Try.results20, go_sem, x3]) rfl ⟨_, rfl, ?_, ?_⟩
      · refine (hm4.out.kept (fun b hb1 hb2 => ?_)).mono (by omega) (by (iterate 5 rw [sizeSet]); exact Nat.le_refl _)
        iterate 5 rw [Below.heap_setCell _ _ _ _ (by simp; omega)]
      · iterate 5 refine Below.setCell ?_ (by first | omega | (simp; done) | (simp; omega)) _
        exact hB3.out
    · have e1 : pageC M a = 12 := by unfold pageC; rw [if_pos hk, hl]; rfl
      have e2 : pageR M a = M := by unfold pageR; rw [if_pos hk, hl]; rfl
      rw [e1, e2]
      clear e1 e2
      rw [hl] at hM S
      go_enter Try.func20, Try.ntmps20
      go_wp2_with fail
      refine (ask_spec _ M a _ ?_ hF.out).mono ?_
      · exact hM.out _ (hB.out _ _)
      rintro e w1 ⟨rfl, hb1⟩
      rw [hk]
      obtain ⟨q0, q1, hB1⟩ := S.out w1 hb1
      have x0 := q0.cell
      have hz := q1.lt
      replace hB1 := hid hB1
      replace q1 := hid q1
      clear hb1 q0
      go_wp2_with fail
      refine (own_spec _ M _ (hM.out _ hB1.out) ho).mono ?_
      rintro e w3 ⟨u3, rfl, hm3, hb3⟩
      have hB3 := hid (hB1.out.trans (hb3.mono hB1.out.size))
      have q3 := q1.out.below hb3 (by omega)
      have x3 := q3.cell
      have f3 := q3.frozen
      obtain ⟨b3, d3, b4, d4, rfl, _, _⟩ := hm3.reads.form
      have hz3 := hb3.size
      have hm4 : Hid (MemO w3 (w.heap.size + 1 + 1) w3.heap.size _ M) := hm3.mono (by omega) (Nat.le_refl _)
      rw [hl] at hm4
      clear hm3 hb3 q1 q3 x0
      go_wp2
      refine bodyPost_ret (v := .tuple #[memV (.slice b3 M.rom.length d3) (.slice b4 M.ram.length d4) M.page M.screen true, .int .i64 12]) (by simp [results, Try.results20, go_sem, x3]) rfl ⟨_, rfl, ?_, ?_⟩
      · refine (hm4.out.kept (fun b hb1 hb2 => ?_)).mono (by omega) (by (iterate 5 rw [sizeSet]); exact Nat.le_refl _)
        iterate 5 rw [Below.heap_setCell _ _ _ _ (by simp; omega)]
      · iterate 5 refine Below.setCell ?_ (by first | omega | (simp; done) | (simp; omega)) _
        exact hB3.out
  · have e1 : pageC M a = askM M a := by unfold pageC; rw [if_neg hk]
    have e2 : pageR M a = mem0 := by unfold pageR; rw [if_neg hk]
    rw [e1, e2]
    clear e1 e2
    generalize hx : askM M a = y at *
    replace hx := hid hx
    go_enter Try.func20, Try.ntmps20
    go_wp2_with fail
    refine (ask_spec _ M a _ (hM.out _ (hB.out _ _)) hF.out).mono ?_
    rintro e w1 ⟨rfl, hb1⟩
    rw [hx.out]
    obtain ⟨q0, q1, hB1⟩ := S.out w1 hb1
    have x1 := q1.cell
    have f1 := q1.frozen
    replace hB1 := hid hB1
    clear hb1 q0 q1
    go_wp2
    refine bodyPost_ret (v := .tuple #[memV (.slice none 0 0) (.slice none 0 0) 0 0 false, .int .i64 y]) (by simp [results, Try.results20, go_sem, x1]) rfl ⟨_, rfl, MemO.zero _ _ _, ?_⟩
    iterate 5 refine Below.setCell ?_ (by first | omega | (simp; done) | (simp; omega)) _
    exact hB1.out
end Go.Proofs.Ytpdngjjbhcfplal
