/- What the specification's step does. -/
import Derived.Test.YtgpmpfikeindfaaGreatDoorV11
import Derived.Test.YtgpmpfikeindfaaGreatDoorV16
namespace Go.Proofs.YtgpmpfikeindfaaGreatDoor
open Go.ChangeShapes Go.WideShapes Go.ChangeAt Go.RowKit
set_option linter.unusedVariables false
set_option linter.unusedSimpArgs false

theorem dec_bd {x y : Nat} (hx : x < 256) (hy : y < 256) : ∃ o a b m l : Nat, decO x = o ∧ decA x = a ∧ decB x y = b ∧ decN x y = m ∧ decL x = l ∧ o < 24 ∧ a < 8 ∧ b < 8 ∧ m < 256 ∧ l < 3 := by
  have h0 : 0 ≤ decO x ∧ decO x < 24 := by unfold decO; split <;> omega
  have h1 : 0 ≤ decA x ∧ decA x < 8 := by unfold decA; split; omega; split <;> omega
  have h2 : 0 ≤ decB x y ∧ decB x y < 8 := by unfold decB; split; omega; split <;> omega
  have h3 : 0 ≤ decN x y ∧ decN x y < 256 := by unfold decN; split; omega; split <;> omega
  have h4 : 0 ≤ decL x ∧ decL x < 3 := by
    unfold decL
    split
    · omega
    · unfold bitI; split <;> omega
  exact ⟨(decO x).toNat, (decA x).toNat, (decB x y).toNat, (decN x y).toNat, (decL x).toNat, by omega, by omega, by omega, by omega, by omega, by omega, by omega, by omega, by omega, by omega⟩
set_option maxRecDepth 100000 in
set_option maxHeartbeats 4000000 in
theorem cstep_spec (c : Cp) (v : Value) (M : Mem) (n : Nat) (w : World) (h : MemR w v M) (hk : okM M = true) (hc : c.ok) (hn : n < 256) :
    Calls Tryz.prog 25 #[cpV c, v, .int .i64 (n : Int)] w fun e w' => ∃ vr vm cv, e = .returned (.tuple #[cpV (stepM c M n).c, memV vr vm (stepM c M n).m.page (stepM c M n).m.screen (stepM c M n).m.locked, cv]) ∧ Out w w' (stepM c M n) vr vm cv := by
  obtain ⟨a1, p1, a2, p2, rfl, _, _⟩ := h.form
  obtain ⟨hB4, hz4, hb4⟩ := four_new w (cpA c) #[.slice a1 M.rom.length p1, .slice a2 M.ram.length p2, .int .i64 M.page, .int .i64 M.screen, .bool M.locked] zC zM 25 30 25 30
  have N0 := NSt.start (vr := .slice a1 M.rom.length p1) (vm := .slice a2 M.ram.length p2) hB4 hb4 h c n 98
  rw [hz4] at N0
  clear hB4 hz4 hb4
  have x0 := N0.blk.cell
  have f0 := N0.blk.frozen
  have z0 := N0.blk.lt
  replace N0 := hid N0
  go_enter Tryz.func25, Tryz.ntmps25
  go_upto_region 2 with fail
  obtain ⟨V, hV⟩ : ∃ V, ((((((w.alloc (.cells (cpA c) 25)).alloc (.cells #[.slice a1 M.rom.length p1, .slice a2 M.ram.length p2, .int .i64 M.page, .int .i64 M.screen, .bool M.locked] 30)).alloc (.cells zC 25)).alloc (.cells zM 30)).alloc (.cells #[] 42)).alloc (.cells (macA c (.slice a1 M.rom.length p1) (.slice a2 M.ram.length p2) M.page M.screen M.locked (.slice (some ⟨w.heap.size + 1 + 1 + 1 + 1, 0, none⟩) 0 0) n) 98)) = V := ⟨_, rfl⟩
  rw [hV] at N0 x0 f0 z0 ⊢
  clear hV
  obtain ⟨X, hX⟩ : ∃ X, w.heap.size + 1 + 1 + 1 + 1 + 1 = X := ⟨_, rfl⟩
  rw [hX] at N0 x0 f0 z0 ⊢
  clear hX
  go_upto_region 3 with fail
  have N1 := (N0.out.put 12 (.bool false) { c with ei := false } rfl).drew
  obtain ⟨V1, hV1⟩ : ∃ V1, V.setCell ⟨X, 12, none⟩ (.bool false) = V1 := ⟨_, rfl⟩
  rw [hV1] at N1 ⊢
  clear hV1 x0 f0 z0 N0
  replace N1 := hid N1
  replace h := hid h
  have hcp : c.pc < 256 := hc.2.2.2.2.2.2.2.2.2
  refine wp_region_held_drew (S := (fun w' => w'.cell? ⟨w.heap.size, 10, none⟩ = some (.int .i64 (c.pc : Int)) ∧ w'.cell? ⟨w.heap.size + 1, 0, none⟩ = some (.slice a1 M.rom.length p1) ∧ w'.cell? ⟨w.heap.size + 1, 1, none⟩ = some (.slice a2 M.ram.length p2) ∧ w'.cell? ⟨w.heap.size + 1, 2, none⟩ = some (.int .i64 M.page) ∧ w'.cell? ⟨w.heap.size + 1, 3, none⟩ = some (.int .i64 M.screen) ∧ w'.cell? ⟨w.heap.size + 1, 4, none⟩ = some (.bool M.locked))) (by kernel_rfl) (N1.out.heldC) (fun hHeld => ?_)
  refine wpAnyH_take (i := 0) (oi := ({ dst := some 21, op := Op.move (Operand.tmp 9), type := 96, pos := "l06_cpu.go:207", after := #[], guard := none } : Oper)) (v := ?_) rfl (by kernel_rfl) (by kernel_rfl) (by kernel_rfl) (fun _ _ _ h => h) (Or.inl ⟨by rfl, ?_⟩) (by assumption) ?_
  rotate_left
  · intro w hSw
    (try dsimp only at hSw)
    go_simp
    (try with_reducible rfl)
  (try simp only [Act.put, List.setIfInBounds_toArray, List.set_cons_zero, List.set_cons_succ])
  refine wpAnyH_take (i := 1) (oi := ({ dst := some 22, op := Op.fieldAddr 25 (Operand.tmp 3) 3, type := 0, pos := "l06_cpu.go:207", after := #[], guard := none } : Oper)) (v := ?_) rfl (by kernel_rfl) (by kernel_rfl) (by kernel_rfl) (fun _ _ _ h => h) (Or.inl ⟨by rfl, ?_⟩) (by assumption) ?_
  rotate_left
  · intro w hSw
    (try dsimp only at hSw)
    go_simp
    (try with_reducible rfl)
  (try simp only [Act.put, List.setIfInBounds_toArray, List.set_cons_zero, List.set_cons_succ])
  refine wpAnyH_take (i := 2) (oi := ({ dst := some 23, op := Op.load 3 (Operand.tmp 22), type := 3, pos := "l06_cpu.go:207", after := #[{ on := 1, ground := Ground.data }], guard := none } : Oper)) (v := ?_) rfl (by kernel_rfl) (by kernel_rfl) (by kernel_rfl) (fun _ _ _ h => h) (Or.inl ⟨by rfl, ?_⟩) (by assumption) ?_
  rotate_left
  · intro w hSw
    (try dsimp only at hSw)
    go_simp
    (try with_reducible rfl)
  (try simp only [Act.put, List.setIfInBounds_toArray, List.set_cons_zero, List.set_cons_succ])
  refine wpAnyH_take (i := 3) (oi := ({ dst := some 24, op := Op.load 30 (Operand.tmp 4), type := 30, pos := "l06_cpu.go:207", after := #[], guard := none } : Oper)) (v := ?_) rfl (by kernel_rfl) (by kernel_rfl) (by kernel_rfl) (fun _ _ _ h => h) (Or.inl ⟨by rfl, ?_⟩) (by assumption) ?_
  rotate_left
  · intro w hSw
    (try dsimp only at hSw)
    go_simp
    (try with_reducible rfl)
  (try simp only [Act.put, List.setIfInBounds_toArray, List.set_cons_zero, List.set_cons_succ])
  refine wpAnyH_take (i := 4) (oi := ({ dst := some 25, op := Op.fieldAddr 25 (Operand.tmp 3) 3, type := 0, pos := "l06_cpu.go:207", after := #[], guard := none } : Oper)) (v := ?_) rfl (by kernel_rfl) (by kernel_rfl) (by kernel_rfl) (fun _ _ _ h => h) (Or.inl ⟨by rfl, ?_⟩) (by assumption) ?_
  rotate_left
  · intro w hSw
    (try dsimp only at hSw)
    go_simp
    (try with_reducible rfl)
  (try simp only [Act.put, List.setIfInBounds_toArray, List.set_cons_zero, List.set_cons_succ])
  refine wpAnyH_take (i := 5) (oi := ({ dst := some 26, op := Op.load 3 (Operand.tmp 25), type := 3, pos := "l06_cpu.go:207", after := #[{ on := 4, ground := Ground.data }], guard := none } : Oper)) (v := ?_) rfl (by kernel_rfl) (by kernel_rfl) (by kernel_rfl) (fun _ _ _ h => h) (Or.inl ⟨by rfl, ?_⟩) (by assumption) ?_
  rotate_left
  · intro w hSw
    (try dsimp only at hSw)
    go_simp
    (try with_reducible rfl)
  (try simp only [Act.put, List.setIfInBounds_toArray, List.set_cons_zero, List.set_cons_succ])
  refine wpAnyH_ready (rs := [6]) (by kernel_rfl) (by simp) ?_
  refine AllReadyH.cons (o := ({ dst := some 27, op := Op.call { callee := Callee.value (Operand.func 49), args := #[Operand.tmp 24, Operand.tmp 26], argTypes := #[30, 3] }, type := 3, pos := "l06_cpu.go:207", after := #[{ on := 3, ground := Ground.data }, { on := 5, ground := Ground.data }], guard := none } : Oper)) rfl (fun K hK => ?_) AllReadyH.nil
  go_simp
  go_at_call 49
  refine (peekN_spec _ M c.pc _ (h.out.below N1.out.bel) hk hcp).mono ?_
  rintro e w1 ⟨rfl, hb⟩
  have N2 := hid (N1.out.below hb)
  clear hb
  refine hK.out _ _ N2.out.heldC (fun hHeld => ?_)
  clear hK K
  (try simp only [Act.put, List.setIfInBounds_toArray, List.set_cons_zero, List.set_cons_succ])
  refine wpAnyH_ready (rs := [7]) (by kernel_rfl) (by simp) ?_
  refine AllReadyH.cons (o := ({ dst := some 28, op := Op.call { callee := Callee.value (Operand.func 48), args := #[Operand.tmp 21, Operand.const (Value.int IntKind.i64 1), Operand.tmp 23, Operand.tmp 27], argTypes := #[96, 3, 3, 3] }, type := 0, pos := "l06_cpu.go:207", after := #[{ on := 0, ground := Ground.data }, { on := 2, ground := Ground.data }, { on := 6, ground := Ground.data }, { on := 6, ground := Ground.chain }], guard := none } : Oper)) rfl (fun K hK => ?_) AllReadyH.nil
  go_simp
  go_at_call 48
  refine (note_spec 1 c.pc (peekN M c.pc) _ w1 X _ n _ _ _ N2.out (by simp)).mono ?_
  rintro e w2 ⟨rfl, cv2, N3⟩
  replace N3 := hid N3
  refine hK.out _ _ N3.out.heldC (fun hHeld => ?_)
  clear hK K
  (try simp only [Act.put, List.setIfInBounds_toArray, List.set_cons_zero, List.set_cons_succ])
  refine wpAnyH_done (by kernel_rfl) ?_ _
  have hP : (⟨{ c with ei := false }, M, []⟩ : Mx).note 1 c.pc (peekN M c.pc) = stepP c M := rfl
  rw [hP] at N3
  clear hP hHeld N1 N2
  have y3 := (N3.out.keep w.heap.size (cpA c) (by simp)).1.cell
  have y4 := (N3.out.keep (w.heap.size + 1) #[.slice a1 M.rom.length p1, .slice a2 M.ram.length p2, .int .i64 M.page, .int .i64 M.screen, .bool M.locked] (by simp)).1.cell
  go_upto_region 4 with fail
  cases hh : c.halt
  rotate_left
  · have hS : stepM c M n = stepP c M := by unfold stepM; rw [if_pos hh]
    replace hS := hid hS
    generalize stepP c M = y at *
    have xF := N3.out.blk.cell
    have yF := (N3.out.keep (w.heap.size + 1 + 1) zC (by simp)).1
    have zF := (N3.out.keep (w.heap.size + 1 + 1 + 1) zM (by simp)).1
    have yc := yF.cell
    have yf := yF.frozen
    have yz := yF.lt
    have zc := zF.cell
    have zf := zF.frozen
    have zz := zF.lt
    obtain ⟨ca, cb, O⟩ := N3.out.fin2 (b := w.heap.size + 1 + 1) (g := w.heap.size + 1 + 1 + 1) (by simp) (by simp) (by omega) (by omega) (by omega)
    simp only [sets, cpuL, meL, Nat.zero_add, Nat.reduceAdd] at ca cb O
    replace O := hid O
    replace ca := hid ca
    replace cb := hid cb
    clear yF zF
    go_upto_region 5 with fail
    go_region
    obtain ⟨WF, hWF⟩ : ∃ WF, (((((((((((((((((((w2.setCell ⟨w.heap.size + 1 + 1, 0, none⟩ (.int .i64 (y.c.b : Int))).setCell ⟨w.heap.size + 1 + 1, 1, none⟩ (.int .i64 (y.c.c : Int))).setCell ⟨w.heap.size + 1 + 1, 2, none⟩ (.int .i64 (y.c.d : Int))).setCell ⟨w.heap.size + 1 + 1, 3, none⟩ (.int .i64 (y.c.e : Int))).setCell ⟨w.heap.size + 1 + 1, 4, none⟩ (.int .i64 (y.c.h : Int))).setCell ⟨w.heap.size + 1 + 1, 5, none⟩ (.int .i64 (y.c.l : Int))).setCell ⟨w.heap.size + 1 + 1, 6, none⟩ (.int .i64 0)).setCell ⟨w.heap.size + 1 + 1, 7, none⟩ (.int .i64 (y.c.a : Int))).setCell ⟨w.heap.size + 1 + 1, 8, none⟩ (.int .i64 (y.c.f : Int))).setCell ⟨w.heap.size + 1 + 1, 9, none⟩ (.int .i64 (y.c.sp : Int))).setCell ⟨w.heap.size + 1 + 1, 10, none⟩ (.int .i64 (y.c.pc : Int))).setCell ⟨w.heap.size + 1 + 1, 11, none⟩ (.bool y.c.iff)).setCell ⟨w.heap.size + 1 + 1, 12, none⟩ (.bool y.c.ei)).setCell ⟨w.heap.size + 1 + 1, 13, none⟩ (.bool y.c.halt)).setCell ⟨w.heap.size + 1 + 1 + 1, 0, none⟩ ((.slice a1 M.rom.length p1))).setCell ⟨w.heap.size + 1 + 1 + 1, 1, none⟩ ((.slice a2 M.ram.length p2))).setCell ⟨w.heap.size + 1 + 1 + 1, 2, none⟩ (.int .i64 y.m.page)).setCell ⟨w.heap.size + 1 + 1 + 1, 3, none⟩ (.int .i64 y.m.screen)).setCell ⟨w.heap.size + 1 + 1 + 1, 4, none⟩ (.bool y.m.locked)).drew = WF := ⟨_, rfl⟩
    rw [hWF] at ca cb O ⊢
    clear hWF xF yc yf yz zc zf zz
    replace ca := ca.out
    replace cb := cb.out
    go_wp2
    refine bodyPost_ret (v := .tuple #[cpV y.c, memV (.slice a1 M.rom.length p1) (.slice a2 M.ram.length p2) y.m.page y.m.screen y.m.locked, cv2]) (by simp [results, Tryz.results25, go_sem, ca, cb]) rfl ⟨(.slice a1 M.rom.length p1), (.slice a2 M.ram.length p2), cv2, by rw [hS.out], by rw [hS.out]; exact O.out⟩
  have hs1 : (c.pc + 1) % 256 < 256 := Nat.mod_lt _ (by omega)
  have b1 := (peek_byte hk hcp).2
  have b2 := (peek_byte hk hs1).2
  obtain ⟨o, a, b, m, l, ho, ha, hb, hm, hll, ho1, ha1, hb1, hm1, hl1⟩ := dec_bd b1 b2
  have hS : stepM c M n = (stepQ c M).run n a b m o := by
    unfold stepM
    rw [if_neg (by rw [hh]; decide), ho, ha, hb, hm, Int.toNat_natCast, Int.toNat_natCast, Int.toNat_natCast, Int.toNat_natCast]
  replace hS := hid hS
  have hI := hid (fun W hb => cinstr_spec c _ M W (h.out.below hb) hk hcp)
  have hD : dcdV (peekN M c.pc) (peekN M ((c.pc + 1) % 256)) = insV o a b m l := by unfold dcdV; rw [ho, ha, hb, hm, hll]
  rw [hD] at hI
  clear hD
  have hQ : stepQ c M = if l = 2 then { ({ stepP c M with c := { c with ei := false, pc := (c.pc + 1) % 256 } } : Mx).read ((c.pc + 1) % 256) with c := { c with ei := false, pc := (c.pc + 2) % 256 } } else { stepP c M with c := { c with ei := false, pc := (c.pc + 1) % 256 } } := by
    unfold stepQ
    rw [hll]
    by_cases e : l = 2
    · subst e; rfl
    · rw [if_neg e, if_neg (by omega)]
  replace hQ := hid hQ
  clear ho ha hb hm hll b1 b2
  have r1 : bits .and .i64 ((c.pc : Int) + 1) 255 = (((c.pc + 1) % 256 : Nat) : Int) := and255 (c.pc + 1) (by omega)
  have r2 : bits .and .i64 ((c.pc : Int) + 2) 255 = (((c.pc + 2) % 256 : Nat) : Int) := and255 (c.pc + 2) (by omega)
  have m1 : ((c.pc : Int) + 1) % 256 = (((c.pc + 1) % 256 : Nat) : Int) := by omega
  have m2 : ((c.pc : Int) + 2) % 256 = (((c.pc + 2) % 256 : Nat) : Int) := by omega
  have hs2 : (c.pc + 2) % 256 < 256 := Nat.mod_lt _ (by omega)
  generalize (c.pc + 1) % 256 = s1 at *
  generalize (c.pc + 2) % 256 = s2 at *
  go_upto_region 6 with fail
  replace hh := hid hh
  go_wp2_with fail
  refine (hI.out _ N3.out.bel).mono ?_
  rintro e w3 ⟨rfl, hb⟩
  have N4 := N3.out.below hb
  clear hb N3 y3 y4 hI
  go_upto_region 7 with fail
  have N5 := N4.boxed #[.int .i64 (o : Int), .int .i64 (a : Int), .int .i64 (b : Int), .int .i64 (m : Int), .int .i64 (l : Int)] 64
  clear N4
  obtain ⟨V5, hV5⟩ : ∃ V5, w3.alloc (.cells #[.int .i64 (o : Int), .int .i64 (a : Int), .int .i64 (b : Int), .int .i64 (m : Int), .int .i64 (l : Int)] 64) = V5 := ⟨_, rfl⟩
  rw [hV5] at N5 ⊢
  clear hV5
  obtain ⟨J, hJ⟩ : ∃ J, w3.heap.size = J := ⟨_, rfl⟩
  rw [hJ] at N5 ⊢
  clear hJ
  have y3 := (N5.keep w.heap.size (cpA c) (by simp)).1.cell
  have x5 := N5.blk.cell
  have f5 := N5.blk.frozen
  have z5 := N5.blk.lt
  replace N5 := hid N5
  go_upto_region 8 with fail
  have N6 := N5.out.put 10 (.int .i64 (s1 : Int)) { c with ei := false, pc := s1 } rfl
  obtain ⟨V6, hV6⟩ : ∃ V6, V5.setCell ⟨X, 10, none⟩ (.int .i64 (s1 : Int)) = V6 := ⟨_, rfl⟩
  rw [hV6] at N6 ⊢
  clear hV6 x5 f5 z5 y3 N5
  have y6 := (N6.keep w.heap.size (cpA c) (by simp)).1.cell
  have yJ := N6.kept.cell
  have x6 := N6.blk.cell
  replace N6 := hid N6
  have kl := stepQ_l c M
  have km := stepQ_m c M
  have kc := stepQ_c M hc
  by_cases hl2 : l = 2
  rotate_left
  · have hQ2 := hQ.out
    rw [if_neg hl2] at hQ2
    have N7 := hid (show NSt _ V6 X (stepQ c M) n _ _ _ by rw [hQ2]; exact N6.out)
    clear hQ2 hQ N6
    generalize stepQ c M = y at *
    have hl3 : ((l : Int) == 2) = false := by simp; omega
    go_wp2_with fail
    refine (run_spec o a b m l _ V6 X y n _ _ _ N7.out (by omega) (by rw [km]; exact hk) kc ha1 hb1 hm1 hn ho1).mono ?_
    rintro e w9 ⟨rfl, vr9, vm9, cv9, N9⟩
    obtain ⟨e1, p3, e2, p4, rfl, rfl⟩ := N9.form
    generalize y.run n a b m o = z at *
    replace N9 := hid N9
    clear N7 x6 y6 yJ
    have xF := N9.out.blk.cell
    have yF := (N9.out.keep (w.heap.size + 1 + 1) zC (by simp)).1
    have zF := (N9.out.keep (w.heap.size + 1 + 1 + 1) zM (by simp)).1
    have yc := yF.cell
    have yf := yF.frozen
    have yz := yF.lt
    have zc := zF.cell
    have zf := zF.frozen
    have zz := zF.lt
    obtain ⟨ca, cb, O⟩ := N9.out.fin2 (b := w.heap.size + 1 + 1) (g := w.heap.size + 1 + 1 + 1) (by simp) (by simp) (by omega) (by omega) (by omega)
    simp only [sets, cpuL, meL, Nat.zero_add, Nat.reduceAdd] at ca cb O
    replace O := hid O
    replace ca := hid ca
    replace cb := hid cb
    clear yF zF
    go_upto_region 12 with fail
    go_region
    obtain ⟨WF, hWF⟩ : ∃ WF, (((((((((((((((((((w9.setCell ⟨w.heap.size + 1 + 1, 0, none⟩ (.int .i64 (z.c.b : Int))).setCell ⟨w.heap.size + 1 + 1, 1, none⟩ (.int .i64 (z.c.c : Int))).setCell ⟨w.heap.size + 1 + 1, 2, none⟩ (.int .i64 (z.c.d : Int))).setCell ⟨w.heap.size + 1 + 1, 3, none⟩ (.int .i64 (z.c.e : Int))).setCell ⟨w.heap.size + 1 + 1, 4, none⟩ (.int .i64 (z.c.h : Int))).setCell ⟨w.heap.size + 1 + 1, 5, none⟩ (.int .i64 (z.c.l : Int))).setCell ⟨w.heap.size + 1 + 1, 6, none⟩ (.int .i64 0)).setCell ⟨w.heap.size + 1 + 1, 7, none⟩ (.int .i64 (z.c.a : Int))).setCell ⟨w.heap.size + 1 + 1, 8, none⟩ (.int .i64 (z.c.f : Int))).setCell ⟨w.heap.size + 1 + 1, 9, none⟩ (.int .i64 (z.c.sp : Int))).setCell ⟨w.heap.size + 1 + 1, 10, none⟩ (.int .i64 (z.c.pc : Int))).setCell ⟨w.heap.size + 1 + 1, 11, none⟩ (.bool z.c.iff)).setCell ⟨w.heap.size + 1 + 1, 12, none⟩ (.bool z.c.ei)).setCell ⟨w.heap.size + 1 + 1, 13, none⟩ (.bool z.c.halt)).setCell ⟨w.heap.size + 1 + 1 + 1, 0, none⟩ ((.slice e1 z.m.rom.length p3))).setCell ⟨w.heap.size + 1 + 1 + 1, 1, none⟩ ((.slice e2 z.m.ram.length p4))).setCell ⟨w.heap.size + 1 + 1 + 1, 2, none⟩ (.int .i64 z.m.page)).setCell ⟨w.heap.size + 1 + 1 + 1, 3, none⟩ (.int .i64 z.m.screen)).setCell ⟨w.heap.size + 1 + 1 + 1, 4, none⟩ (.bool z.m.locked)).drew = WF := ⟨_, rfl⟩
    rw [hWF] at ca cb O ⊢
    clear hWF xF yc yf yz zc zf zz
    replace ca := ca.out
    replace cb := cb.out
    go_wp2
    refine bodyPost_ret (v := .tuple #[cpV z.c, memV (.slice e1 z.m.rom.length p3) (.slice e2 z.m.ram.length p4) z.m.page z.m.screen z.m.locked, cv9]) (by simp [results, Tryz.results25, go_sem, ca, cb]) rfl ⟨(.slice e1 z.m.rom.length p3), (.slice e2 z.m.ram.length p4), cv9, by rw [hS.out], by rw [hS.out]; exact O.out⟩
  have hl3 : ((l : Int) == 2) = true := by simp; omega
  have hQ2 := hQ.out
  rw [if_pos hl2] at hQ2
  replace hQ2 := hid hQ2
  replace hl2 := hid hl2
  go_wp2_with fail
  refine (read_spec s1 _ V6 X _ n _ _ _ N6.out (by simp [stepP]) hk hs1).mono ?_
  rintro e w7 ⟨rfl, cv7, N7⟩
  have y7 := (N7.keep w.heap.size (cpA c) (by simp)).1.cell
  have x7 := N7.blk.cell
  have f7 := N7.blk.frozen
  have z7 := N7.blk.lt
  replace N7 := hid N7
  generalize hpk : peekN _ s1 = pk
  clear hpk N6 x6 y6 yJ hl3
  go_upto_region 11 with fail
  have N8 := N7.out.put 10 (.int .i64 (s2 : Int)) { c with ei := false, pc := s2 } rfl
  obtain ⟨V8, hV8⟩ : ∃ V8, w7.setCell ⟨X, 10, none⟩ (.int .i64 (s2 : Int)) = V8 := ⟨_, rfl⟩
  rw [hV8] at N8 ⊢
  clear hV8 x7 f7 z7 y7 N7
  have N8 := hid (show NSt _ V8 X (stepQ c M) n _ _ _ by rw [hQ2.out]; exact N8)
  clear hQ2 hQ
  generalize stepQ c M = y at *
  have yJ := (N8.out.keep J #[.int .i64 (o : Int), .int .i64 (a : Int), .int .i64 (b : Int), .int .i64 (m : Int), .int .i64 (l : Int)] (by simp)).1.cell
  go_wp2_with fail
  refine (run_spec o a b m l _ V8 X y n _ _ _ N8.out (by omega) (by rw [km]; exact hk) kc ha1 hb1 hm1 hn ho1).mono ?_
  rintro e w9 ⟨rfl, vr9, vm9, cv9, N9⟩
  obtain ⟨e1, p3, e2, p4, rfl, rfl⟩ := N9.form
  generalize y.run n a b m o = z at *
  replace N9 := hid N9
  clear N8 yJ
  have xF := N9.out.blk.cell
  have yF := (N9.out.keep (w.heap.size + 1 + 1) zC (by simp)).1
  have zF := (N9.out.keep (w.heap.size + 1 + 1 + 1) zM (by simp)).1
  have yc := yF.cell
  have yf := yF.frozen
  have yz := yF.lt
  have zc := zF.cell
  have zf := zF.frozen
  have zz := zF.lt
  obtain ⟨ca, cb, O⟩ := N9.out.fin2 (b := w.heap.size + 1 + 1) (g := w.heap.size + 1 + 1 + 1) (by simp) (by simp) (by omega) (by omega) (by omega)
  simp only [sets, cpuL, meL, Nat.zero_add, Nat.reduceAdd] at ca cb O
  replace O := hid O
  replace ca := hid ca
  replace cb := hid cb
  clear yF zF
  go_upto_region 12 with fail
  go_region
  obtain ⟨WF, hWF⟩ : ∃ WF, (((((((((((((((((((w9.setCell ⟨w.heap.size + 1 + 1, 0, none⟩ (.int .i64 (z.c.b : Int))).setCell ⟨w.heap.size + 1 + 1, 1, none⟩ (.int .i64 (z.c.c : Int))).setCell ⟨w.heap.size + 1 + 1, 2, none⟩ (.int .i64 (z.c.d : Int))).setCell ⟨w.heap.size + 1 + 1, 3, none⟩ (.int .i64 (z.c.e : Int))).setCell ⟨w.heap.size + 1 + 1, 4, none⟩ (.int .i64 (z.c.h : Int))).setCell ⟨w.heap.size + 1 + 1, 5, none⟩ (.int .i64 (z.c.l : Int))).setCell ⟨w.heap.size + 1 + 1, 6, none⟩ (.int .i64 0)).setCell ⟨w.heap.size + 1 + 1, 7, none⟩ (.int .i64 (z.c.a : Int))).setCell ⟨w.heap.size + 1 + 1, 8, none⟩ (.int .i64 (z.c.f : Int))).setCell ⟨w.heap.size + 1 + 1, 9, none⟩ (.int .i64 (z.c.sp : Int))).setCell ⟨w.heap.size + 1 + 1, 10, none⟩ (.int .i64 (z.c.pc : Int))).setCell ⟨w.heap.size + 1 + 1, 11, none⟩ (.bool z.c.iff)).setCell ⟨w.heap.size + 1 + 1, 12, none⟩ (.bool z.c.ei)).setCell ⟨w.heap.size + 1 + 1, 13, none⟩ (.bool z.c.halt)).setCell ⟨w.heap.size + 1 + 1 + 1, 0, none⟩ ((.slice e1 z.m.rom.length p3))).setCell ⟨w.heap.size + 1 + 1 + 1, 1, none⟩ ((.slice e2 z.m.ram.length p4))).setCell ⟨w.heap.size + 1 + 1 + 1, 2, none⟩ (.int .i64 z.m.page)).setCell ⟨w.heap.size + 1 + 1 + 1, 3, none⟩ (.int .i64 z.m.screen)).setCell ⟨w.heap.size + 1 + 1 + 1, 4, none⟩ (.bool z.m.locked)).drew = WF := ⟨_, rfl⟩
  rw [hWF] at ca cb O ⊢
  clear hWF xF yc yf yz zc zf zz
  replace ca := ca.out
  replace cb := cb.out
  go_wp2
  refine bodyPost_ret (v := .tuple #[cpV z.c, memV (.slice e1 z.m.rom.length p3) (.slice e2 z.m.ram.length p4) z.m.page z.m.screen z.m.locked, cv9]) (by simp [results, Tryz.results25, go_sem, ca, cb]) rfl ⟨(.slice e1 z.m.rom.length p3), (.slice e2 z.m.ram.length p4), cv9, by rw [hS.out], by rw [hS.out]; exact O.out⟩
end Go.Proofs.YtgpmpfikeindfaaGreatDoor
