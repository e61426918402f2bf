/- What the law of a step asks besides: an answer among things that lie apart; the processor behind a step is right. -/
import Derived.Test.YtgpmpfikeindfaaGreatDoorV43
import Derived.Test.YtgpmpfikeindfaaGreatDoorV09
import Derived.ChangeKeysEq
import Derived.Test.YtgpmpfikeindfaaGreatDoorV02
import Derived.Test.YtgpmpfikeindfaaGreatDoorV00
import Derived.Test.YtgpmpfikeindfaaGreatDoorV18
import Derived.Test.YtgpmpfikeindfaaGreatDoorV03
import Derived.Test.YtgpmpfikeindfaaGreatDoorV04
namespace Go.Proofs.YtgpmpfikeindfaaGreatDoor
open Go.ChangeShapes Go.WideShapes Go.ChangeAt Go.RowKit
set_option linter.unusedVariables false
set_option linter.unusedSimpArgs false

theorem Ans.stf {w W0 W : World} {x : Mx} {u cv : Value} {L : List Thing} (h : Ans W0 W x u cv) (hS : StF w W0 L) : ∃ lo hi, StF w W (tCyc cv x.cy :: tMem lo hi u x.m :: L) := by
  obtain ⟨lo, hi, h1, h2, h3⟩ := h.things2 hS.sts
  have hz := hS.bel.size
  refine ⟨lo, hi, h1, new_trans hS.bel h.bel, fun t ht b hd => ?_⟩
  rcases List.mem_cons.1 ht with rfl | ht
  · exact Nat.le_trans hz (h3 b hd)
  rcases List.mem_cons.1 ht with rfl | ht
  · exact Nat.le_trans hz (Nat.le_trans h2 hd.1)
  · exact hS.far t ht b hd
abbrev Cp.cu (c : Cp) : Cu := ⟨c.b, c.c, c.d, c.e, c.h, c.l, 0, c.a, c.f, c.sp, c.pc, c.iff, c.ei, c.halt⟩
theorem okC_of {c : Cp} (h : c.ok) (he : c.ei = true → c.iff = true) : okC c.cu = true := by
  obtain ⟨h0, h1, h2, h3, h4, h5, h6, h7, h8, h9⟩ := h
  have hr : regsB c.cu = true := regs_all (fun i hi => by
    rcases (by omega : i = 0 ∨ i = 1 ∨ i = 2 ∨ i = 3 ∨ i = 4 ∨ i = 5 ∨ i = 6 ∨ i = 7) with rfl | rfl | rfl | rfl | rfl | rfl | rfl | rfl
    all_goals
      simp only [Cu.reg]
      exact in_yes (by omega) (by omega))
  unfold okC
  rw [hr]
  have e1 : inB c.cu.f 0 255 = true := in_yes (by show (0 : Int) ≤ (c.f : Int); omega) (by show (c.f : Int) ≤ 255; omega)
  have e2 : inB c.cu.sp 0 255 = true := in_yes (by show (0 : Int) ≤ (c.sp : Int); omega) (by show (c.sp : Int) ≤ 255; omega)
  have e3 : inB c.cu.pc 0 255 = true := in_yes (by show (0 : Int) ≤ (c.pc : Int); omega) (by show (c.pc : Int) ≤ 255; omega)
  rw [e1, e2, e3]
  show (true && decide ((0 : Int) = 0) && true && true && true && (!c.ei || c.iff)) = true
  cases hh : c.ei
  · rfl
  · rw [he hh]; rfl
/-- another world that differs at most at one block -/
def Exc (b : Nat) (w w' : World) : Prop := w.heap.size ≤ w'.heap.size ∧ ∀ k, k < w.heap.size → k ≠ b → w'.heap[k]? = w.heap[k]?
theorem Exc.below {b : Nat} {w w' w2 : World} (h : Exc b w w') (hb : Below w'.heap.size w' w2) : Exc b w w2 := ⟨Nat.le_trans h.1 hb.size, fun k hk hn => (hb.block k (Nat.lt_of_lt_of_le hk h.1)).trans (h.2 k hk hn)⟩
theorem Exc.refl (b : Nat) (w : World) : Exc b w w := ⟨Nat.le_refl _, fun _ _ _ => rfl⟩
theorem Exc.trans {b : Nat} {w w' w2 : World} (h : Exc b w w') (k : Exc b w' w2) : Exc b w w2 := ⟨Nat.le_trans h.1 k.1, fun j hj hn => (k.2 j (Nat.lt_of_lt_of_le hj h.1) hn).trans (h.2 j hj hn)⟩
theorem Exc.sets (b : Nat) (w : World) (i : Nat) (l : List Value) : Exc b w (sets w b i l) := ⟨by rw [sets_size]; exact Nat.le_refl _, fun k _ hn => sets_heap b l w i k hn⟩
theorem MemR.exc {b : Nat} {w w' : World} {v : Value} {M : Mem} {w0 : World} (h : MemR w0 v M) (hb : Below w0.heap.size w0 w) (hlt : w0.heap.size ≤ b) (he : Exc b w w') : MemR w' v M := by
  refine h.mono (fun k i u hu => ?_)
  have hk : k < w0.heap.size := World.block_lt_of_cell? w0 _ hu
  rw [World.cell?_of_block (w := w0) (a := ⟨k, i, none⟩) ((he.2 k (Nat.lt_of_lt_of_le hk hb.size) (by omega)).trans (hb.block k hk))]
  exact hu
theorem MemO.exc {b lo hi : Nat} {w w' : World} {v : Value} {M : Mem} (h : MemO w lo hi v M) (hh : hi ≤ w.heap.size) (hb : b < lo) (he : Exc b w w') : MemO w' lo hi v M := h.kept (fun k h0 h1 => he.2 k (by omega) (by omega))
theorem take_succ_replay {M : Mem} {l : List (Nat × Nat × Nat)} {k : Nat} (hk : k < l.length) : replay M (l.take (k + 1)) = again (replay M (l.take k)) (l.getD k (0, 0, 0)) := by
  rw [List.take_succ_eq_append_getElem hk, replay_snoc]
  congr 1
  simp [List.getD_eq_getElem?_getD, List.getElem?_eq_getElem hk]
theorem again_no {M : Mem} {t : Nat × Nat × Nat} (h : t.1 ≠ 3) : again M t = M := by unfold again; rw [if_neg h]
theorem again_yes {M : Mem} {t : Nat × Nat × Nat} (h : t.1 = 3) : again M t = pokeM M (t.2.1 : Int) (t.2.2 : Int) := by unfold again; rw [if_pos h]
theorem vars4_form {H : Type} {enc : TypeId × Value → H} {P : Program} {w : World} {sp : Nat → Bool} {n m l o : String} {gs : List (DataW H)} {ps : List MemPlace} (h : DataW.TrodVars enc P w sp [n, m, l, o] gs ps) : ∃ a b c d, gs = [a, b, c, d] := by
  match gs, h with
  | [], h => exact h.elim
  | a :: gs, ⟨_, _, _, _, _, _, _, _, _, _, h, _⟩ =>
    obtain ⟨b, c, d, rfl⟩ := vars3_form h
    exact ⟨a, b, c, d, rfl⟩
theorem StF.reset {w W : World} {L : List Thing} {b : Nat} {A A' : Array Value} (h : StF w W (tBox b A :: L)) (l : List Value) (hA : setsA 0 l A = A') : StF w (sets W b 0 l) (tBox b A' :: L) := by
  have hg := sets_grown b l W 0
  have hq := sets_blk b l W 0 A (h.at 0 rfl)
  rw [hA] at hq
  exact h.turn 0 (t := tBox b A) (say' := fun W => Blk W b A') rfl hg.size ⟨hg.os, hg.tape, hg.output⟩ (fun k _ hn => sets_heap b l W 0 k hn) (sits_box hq)
theorem setsM2 (vr vm a b c d e : Value) (M : Mem) : setsA 0 (meL vr vm M) #[a, b, c, d, e] = #[vr, vm, .int .i64 M.page, .int .i64 M.screen, .bool M.locked] := by simp only [setsA, meL, Nat.zero_add, Nat.reduceAdd, List.setIfInBounds_toArray, List.set_cons_zero, List.set_cons_succ]
/-- a memory is laid into a variable of its own -/
structure Laid (wr wx : World) (b22 b26 lo hi : Nat) (vr vm : Value) (T : Mem) : Prop where
  blk : Blk wx b26 #[vr, vm, .int .i64 T.page, .int .i64 T.screen, .bool T.locked]
  mem : MemO wx lo hi (memV vr vm T.page T.screen T.locked) T
  ord : wr.heap.size ≤ lo ∧ hi ≤ wx.heap.size
  bel : Below wr.heap.size wr wx
theorem Laid.first {wr V w' : World} {b22 : Nat} {vr vm : Value} {T : Mem} (hV : Below wr.heap.size wr V) (hq : Blk V wr.heap.size zM) (hm : MemO w' V.heap.size w'.heap.size (memV vr vm T.page T.screen T.locked) T) (hb : Below V.heap.size V w') : Laid wr (sets w' wr.heap.size 0 (meL vr vm T)) b22 wr.heap.size V.heap.size w'.heap.size vr vm T := by
  have hl := hq.lt
  have q := sets_blk wr.heap.size (meL vr vm T) w' 0 zM (hq.below hb hl)
  rw [setsM] at q
  exact ⟨q, hm.kept (fun k h0 h1 => sets_heap _ _ _ _ _ (by omega)), ⟨by omega, by rw [sets_size]; exact Nat.le_refl _⟩, sets_below _ _ _ _ _ _ (new_trans hV hb) (Nat.le_refl _)⟩
theorem Laid.last {wr V w' : World} {b22 : Nat} {vr vm : Value} {T : Mem} (t : TypeId) (hV : Below wr.heap.size wr V) (hm : MemO w' V.heap.size w'.heap.size (memV vr vm T.page T.screen T.locked) T) (hb : Below V.heap.size V w') : Laid wr (w'.alloc (.cells #[vr, vm, .int .i64 T.page, .int .i64 T.screen, .bool T.locked] t)) b22 w'.heap.size V.heap.size w'.heap.size vr vm T := by
  have hB := new_trans hV hb
  exact ⟨Blk.new w' _ _, hm.below ((Below.refl _ _).alloc (Nat.le_refl _) _) (Nat.le_refl _), ⟨hV.size, by rw [World.size_alloc]; omega⟩, hB.alloc hB.size _⟩
end Go.Proofs.YtgpmpfikeindfaaGreatDoor

/- Eight registers that are the same are told the same. -/
namespace Go.Proofs.YtgpmpfikeindfaaGreatDoor
open Go.ChangeShapes Go.WideShapes Go.ChangeAt Go.RowKit
set_option linter.unusedVariables false
set_option linter.unusedSimpArgs false

theorem part_int {xs : Array Value} {i : Nat} {v : Value} (h : xs[i]? = some v) (w : World) : (part 3 xs i).run Tryz.prog w = .ok v w := by
  have hu := Tryz.underlying3
  simp [part, isAgg, go_sem, hu, h]
theorem eq_int1 (d : Nat) (z : Int) (w : World) : (Op.equalIn (d + 1) 3 (.int .i64 z) (.int .i64 z)).run Tryz.prog w = .ok true w := by
  have hu := Tryz.underlying3
  simp [Op.equalIn, go_sem, hu]
theorem items_self (d : Nat) (xs : Array Value) (w : World) : ∀ is : List Nat, (∀ i ∈ is, ∃ z, xs[i * 1]? = some (.int .i64 z)) → (Op.eqItems (d + 1) 3 1 xs xs is).run Tryz.prog w = .ok true w := by
  intro is
  induction is with
  | nil => intro _; rfl
  | cons i t ih =>
    intro h
    obtain ⟨z, hz⟩ := h i (by simp)
    simp only [Op.eqItems, Sem.run_bind, part_int hz, Result.andThen_ok, eq_int1, Bool.not_true, Bool.false_eq_true, if_false]
    exact ih (fun j hj => h j (by simp [hj]))
theorem eq8 (d : Nat) (x0 x1 x2 x3 x4 x5 x6 x7 : Int) (w : World) : Sem.run Tryz.prog (Op.equalIn (d + 1 + 1) 23 (.agg #[.int .i64 x0, .int .i64 x1, .int .i64 x2, .int .i64 x3, .int .i64 x4, .int .i64 x5, .int .i64 x6, .int .i64 x7]) (.agg #[.int .i64 x0, .int .i64 x1, .int .i64 x2, .int .i64 x3, .int .i64 x4, .int .i64 x5, .int .i64 x6, .int .i64 x7])) w = .ok true w := by
  obtain ⟨i, hi⟩ : ∃ i, Tryz.prog.info? 3 = some i := Option.isSome_iff_exists.1 (by kernel_rfl)
  have c1 : Tryz.prog.cellsOf 3 = 1 := by kernel_rfl
  rw [run_equalIn_array (w := w) (d + 1) _ _ Tryz.underlying23 hi, c1]
  refine items_self d _ w _ (fun i hi => ?_)
  have hi8 : i < 8 := List.mem_range.1 hi
  rcases (by omega : i = 0 ∨ i = 1 ∨ i = 2 ∨ i = 3 ∨ i = 4 ∨ i = 5 ∨ i = 6 ∨ i = 7) with rfl | rfl | rfl | rfl | rfl | rfl | rfl | rfl <;> exact ⟨_, rfl⟩
theorem eq8a (x0 x1 x2 x3 x4 x5 x6 x7 : Int) (w : World) : Sem.run Tryz.prog (Op.equalIn 9999 23 (.agg #[.int .i64 x0, .int .i64 x1, .int .i64 x2, .int .i64 x3, .int .i64 x4, .int .i64 x5, .int .i64 x6, .int .i64 x7]) (.agg #[.int .i64 x0, .int .i64 x1, .int .i64 x2, .int .i64 x3, .int .i64 x4, .int .i64 x5, .int .i64 x6, .int .i64 x7])) w = .ok true w := eq8 9997 _ _ _ _ _ _ _ _ w
theorem eq8b (x0 x1 x2 x3 x4 x5 x6 x7 : Int) (w : World) : Sem.run Tryz.prog (Op.equalIn 10000 23 (.agg #[.int .i64 x0, .int .i64 x1, .int .i64 x2, .int .i64 x3, .int .i64 x4, .int .i64 x5, .int .i64 x6, .int .i64 x7]) (.agg #[.int .i64 x0, .int .i64 x1, .int .i64 x2, .int .i64 x3, .int .i64 x4, .int .i64 x5, .int .i64 x6, .int .i64 x7])) w = .ok true w := eq8 9998 _ _ _ _ _ _ _ _ w
end Go.Proofs.YtgpmpfikeindfaaGreatDoor

/- What the specification answers whether two memories are alike. -/
namespace Go.Proofs.YtgpmpfikeindfaaGreatDoor
open Go.ChangeShapes Go.WideShapes Go.ChangeAt Go.RowKit
set_option linter.unusedVariables false

/-- both are right, and alike -/
def sameM (A B : Mem) : Bool := okM A && okM B && decide (A.page = B.page) && decide (A.screen = B.screen) && (A.locked == B.locked) && decide (A.rom = B.rom) && decide (A.ram = B.ram)
theorem sameM_no {A B : Mem} (h : okM A = false ∨ okM B = false ∨ ¬ A.page = B.page ∨ ¬ A.screen = B.screen ∨ (A.locked == B.locked) = false ∨ ¬ A.rom = B.rom ∨ ¬ A.ram = B.ram) : sameM A B = false := by
  unfold sameM
  rcases h with h | h | h | h | h | h | h <;> simp [h]
theorem sameM_yes {A B : Mem} (h1 : okM A = true) (h2 : okM B = true) (h3 : A.page = B.page) (h4 : A.screen = B.screen) (h5 : (A.locked == B.locked) = true) (h6 : A.rom = B.rom) (h7 : A.ram = B.ram) : sameM A B = true := by
  unfold sameM
  rw [h1, h2, h5]
  simp [h3, h4, h6, h7]
theorem sameM_eq {A B : Mem} (h : sameM A B = true) : A = B ∧ okM A = true := by
  unfold sameM at h
  simp only [Bool.and_eq_true, decide_eq_true_eq, beq_iff_eq] at h
  obtain ⟨⟨⟨⟨⟨⟨h1, h2⟩, h3⟩, h4⟩, h5⟩, h6⟩, h7⟩ := h
  refine ⟨?_, h1⟩
  cases A
  cases B
  simp_all
end Go.Proofs.YtgpmpfikeindfaaGreatDoor

/- What the program answers whether two memories are alike. -/
namespace Go.Proofs.YtgpmpfikeindfaaGreatDoor
open Go.ChangeShapes Go.WideShapes Go.ChangeAt Go.RowKit
set_option linter.unusedVariables false
set_option linter.unusedSimpArgs false

set_option maxRecDepth 100000 in
theorem equal_impl (v v' : Value) (za zb : List Int) (w : World) (h : RowR w v za) (h' : RowR w v' zb) (hl : za.length ≤ 1000000000) (hl' : zb.length ≤ 1000000000) :
    Calls Tryz.prog 30 #[v, v'] w fun e w' => e = .returned (.bool (decide (za = zb))) ∧ ∃ n, w' = w.drewN n := by
  obtain ⟨a, cap, rfl, h⟩ := h
  obtain ⟨a', cap', rfl, h'⟩ := h'
  replace h := hid h
  replace h' := hid h'
  by_cases hne : za.length = zb.length
  · have hN : Hid (∀ k, k < za.length → ¬ za.getD k 0 = zb.getD k 0 → decide (za = zb) = false) := fun k hk hn => by
      apply decide_eq_false
      intro e
      exact hn (by rw [e])
    have hY : Hid ((∀ j, j < za.length → za.getD j 0 = zb.getD j 0) → decide (za = zb) = true) := fun hj => decide_eq_true (getD_ext hne hj)
    have hln := hid hne
    rw [← hne] at hl' ⊢
    clear hne
    go_enter Tryz.func30, Tryz.ntmps30
    go_wp2
    go_loopw [13] (fun i wr => ∃ k : Nat, k ≤ za.length ∧ i = .int .i64 k ∧ (∃ n, wr = w.drewN n) ∧ ∀ j, j < k → za.getD j 0 = zb.getD j 0) (fun i _ => za.length - (intOf i).toNat)
    case atStart => exact ⟨0, by omega, rfl, ⟨0, rfl⟩, fun j hj => by omega⟩
    case round =>
      obtain ⟨k, hk, rfl, ⟨n, rfl⟩, hj⟩ := hrel
      by_cases hlt : k < za.length
      · obtain ⟨b, off, rfl, c1⟩ := row_some h.out hlt
        obtain ⟨b', off', rfl, c2⟩ := row_some h'.out (k := k) (by rw [← hln.out]; exact hlt)
        by_cases he : za.getD k 0 = zb.getD k 0
        · have hj2 : Hid (∀ j, j < k + 1 → za.getD j 0 = zb.getD j 0) := fun j hj1 => by
            by_cases e : j = k
            · rw [e]; exact he
            · exact hj j (by omega)
          rw [← he] at c2
          clear h h' hj hN hY he
          generalize za.getD k 0 = z at *
          go_wp2
          go_region
          go_wp2
          go_roundw
          case rel => exact ⟨k + 1, by omega, by go_num, ⟨n + 1, rfl⟩, hj2.out⟩
          case measure => simp [intOf]; omega
        · have hE := hid (hN.out k hlt he)
          have he2 : (za.getD k 0 != zb.getD k 0) = true := by simpa using he
          clear h h' hj hN hY he
          generalize za.getD k 0 = z at *
          generalize zb.getD k 0 = z' at *
          go_wp2
          go_region
          go_wp2
          go_ret
          exact ⟨ret_bool hE.out.symm, n + 1, rfl⟩
      · obtain rfl : k = za.length := by omega
        have hE := hid (hY.out hj)
        clear hj hN hY
        go_wp2
        go_ret
        exact ⟨ret_bool hE.out.symm, n, rfl⟩
  · have e : decide (za = zb) = false := decide_eq_false (fun e => hne (by rw [e]))
    have hne2 : ((za.length : Int) != (zb.length : Int)) = true := by simp; omega
    rw [e]
    clear e hne
    go_enter Tryz.func30, Tryz.ntmps30
    go_wp2
    go_ret
    exact ⟨rfl, 0, rfl⟩
theorem two_new {w w1 : World} {A0 A1 : Array Value} {t t1 : TypeId} (hb : Below ((w.alloc (.cells A0 t)).alloc (.cells A1 t1)).heap.size ((w.alloc (.cells A0 t)).alloc (.cells A1 t1)) w1) :
    Blk w1 w.heap.size A0 ∧ Blk w1 (w.heap.size + 1) A1 ∧ Below w.heap.size w w1 := by
  have hs : ((w.alloc (.cells A0 t)).alloc (.cells A1 t1)).heap.size = w.heap.size + 1 + 1 := by simp
  have q1 := Blk.new (w.alloc (.cells A0 t)) A1 t1
  simp only [World.size_alloc] at q1
  refine ⟨((Blk.new w A0 t).alloc _).below hb (by omega), q1.below hb (by omega), ?_⟩
  exact (((Below.refl _ _).alloc (Nat.le_refl _) _).alloc (by simp) _).trans (hb.mono (by omega))
set_option maxRecDepth 100000 in
set_option maxHeartbeats 1000000 in
theorem same_impl (v v' : Value) (A B : Mem) (w : World) (h : MemR w v A) (h' : MemR w v' B) (hf : Fit A) (hf' : Fit B) :
    Calls Tryz.prog 11 #[v, v'] w fun e w' => e = .returned (.bool (sameM A B)) ∧ Below w.heap.size w w' := by
  obtain ⟨a1, p1, a2, p2, rfl, r1, r2⟩ := h.form
  obtain ⟨a3, p3, a4, p4, rfl, r3, r4⟩ := h'.form
  have hB : Hid (∀ o o', Below w.heap.size w ((w.alloc o).alloc o')) := fun o o' => ((Below.refl _ _).alloc (Nat.le_refl _) _).alloc (by simp) _
  have hMA : Hid (∀ W', Below w.heap.size w W' → MemR W' (memV (.slice a1 A.rom.length p1) (.slice a2 A.ram.length p2) A.page A.screen A.locked) A) := fun W' hb => h.below hb
  have hMB : Hid (∀ W', Below w.heap.size w W' → MemR W' (memV (.slice a3 B.rom.length p3) (.slice a4 B.ram.length p4) B.page B.screen B.locked) B) := fun W' hb => h'.below hb
  have hRA : Hid (∀ W', Below w.heap.size w W' → RowR W' (.slice a1 A.rom.length p1) A.rom) := fun W' hb => r1.below hb
  have hRB : Hid (∀ W', Below w.heap.size w W' → RowR W' (.slice a3 B.rom.length p3) B.rom) := fun W' hb => r3.below hb
  have hFA : Hid (Fit A) := hf
  have hFB : Hid (Fit B) := hf'
  replace r2 := hid r2
  replace r4 := hid r4
  clear h h' hf hf' r1 r3
  cases hk1 : okM A
  · rw [sameM_no (.inl hk1)]
    go_enter Tryz.func11, Tryz.ntmps11
    go_wp2_with fail
    refine (ok_impl _ A _ (hMA.out _ (hB.out _ _)) hFA.out.1 hFA.out.2.1 hFA.out.2.2).mono ?_
    rintro e w1 ⟨rfl, hb1⟩
    rw [hk1]
    obtain ⟨q0, q1, hB1⟩ := two_new hb1
    replace hB1 := hid hB1
    clear hb1 q0 q1
    go_wp2
    go_ret
    exact ⟨rfl, hB1.out⟩
  cases hk2 : okM B
  · rw [sameM_no (.inr (.inl hk2))]
    go_enter Tryz.func11, Tryz.ntmps11
    go_wp2_with fail
    refine (ok_impl _ A _ (hMA.out _ (hB.out _ _)) hFA.out.1 hFA.out.2.1 hFA.out.2.2).mono ?_
    rintro e w1 ⟨rfl, hb1⟩
    rw [hk1]
    obtain ⟨q0, q1, hB1⟩ := two_new hb1
    have x0 := q0.cell
    have x1 := q1.cell
    have hz := q1.lt
    replace q0 := hid q0
    replace q1 := hid q1
    replace hB1 := hid hB1
    clear hb1
    go_wp2_with fail
    refine (ok_impl _ B _ (hMB.out _ hB1.out) hFB.out.1 hFB.out.2.1 hFB.out.2.2).mono ?_
    rintro e w2 ⟨rfl, hb2⟩
    rw [hk2]
    have hB2 := hid (hB1.out.trans (hb2.mono hB1.out.size))
    clear x0 x1 q0 q1 hB1 hb2
    go_wp2
    go_ret
    exact ⟨rfl, hB2.out⟩
  by_cases hrm : A.rom = B.rom
  rotate_left
  · rw [sameM_no (.inr (.inr (.inr (.inr (.inr (.inl hrm))))))]
    have hro : decide (A.rom = B.rom) = false := decide_eq_false hrm
    clear hrm
    go_enter Tryz.func11, Tryz.ntmps11
    go_wp2_with fail
    refine (ok_impl _ A _ (hMA.out _ (hB.out _ _)) hFA.out.1 hFA.out.2.1 hFA.out.2.2).mono ?_
    rintro e w1 ⟨rfl, hb1⟩
    rw [hk1]
    obtain ⟨q0, q1, hB1⟩ := two_new hb1
    have x0 := q0.cell
    have x1 := q1.cell
    have hz := q1.lt
    replace q0 := hid q0
    replace q1 := hid q1
    replace hB1 := hid hB1
    clear hb1
    go_wp2_with fail
    refine (ok_impl _ B _ (hMB.out _ hB1.out) hFB.out.1 hFB.out.2.1 hFB.out.2.2).mono ?_
    rintro e w2 ⟨rfl, hb2⟩
    rw [hk2]
    have r0 := q0.out.below hb2 (by omega)
    have r1 := q1.out.below hb2 (by omega)
    have hB2 := hid (hB1.out.trans (hb2.mono hB1.out.size))
    clear x0 x1 q0 q1 hB1 hb2
    have x0 := r0.cell
    have x1 := r1.cell
    clear r0 r1
    go_wp2_with fail
    refine (equal_impl _ _ A.rom B.rom _ (hRA.out _ hB2.out) (hRB.out _ hB2.out) hFA.out.1 hFB.out.1).mono ?_
    rintro e w3 ⟨rfl, nn, rfl⟩
    rw [hro]
    go_wp2
    go_ret
    exact ⟨rfl, hB2.out.trans (Below.drewN _ _ _)⟩
  have hro : decide (A.rom = B.rom) = true := decide_eq_true hrm
  have hNo : Hid (∀ k, k < 4 → ¬ A.ram.getD k [] = B.ram.getD k [] → sameM A B = false) := fun k hk hn => sameM_no (.inr (.inr (.inr (.inr (.inr (.inr (fun e => hn (by rw [e]))))))))
  have hYes : Hid ((∀ j, j < 4 → A.ram.getD j [] = B.ram.getD j []) → sameM A B = (decide (A.page = B.page) && decide (A.screen = B.screen) && (A.locked == B.locked))) := fun hj => by
    have hrr : A.ram = B.ram := getD_ext2 (by rw [(ok_parts hk1).2.1, (ok_parts hk2).2.1]) (fun i hi => hj i (by rw [(ok_parts hk1).2.1] at hi; exact hi))
    unfold sameM
    rw [hk1, hk2, decide_eq_true hrm, decide_eq_true hrr]
    simp
  have hl4 := hid (ok_parts hk1).2.1
  have hl4' := hid (ok_parts hk2).2.1
  replace hrm := hid hrm
  · skip
    go_enter Tryz.func11, Tryz.ntmps11
    go_wp2_with fail
    refine (ok_impl _ A _ (hMA.out _ (hB.out _ _)) hFA.out.1 hFA.out.2.1 hFA.out.2.2).mono ?_
    rintro e w1 ⟨rfl, hb1⟩
    rw [hk1]
    obtain ⟨q0, q1, hB1⟩ := two_new hb1
    have x0 := q0.cell
    have x1 := q1.cell
    have hz := q1.lt
    replace q0 := hid q0
    replace q1 := hid q1
    replace hB1 := hid hB1
    clear hb1
    go_wp2_with fail
    refine (ok_impl _ B _ (hMB.out _ hB1.out) hFB.out.1 hFB.out.2.1 hFB.out.2.2).mono ?_
    rintro e w2 ⟨rfl, hb2⟩
    rw [hk2]
    have r0 := q0.out.below hb2 (by omega)
    have r1 := q1.out.below hb2 (by omega)
    have hB2 := hid (hB1.out.trans (hb2.mono hB1.out.size))
    clear x0 x1 q0 q1 hB1 hb2
    have x0 := r0.cell
    have x1 := r1.cell
    have hz2 := r1.lt
    replace r0 := hid r0
    replace r1 := hid r1
    go_wp2_with fail
    refine (equal_impl _ _ A.rom B.rom _ (hRA.out _ hB2.out) (hRB.out _ hB2.out) hFA.out.1 hFB.out.1).mono ?_
    rintro e w3 ⟨rfl, nn, rfl⟩
    rw [hro]
    go_wp2
    go_loopw [22] (fun i wr => ∃ k : Nat, k ≤ 4 ∧ i = .int .i64 k ∧ (∃ n, wr = w2.drewN n) ∧ ∀ j, j < k → A.ram.getD j [] = B.ram.getD j []) (fun i _ => 4 - (intOf i).toNat)
    case atStart => exact ⟨0, by omega, rfl, ⟨nn, rfl⟩, fun j hj => by omega⟩
    case round =>
      obtain ⟨k, hk, rfl, ⟨n, rfl⟩, hj⟩ := hrel
      have hlA : A.ram.length = 4 := hl4.out
      have hlB : B.ram.length = 4 := hl4'.out
      by_cases hlt : k < 4
      · obtain ⟨b, off, a5, p5, rfl, c1, hb1, s1⟩ := rows_at (r2.out.below (hB2.out.trans (Below.drewN _ n _))) (k := k) (by omega)
        obtain ⟨b', off', a6, p6, rfl, c2, hb2, s2⟩ := rows_at (r4.out.below (hB2.out.trans (Below.drewN _ n _))) (k := k) (by omega)
        have t1 := hFA.out.2.2 k (by omega)
        have t2 := hFB.out.2.2 k (by omega)
        have hkA : k < A.ram.length := by omega
        have hkB : k < B.ram.length := by omega
        replace s1 := hid s1
        replace s2 := hid s2
        clear hlA hlB
        have y0 : ∀ i, (w2.drewN n).cell? ⟨w.heap.size, i, none⟩ = _ := fun i => r0.out.cell i
        have y1 : ∀ i, (w2.drewN n).cell? ⟨w.heap.size + 1, i, none⟩ = _ := fun i => r1.out.cell i
        by_cases he : A.ram.getD k [] = B.ram.getD k []
        · have hj2 : Hid (∀ j, j < k + 1 → A.ram.getD j [] = B.ram.getD j []) := fun j hj1 => by
            by_cases e : j = k
            · rw [e]; exact he
            · exact hj j (by omega)
          have hde : decide (A.ram.getD k [] = B.ram.getD k []) = true := decide_eq_true he
          clear hj hNo hYes he x0 x1
          generalize A.ram.getD k [] = z at *
          generalize B.ram.getD k [] = z' at *
          generalize hW : w2.drewN n = W at *
          replace hW := hid hW
          go_wp2
          go_quiet ((go_at_call 30; refine Calls.quiet_of (equal_impl _ _ z z' _ ?_ ?_ t1 t2); exact s1.out; exact s2.out))
          go_wp2
          go_roundw
          case rel => exact ⟨k + 1, by omega, by go_num, ⟨n + nq, by rw [← World.drewN_drewN, hW.out]⟩, hj2.out⟩
          case measure => simp [intOf]; omega
        · have hE := hid (hNo.out k hlt he)
          have hde : decide (A.ram.getD k [] = B.ram.getD k []) = false := decide_eq_false he
          clear hj hNo hYes he x0 x1
          generalize A.ram.getD k [] = z at *
          generalize B.ram.getD k [] = z' at *
          generalize hW : w2.drewN n = W at *
          replace hW := hid hW
          go_wp2
          go_quiet ((go_at_call 30; refine Calls.quiet_of (equal_impl _ _ z z' _ ?_ ?_ t1 t2); exact s1.out; exact s2.out))
          go_wp2
          go_ret
          exact ⟨ret_bool hE.out.symm, by rw [← hW.out]; exact (hB2.out.trans (Below.drewN _ _ _)).trans (Below.drewN _ _ _)⟩
      · obtain rfl : k = 4 := by omega
        have hE := hid (hYes.out hj)
        clear hj hNo hYes hlA hlB
        have y0 : ∀ i, (w2.drewN n).cell? ⟨w.heap.size, i, none⟩ = _ := fun i => r0.out.cell i
        have y1 : ∀ i, (w2.drewN n).cell? ⟨w.heap.size + 1, i, none⟩ = _ := fun i => r1.out.cell i
        clear x0 x1
        by_cases hpg : A.page = B.page
        · have e1 : (A.page == B.page) = true := by simpa using hpg
          have d1 : decide (A.page = B.page) = true := decide_eq_true hpg
          clear hpg
          by_cases hsc : A.screen = B.screen
          · have e2 : (A.screen == B.screen) = true := by simpa using hsc
            have d2 : decide (A.screen = B.screen) = true := decide_eq_true hsc
            clear hsc
            have hE2 : Hid (sameM A B = (A.locked == B.locked)) := by rw [hE.out, d1, d2]; rfl
            clear hE d1 d2
            go_wp2
            go_ret
            exact ⟨ret_bool hE2.out.symm, hB2.out.trans (Below.drewN _ _ _)⟩
          · have e2 : (A.screen == B.screen) = false := by simpa using hsc
            have d2 : decide (A.screen = B.screen) = false := decide_eq_false hsc
            clear hsc
            have hE2 : Hid (sameM A B = false) := by rw [hE.out, d1, d2]; rfl
            clear hE d1 d2
            go_wp2
            go_ret
            exact ⟨ret_bool hE2.out.symm, hB2.out.trans (Below.drewN _ _ _)⟩
        · have e1 : (A.page == B.page) = false := by simpa using hpg
          have d1 : decide (A.page = B.page) = false := decide_eq_false hpg
          clear hpg
          have hE2 : Hid (sameM A B = false) := by rw [hE.out, d1]; rfl
          clear hE d1
          go_wp2
          go_ret
          exact ⟨ret_bool hE2.out.symm, hB2.out.trans (Below.drewN _ _ _)⟩
end Go.Proofs.YtgpmpfikeindfaaGreatDoor

/- What the specification answers whether an address is shared, and what paging makes of a memory. -/
namespace Go.Proofs.YtgpmpfikeindfaaGreatDoor
open Go.ChangeShapes Go.WideShapes Go.ChangeAt Go.RowKit
set_option linter.unusedVariables false

/-- a memory behind paging -/
def pageM (M : Mem) (v : Int) : Mem := { M with page := (Nat.land v.toNat 3 : Nat), screen := 1 + 2 * (Nat.land (v.toNat / 8) 1 : Nat), locked := !(Nat.beq (Nat.land v.toNat 32) 0) }
def pageC (M : Mem) (v : Int) : Int := if askM M v = 0 then (if M.locked = true then 12 else 0) else askM M v
def pageR (M : Mem) (v : Int) : Mem := if askM M v = 0 then (if M.locked = true then M else pageM M v) else mem0
theorem land3 (k : Nat) : Nat.land k 3 ≤ 3 := Nat.and_le_right
theorem land1 (k : Nat) : Nat.land k 1 ≤ 1 := Nat.and_le_right
theorem page_ok {M : Mem} {v : Int} (h : okM M = true) : okM (pageM M v) = true := by
  obtain ⟨h1, h2, h3, h4, h5⟩ := ok_parts h
  have k3 := land3 v.toNat
  have k1 := land1 (v.toNat / 8)
  refine ok_all h1 h2 (in_yes ?_ ?_) ?_ (fun i hi => h5 i (by omega))
  · show (0 : Int) ≤ (Nat.land v.toNat 3 : Nat)
    omega
  · show ((Nat.land v.toNat 3 : Nat) : Int) ≤ 3
    omega
  · show 1 + 2 * ((Nat.land (v.toNat / 8) 1 : Nat) : Int) = 1 ∨ 1 + 2 * ((Nat.land (v.toNat / 8) 1 : Nat) : Int) = 3
    omega
end Go.Proofs.YtgpmpfikeindfaaGreatDoor

/- Plain facts of a write: what is read behind it. -/
namespace Go.Proofs.YtgpmpfikeindfaaGreatDoor
set_option linter.unusedVariables false

theorem poke_page (M : Mem) (k v : Int) : (pokeM M k v).page = M.page := by unfold pokeM; split <;> rfl
theorem peek_poke {M : Mem} (hok : okM M = true) {k v i : Int} (hk0 : 0 ≤ k) (hk1 : k ≤ 255) (hi0 : 0 ≤ i) (hi1 : i ≤ 255) :
    peekI (pokeM M k v) i = if bankI M.page i = bankI M.page k ∧ i % 64 = k % 64 ∧ 0 ≤ bankI M.page k then v else peekI M i := by
  obtain ⟨h1, h2, h3, h4, h5⟩ := ok_parts hok
  by_cases hk : k < 64
  · have e : bankI M.page k = -1 := by unfold bankI; rw [if_pos hk]
    have e2 : pokeM M k v = M := by unfold pokeM; rw [if_pos hk]
    rw [e2, if_neg (by rw [e]; omega)]
  · have hb := bank_bd h3 (a := k) (by omega)
    have e2 : pokeM M k v = { M with ram := M.ram.set (bankI M.page k).toNat ((M.ram.getD (bankI M.page k).toNat []).set (k % 64).toNat v) } := by unfold pokeM; rw [if_neg hk]
    have hlen := bytes_len (h5 (bankI M.page k).toNat (by omega))
    by_cases hi : i < 64
    · have e : bankI M.page i = -1 := by unfold bankI; rw [if_pos hi]
      rw [if_neg (by rw [e]; omega), e2]
      unfold peekI
      rw [if_pos hi, if_pos hi]
    · have hc := bank_bd h3 (a := i) (by omega)
      rw [e2]
      unfold peekI
      rw [if_neg hi, if_neg hi]
      show ((M.ram.set (bankI M.page k).toNat ((M.ram.getD (bankI M.page k).toNat []).set (k % 64).toNat v)).getD (bankI M.page i).toNat []).getD (i % 64).toNat 0 = _
      by_cases hbb : bankI M.page i = bankI M.page k
      · rw [hbb, List.getD_eq_getElem?_getD (l := M.ram.set _ _), List.getElem?_set_self (by omega), Option.getD_some]
        by_cases hq : i % 64 = k % 64
        · rw [if_pos ⟨rfl, hq, hb.1⟩, hq, List.getD_eq_getElem?_getD, List.getElem?_set_self (by omega), Option.getD_some]
        · rw [if_neg (fun h => hq h.2.1), List.getD_eq_getElem?_getD, List.getElem?_set_ne (by omega), ← List.getD_eq_getElem?_getD]
      · rw [if_neg (fun h => hbb h.1), List.getD_eq_getElem?_getD (l := M.ram.set _ _), List.getElem?_set_ne (by omega), ← List.getD_eq_getElem?_getD]
theorem ask_ok {M : Mem} (hok : okM M = true) {a : Int} (h0 : 0 ≤ a) (h1 : a ≤ 255) : askM M a = 0 := by unfold askM; rw [if_pos hok, if_pos (in_yes h0 h1)]
theorem same_self {M : Mem} (hok : okM M = true) : sameM M M = true := sameM_yes hok hok rfl rfl (by simp) rfl rfl
theorem ok_fit {M : Mem} (hok : okM M = true) : Fit M := by
  obtain ⟨h1, h2, h3, h4, h5⟩ := ok_parts hok
  exact ⟨by have := bytes_len h1; omega, by omega, fun i hi => by have := bytes_len (h5 i hi); omega⟩
end Go.Proofs.YtgpmpfikeindfaaGreatDoor
