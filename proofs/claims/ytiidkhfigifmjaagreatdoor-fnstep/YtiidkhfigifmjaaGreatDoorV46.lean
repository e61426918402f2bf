/- What is asked of the answers of a call on a processor in the exact laws: they are small; marks are laid into them. -/
import Derived.Test.YtiidkhfigifmjaaGreatDoorV42
import Derived.Test.YtiidkhfigifmjaaGreatDoorV13
import Derived.Test.YtiidkhfigifmjaaGreatDoorV44
import Derived.Test.YtiidkhfigifmjaaGreatDoorMev
import Derived.Test.YtiidkhfigifmjaaGreatDoorV05
import Derived.Test.YtiidkhfigifmjaaGreatDoorV10
import Derived.ChangeKeysEq
import Derived.Test.YtiidkhfigifmjaaGreatDoorV02
import Derived.Test.YtiidkhfigifmjaaGreatDoorV00
namespace Go.Proofs.YtiidkhfigifmjaaGreatDoor
open Go.ChangeShapes Go.WideShapes Go.ChangeAt Go.RowKit
set_option linter.unusedVariables false
set_option linter.unusedSimpArgs false

theorem mem0_smallq : Small mem0 := ⟨Nat.zero_le _, Nat.zero_le _, Nat.zero_le _⟩
theorem small_ok {M : Mem} (h : okM M = true) : Small M := by
  obtain ⟨k1, k2, k3, k4, k5⟩ := ok_parts h
  have hl := bytes_len k1
  have hb : ∀ i, i < 4 → (M.ram.getD i []).length = 64 := fun i hi => bytes_len (k5 i (by omega))
  refine ⟨by omega, by omega, ?_⟩
  have p1 := pre_succ M.ram 0 (by omega)
  have p2 := pre_succ M.ram 1 (by omega)
  have p3 := pre_succ M.ram 2 (by omega)
  have p4 := pre_succ M.ram 3 (by omega)
  rw [hb 0 (by omega), pre_zero] at p1
  rw [hb 1 (by omega)] at p2
  rw [hb 2 (by omega)] at p3
  rw [hb 3 (by omega)] at p4
  simp only [Nat.zero_add, Nat.reduceAdd] at p1 p2 p3 p4
  rw [k2]
  omega
/-- things that lie apart, all of them made since w -/
structure StF (w W : World) (L : List Thing) : Prop where
  sts : Sts W L
  bel : Below w.heap.size w W
  far : ∀ t, t ∈ L → ∀ b, t.dom b → w.heap.size ≤ b
theorem StF.at {w W : World} {L : List Thing} (h : StF w W L) (i : Nat) {t : Thing} (e : L[i]? = some t) : t.say W := h.sts.at i e
theorem StF.below {w W W' : World} {L : List Thing} (h : StF w W L) (hb : Below W.heap.size W W') : StF w W' L := ⟨h.sts.below hb, new_trans h.bel hb, h.far⟩
theorem StF.nil (w : World) : StF w w [] := ⟨Sts.nil _, Below.refl _ _, fun t h => by cases h⟩
theorem StF.box {w W : World} {L : List Thing} (h : StF w W L) (A : Array Value) (t : TypeId) : StF w (W.alloc (.cells A t)) (tBox W.heap.size A :: L) :=
  ⟨h.sts.box A t, h.bel.alloc h.bel.size _, fun s hs b hd => by
    rcases List.mem_cons.1 hs with rfl | hs
    · have : b = W.heap.size := hd
      rw [this]; exact h.bel.size
    · exact h.far s hs b hd⟩
theorem StF.mem {w W W' : World} {L : List Thing} {v : Value} {M : Mem} (h : StF w W L) (hb : Below W.heap.size W W') (hm : MemO W' W.heap.size W'.heap.size v M) : StF w W' (tMem W.heap.size W'.heap.size v M :: L) :=
  ⟨h.sts.mem hb hm, new_trans h.bel hb, fun s hs b hd => by
    rcases List.mem_cons.1 hs with rfl | hs
    · exact Nat.le_trans h.bel.size hd.1
    · exact h.far s hs b hd⟩
theorem StF.turn {w W W' : World} {L : List Thing} (h : StF w W L) (i : Nat) {t : Thing} {say' : World → Prop} (e : L[i]? = some t) (hs : W.heap.size ≤ W'.heap.size) (ho : W'.os = W.os ∧ W'.tape = W.tape ∧ W'.output = W.output) (hk : ∀ b, b < W.heap.size → ¬ t.dom b → W'.heap[b]? = W.heap[b]?) (ht : Sits W' ⟨t.dom, say'⟩) : StF w W' (L.set i ⟨t.dom, say'⟩) := by
  have hmem := List.mem_of_getElem? e
  refine ⟨h.sts.turn i e hs hk ht, ⟨ho.1.trans h.bel.os, ho.2.1.trans h.bel.tape, ho.2.2.trans h.bel.output, Nat.le_trans h.bel.size hs, fun k hk2 => ?_⟩, fun s hs2 b hd => ?_⟩
  · have hz := h.bel.size
    rw [hk k (by omega) (fun hd => by have := h.far t hmem k hd; omega)]
    exact h.bel.block k hk2
  · obtain ⟨j, hj, rfl⟩ := List.getElem_of_mem hs2
    rw [List.length_set] at hj
    by_cases e2 : i = j
    · subst e2
      rw [List.getElem_set_self] at hd
      exact h.far t hmem b hd
    · rw [List.getElem_set_ne e2] at hd
      exact h.far L[j] (List.getElem_mem hj) b hd
theorem StF.touch {w W W' : World} {L : List Thing} (h : StF w W L) (i : Nat) {lo hi : Nat} {v : Value} {M M' : Mem} (e : L[i]? = some (tMem lo hi v M)) (ht : Touch lo hi W W') (hm : MemO W' lo hi v M') : StF w W' (L.set i (tMem lo hi v M')) := by
  have hl := h.sts.has i e
  refine h.turn i e ht.size ⟨ht.os, ht.tape, ht.output⟩ (fun b hb hn => ht.block b hb (by show b < lo ∨ hi ≤ b; have : ¬ (lo ≤ b ∧ b < hi) := hn; omega)) ⟨hm, fun b hb => ?_, fun W2 hk => hm.kept (fun b h0 h1 => hk b ⟨h0, h1⟩)⟩
  exact Nat.lt_of_lt_of_le (hl.lt b hb) ht.size
theorem StF.mark {w W W' : World} {L : List Thing} (h : StF w W L) (i : Nat) {v : Value} {l l' : List (Nat × Nat × Nat)} (e : L[i]? = some (tCyc v l)) (hm : CyO W' v l') (hg : W.grownBy W' v.ownBlock) : StF w W' (L.set i (tCyc v l')) :=
  h.turn i e hg.size ⟨hg.os, hg.tape, hg.output⟩ (fun b hb hn => hg.block b hb (fun e2 => hn e2.symm)) (sits_cyc hm)
theorem WI.stf {w w1 w' : World} {X : Mx} {u cv : Value} {lo hi b6 b7 : Nat} {mA : Array Value} {L0 : List Thing} (h : WI w1 w' true true true true true X u cv lo hi b6 b7 mA) (h0 : StF w w1 L0) : StF w w' (tCyc cv X.cy :: tMem lo hi u X.m :: tBox b6 (cpA X.c) :: tBox b7 mA :: L0) :=
  ⟨h.done h0.sts, new_trans h0.bel h.bel, fun t ht b hd => by
    have ht : t ∈ wiL true true true true true X u cv lo hi b6 b7 mA ++ L0 := ht
    rcases List.mem_append.1 ht with ht | ht
    · exact Nat.le_trans h0.bel.size (h.far t ht b hd)
    · exact h0.far t ht b hd⟩
set_option maxRecDepth 100000 in
theorem int_small {c : Cu} {M : Mem} (h : Small M) : Small (intX c M).m := by
  unfold intX
  split
  · rename_i hb
    have hb : okC c = true ∧ okM M = true := by simpa using hb
    split
    · exact h
    · have hp : c.cp.pc < 256 := (okC_cp hb.1).2.2.2.2.2.2.2.2.2.2
      have hq : inB ((c.cp.pc : Nat) : Int) 0 255 = true := in_yes (by omega) (by omega)
      have hr : okM (intM c.cp M).m = true := poke_ok hb.2 hq
      exact small_ok hr
  · exact mem0_smallq
theorem int_len (c : Cu) (M : Mem) : (intX c M).cy.length ≤ 1000 := by
  unfold intX
  split
  · split
    · exact Nat.zero_le _
    · show ([_] ++ [_] : List (Nat × Nat × Nat)).length ≤ 1000
      simp
  · exact Nat.zero_le _
theorem stp_inv {c : Cu} {M : Mem} {n : Int} (hb : (okC c && okM M) = true) (hn : inB n 0 255 = true) : Inv M (1, c.cp.pc, peekN M c.cp.pc) 4 (stepM c.cp M n.toNat) := by
  have hb : okC c = true ∧ okM M = true := by simpa using hb
  have := inB_bd hn
  exact step_inv (okC_cp hb.1).2 hb.2 (by omega)
theorem stp_small {c : Cu} {M : Mem} {n : Int} (h : Small M) : Small (stpX c M n).m := by
  unfold stpX
  split
  · rename_i hb
    split
    · rename_i hn
      exact small_ok (stp_inv hb hn).m
    · exact mem0_smallq
  · exact mem0_smallq
theorem stp_len (c : Cu) (M : Mem) (n : Int) : (stpX c M n).cy.length ≤ 1000 := by
  unfold stpX
  split
  · rename_i hb
    split
    · rename_i hn
      exact Nat.le_trans (stp_inv hb hn).len (by omega)
    · exact Nat.zero_le _
  · exact Nat.zero_le _
theorem MemO.none {W W' : World} {lo hi lo' hi' : Nat} {v : Value} {M : Mem} (h : MemO W lo hi v M) (hh : hi ≤ lo) : MemO W' lo' hi' v M := by
  rcases h with h | ⟨vr, vm, r, s, G, e, h1, h2, b1, b2, _⟩
  · exact .inl h
  · omega
theorem markm' (v : Value) (M : Mem) (m : Int) (lo hi : Nat) (w : World) (h : Sits w (tMem lo hi v M)) (hs : Small M) (hm0 : 0 ≤ m) (hm1 : m ≤ 10000000) :
    Calls Tryz.prog 25 #[v, .int .i64 m] w fun e w' => e = .returned (.int .i64 (m + (cntM M : Nat))) ∧ MemO w' lo hi v (markM M m) ∧ Touch lo hi w w' := by
  by_cases hh : lo < hi
  · exact markm v M m lo hi w h.now (by have := h.lt (hi - 1) ⟨by omega, by omega⟩; omega) hs hm0 hm1
  · refine (markm v M m 0 0 w (h.now.none (by omega)) (Nat.zero_le _) hs hm0 hm1).mono ?_
    rintro e w' ⟨h1, h2, h3⟩
    exact ⟨h1, h2.none (Nat.le_refl _), ⟨h3.os, h3.tape, h3.output, h3.size, fun k hk _ => h3.block k hk (.inr (Nat.zero_le _))⟩⟩
end Go.Proofs.YtiidkhfigifmjaaGreatDoor

/- What the law of a step asks besides: an answer among things that lie apart; the processor behind a step is right. -/
namespace Go.Proofs.YtiidkhfigifmjaaGreatDoor
open Go.ChangeShapes Go.WideShapes Go.ChangeAt Go.RowKit
set_option linter.unusedVariables false
set_option linter.unusedSimpArgs false

theorem Ans.stf {w W0 W : World} {x : Mx} {u cv : Value} {L : List Thing} (h : Ans W0 W x u cv) (hS : StF w W0 L) : ∃ lo hi, StF w W (tCyc cv x.cy :: tMem lo hi u x.m :: L) := by
  obtain ⟨lo, hi, h1, h2, h3⟩ := h.things2 hS.sts
  have hz := hS.bel.size
  refine ⟨lo, hi, h1, new_trans hS.bel h.bel, fun t ht b hd => ?_⟩
  rcases List.mem_cons.1 ht with rfl | ht
  · exact Nat.le_trans hz (h3 b hd)
  rcases List.mem_cons.1 ht with rfl | ht
  · exact Nat.le_trans hz (Nat.le_trans h2 hd.1)
  · exact hS.far t ht b hd
abbrev Cp.cu (c : Cp) : Cu := ⟨c.b, c.c, c.d, c.e, c.h, c.l, 0, c.a, c.f, c.sp, c.pc, c.iff, c.ei, c.halt⟩
theorem okC_of {c : Cp} (h : c.ok) (he : c.ei = true → c.iff = true) : okC c.cu = true := by
  obtain ⟨h0, h1, h2, h3, h4, h5, h6, h7, h8, h9⟩ := h
  have hr : regsB c.cu = true := regs_all (fun i hi => by
    rcases (by omega : i = 0 ∨ i = 1 ∨ i = 2 ∨ i = 3 ∨ i = 4 ∨ i = 5 ∨ i = 6 ∨ i = 7) with rfl | rfl | rfl | rfl | rfl | rfl | rfl | rfl
    all_goals
      simp only [Cu.reg]
      exact in_yes (by omega) (by omega))
  unfold okC
  rw [hr]
  have e1 : inB c.cu.f 0 255 = true := in_yes (by show (0 : Int) ≤ (c.f : Int); omega) (by show (c.f : Int) ≤ 255; omega)
  have e2 : inB c.cu.sp 0 255 = true := in_yes (by show (0 : Int) ≤ (c.sp : Int); omega) (by show (c.sp : Int) ≤ 255; omega)
  have e3 : inB c.cu.pc 0 255 = true := in_yes (by show (0 : Int) ≤ (c.pc : Int); omega) (by show (c.pc : Int) ≤ 255; omega)
  rw [e1, e2, e3]
  show (true && decide ((0 : Int) = 0) && true && true && true && (!c.ei || c.iff)) = true
  cases hh : c.ei
  · rfl
  · rw [he hh]; rfl
/-- another world that differs at most at one block -/
def Exc (b : Nat) (w w' : World) : Prop := w.heap.size ≤ w'.heap.size ∧ ∀ k, k < w.heap.size → k ≠ b → w'.heap[k]? = w.heap[k]?
theorem Exc.below {b : Nat} {w w' w2 : World} (h : Exc b w w') (hb : Below w'.heap.size w' w2) : Exc b w w2 := ⟨Nat.le_trans h.1 hb.size, fun k hk hn => (hb.block k (Nat.lt_of_lt_of_le hk h.1)).trans (h.2 k hk hn)⟩
theorem Exc.refl (b : Nat) (w : World) : Exc b w w := ⟨Nat.le_refl _, fun _ _ _ => rfl⟩
theorem Exc.trans {b : Nat} {w w' w2 : World} (h : Exc b w w') (k : Exc b w' w2) : Exc b w w2 := ⟨Nat.le_trans h.1 k.1, fun j hj hn => (k.2 j (Nat.lt_of_lt_of_le hj h.1) hn).trans (h.2 j hj hn)⟩
theorem Exc.sets (b : Nat) (w : World) (i : Nat) (l : List Value) : Exc b w (sets w b i l) := ⟨by rw [sets_size]; exact Nat.le_refl _, fun k _ hn => sets_heap b l w i k hn⟩
theorem MemR.exc {b : Nat} {w w' : World} {v : Value} {M : Mem} {w0 : World} (h : MemR w0 v M) (hb : Below w0.heap.size w0 w) (hlt : w0.heap.size ≤ b) (he : Exc b w w') : MemR w' v M := by
  refine h.mono (fun k i u hu => ?_)
  have hk : k < w0.heap.size := World.block_lt_of_cell? w0 _ hu
  rw [World.cell?_of_block (w := w0) (a := ⟨k, i, none⟩) ((he.2 k (Nat.lt_of_lt_of_le hk hb.size) (by omega)).trans (hb.block k hk))]
  exact hu
theorem MemO.exc {b lo hi : Nat} {w w' : World} {v : Value} {M : Mem} (h : MemO w lo hi v M) (hh : hi ≤ w.heap.size) (hb : b < lo) (he : Exc b w w') : MemO w' lo hi v M := h.kept (fun k h0 h1 => he.2 k (by omega) (by omega))
theorem take_succ_replay {M : Mem} {l : List (Nat × Nat × Nat)} {k : Nat} (hk : k < l.length) : replay M (l.take (k + 1)) = again (replay M (l.take k)) (l.getD k (0, 0, 0)) := by
  rw [List.take_succ_eq_append_getElem hk, replay_snoc]
  congr 1
  simp [List.getD_eq_getElem?_getD, List.getElem?_eq_getElem hk]
theorem again_no {M : Mem} {t : Nat × Nat × Nat} (h : t.1 ≠ 3) : again M t = M := by unfold again; rw [if_neg h]
theorem again_yes {M : Mem} {t : Nat × Nat × Nat} (h : t.1 = 3) : again M t = pokeM M (t.2.1 : Int) (t.2.2 : Int) := by unfold again; rw [if_pos h]
theorem vars4_form {H : Type} {enc : TypeId × Value → H} {P : Program} {w : World} {sp : Nat → Bool} {n m l o : String} {gs : List (DataW H)} {ps : List MemPlace} (h : DataW.TrodVars enc P w sp [n, m, l, o] gs ps) : ∃ a b c d, gs = [a, b, c, d] := by
  match gs, h with
  | [], h => exact h.elim
  | a :: gs, ⟨_, _, _, _, _, _, _, _, _, _, h, _⟩ =>
    obtain ⟨b, c, d, rfl⟩ := vars3_form h
    exact ⟨a, b, c, d, rfl⟩
theorem StF.reset {w W : World} {L : List Thing} {b : Nat} {A A' : Array Value} (h : StF w W (tBox b A :: L)) (l : List Value) (hA : setsA 0 l A = A') : StF w (sets W b 0 l) (tBox b A' :: L) := by
  have hg := sets_grown b l W 0
  have hq := sets_blk b l W 0 A (h.at 0 rfl)
  rw [hA] at hq
  exact h.turn 0 (t := tBox b A) (say' := fun W => Blk W b A') rfl hg.size ⟨hg.os, hg.tape, hg.output⟩ (fun k _ hn => sets_heap b l W 0 k hn) (sits_box hq)
theorem setsM2 (vr vm a b c d e : Value) (M : Mem) : setsA 0 (meL vr vm M) #[a, b, c, d, e] = #[vr, vm, .int .i64 M.page, .int .i64 M.screen, .bool M.locked] := by simp only [setsA, meL, Nat.zero_add, Nat.reduceAdd, List.setIfInBounds_toArray, List.set_cons_zero, List.set_cons_succ]
/-- a memory is laid into a variable of its own -/
structure Laid (wr wx : World) (b22 b26 lo hi : Nat) (vr vm : Value) (T : Mem) : Prop where
  blk : Blk wx b26 #[vr, vm, .int .i64 T.page, .int .i64 T.screen, .bool T.locked]
  mem : MemO wx lo hi (memV vr vm T.page T.screen T.locked) T
  ord : wr.heap.size ≤ lo ∧ hi ≤ wx.heap.size
  bel : Below wr.heap.size wr wx
theorem Laid.first {wr V w' : World} {b22 : Nat} {vr vm : Value} {T : Mem} (hV : Below wr.heap.size wr V) (hq : Blk V wr.heap.size zM) (hm : MemO w' V.heap.size w'.heap.size (memV vr vm T.page T.screen T.locked) T) (hb : Below V.heap.size V w') : Laid wr (sets w' wr.heap.size 0 (meL vr vm T)) b22 wr.heap.size V.heap.size w'.heap.size vr vm T := by
  have hl := hq.lt
  have q := sets_blk wr.heap.size (meL vr vm T) w' 0 zM (hq.below hb hl)
  rw [setsM] at q
  exact ⟨q, hm.kept (fun k h0 h1 => sets_heap _ _ _ _ _ (by omega)), ⟨by omega, by rw [sets_size]; exact Nat.le_refl _⟩, sets_below _ _ _ _ _ _ (new_trans hV hb) (Nat.le_refl _)⟩
theorem Laid.last {wr V w' : World} {b22 : Nat} {vr vm : Value} {T : Mem} (t : TypeId) (hV : Below wr.heap.size wr V) (hm : MemO w' V.heap.size w'.heap.size (memV vr vm T.page T.screen T.locked) T) (hb : Below V.heap.size V w') : Laid wr (w'.alloc (.cells #[vr, vm, .int .i64 T.page, .int .i64 T.screen, .bool T.locked] t)) b22 w'.heap.size V.heap.size w'.heap.size vr vm T := by
  have hB := new_trans hV hb
  exact ⟨Blk.new w' _ _, hm.below ((Below.refl _ _).alloc (Nat.le_refl _) _) (Nat.le_refl _), ⟨hV.size, by rw [World.size_alloc]; omega⟩, hB.alloc hB.size _⟩
end Go.Proofs.YtiidkhfigifmjaaGreatDoor

/- Eight registers that are the same are told the same. -/
namespace Go.Proofs.YtiidkhfigifmjaaGreatDoor
open Go.ChangeShapes Go.WideShapes Go.ChangeAt Go.RowKit
set_option linter.unusedVariables false
set_option linter.unusedSimpArgs false

theorem part_int {xs : Array Value} {i : Nat} {v : Value} (h : xs[i]? = some v) (w : World) : (part 3 xs i).run Tryz.prog w = .ok v w := by
  have hu := Tryz.underlying3
  simp [part, isAgg, go_sem, hu, h]
theorem eq_int1 (d : Nat) (z : Int) (w : World) : (Op.equalIn (d + 1) 3 (.int .i64 z) (.int .i64 z)).run Tryz.prog w = .ok true w := by
  have hu := Tryz.underlying3
  simp [Op.equalIn, go_sem, hu]
theorem items_self (d : Nat) (xs : Array Value) (w : World) : ∀ is : List Nat, (∀ i ∈ is, ∃ z, xs[i * 1]? = some (.int .i64 z)) → (Op.eqItems (d + 1) 3 1 xs xs is).run Tryz.prog w = .ok true w := by
  intro is
  induction is with
  | nil => intro _; rfl
  | cons i t ih =>
    intro h
    obtain ⟨z, hz⟩ := h i (by simp)
    simp only [Op.eqItems, Sem.run_bind, part_int hz, Result.andThen_ok, eq_int1, Bool.not_true, Bool.false_eq_true, if_false]
    exact ih (fun j hj => h j (by simp [hj]))
theorem eq8 (d : Nat) (x0 x1 x2 x3 x4 x5 x6 x7 : Int) (w : World) : Sem.run Tryz.prog (Op.equalIn (d + 1 + 1) 23 (.agg #[.int .i64 x0, .int .i64 x1, .int .i64 x2, .int .i64 x3, .int .i64 x4, .int .i64 x5, .int .i64 x6, .int .i64 x7]) (.agg #[.int .i64 x0, .int .i64 x1, .int .i64 x2, .int .i64 x3, .int .i64 x4, .int .i64 x5, .int .i64 x6, .int .i64 x7])) w = .ok true w := by
  obtain ⟨i, hi⟩ : ∃ i, Tryz.prog.info? 3 = some i := Option.isSome_iff_exists.1 (by kernel_rfl)
  have c1 : Tryz.prog.cellsOf 3 = 1 := by kernel_rfl
  rw [run_equalIn_array (w := w) (d + 1) _ _ Tryz.underlying23 hi, c1]
  refine items_self d _ w _ (fun i hi => ?_)
  have hi8 : i < 8 := List.mem_range.1 hi
  rcases (by omega : i = 0 ∨ i = 1 ∨ i = 2 ∨ i = 3 ∨ i = 4 ∨ i = 5 ∨ i = 6 ∨ i = 7) with rfl | rfl | rfl | rfl | rfl | rfl | rfl | rfl <;> exact ⟨_, rfl⟩
theorem eq8a (x0 x1 x2 x3 x4 x5 x6 x7 : Int) (w : World) : Sem.run Tryz.prog (Op.equalIn 9999 23 (.agg #[.int .i64 x0, .int .i64 x1, .int .i64 x2, .int .i64 x3, .int .i64 x4, .int .i64 x5, .int .i64 x6, .int .i64 x7]) (.agg #[.int .i64 x0, .int .i64 x1, .int .i64 x2, .int .i64 x3, .int .i64 x4, .int .i64 x5, .int .i64 x6, .int .i64 x7])) w = .ok true w := eq8 9997 _ _ _ _ _ _ _ _ w
theorem eq8b (x0 x1 x2 x3 x4 x5 x6 x7 : Int) (w : World) : Sem.run Tryz.prog (Op.equalIn 10000 23 (.agg #[.int .i64 x0, .int .i64 x1, .int .i64 x2, .int .i64 x3, .int .i64 x4, .int .i64 x5, .int .i64 x6, .int .i64 x7]) (.agg #[.int .i64 x0, .int .i64 x1, .int .i64 x2, .int .i64 x3, .int .i64 x4, .int .i64 x5, .int .i64 x6, .int .i64 x7])) w = .ok true w := eq8 9998 _ _ _ _ _ _ _ _ w
end Go.Proofs.YtiidkhfigifmjaaGreatDoor

/- What the specification answers whether two memories are alike. -/
namespace Go.Proofs.YtiidkhfigifmjaaGreatDoor
open Go.ChangeShapes Go.WideShapes Go.ChangeAt Go.RowKit
set_option linter.unusedVariables false

/-- both are right, and alike -/
def sameM (A B : Mem) : Bool := okM A && okM B && decide (A.page = B.page) && decide (A.screen = B.screen) && (A.locked == B.locked) && decide (A.rom = B.rom) && decide (A.ram = B.ram)
theorem sameM_no {A B : Mem} (h : okM A = false ∨ okM B = false ∨ ¬ A.page = B.page ∨ ¬ A.screen = B.screen ∨ (A.locked == B.locked) = false ∨ ¬ A.rom = B.rom ∨ ¬ A.ram = B.ram) : sameM A B = false := by
  unfold sameM
  rcases h with h | h | h | h | h | h | h <;> simp [h]
theorem sameM_yes {A B : Mem} (h1 : okM A = true) (h2 : okM B = true) (h3 : A.page = B.page) (h4 : A.screen = B.screen) (h5 : (A.locked == B.locked) = true) (h6 : A.rom = B.rom) (h7 : A.ram = B.ram) : sameM A B = true := by
  unfold sameM
  rw [h1, h2, h5]
  simp [h3, h4, h6, h7]
theorem sameM_eq {A B : Mem} (h : sameM A B = true) : A = B ∧ okM A = true := by
  unfold sameM at h
  simp only [Bool.and_eq_true, decide_eq_true_eq, beq_iff_eq] at h
  obtain ⟨⟨⟨⟨⟨⟨h1, h2⟩, h3⟩, h4⟩, h5⟩, h6⟩, h7⟩ := h
  refine ⟨?_, h1⟩
  cases A
  cases B
  simp_all
end Go.Proofs.YtiidkhfigifmjaaGreatDoor
