/- What the law of a step asks besides: an answer among things that lie apart; the processor behind a step is right. -/
import Derived.Test.YtdfadiicjkenfabGreatDoorW45
import Derived.Test.YtdfadiicjkenfabGreatDoorW20
import Derived.Test.YtdfadiicjkenfabGreatDoorMiw
import Derived.Test.YtdfadiicjkenfabGreatDoorW04
import Derived.Test.YtdfadiicjkenfabGreatDoorW02
import Derived.Test.YtdfadiicjkenfabGreatDoorW01
namespace Go.Proofs.YtdfadiicjkenfabGreatDoor
open Go.ChangeShapes Go.WideShapes Go.ChangeAt Go.RowKit
set_option linter.unusedVariables false
set_option linter.unusedSimpArgs false

theorem Ans.stf {w W0 W : World} {x : Mx} {u cv : Value} {L : List Thing} (h : Ans W0 W x u cv) (hS : StF w W0 L) : ∃ lo hi, StF w W (tCyc cv x.cy :: tMem lo hi u x.m :: L) := by
  obtain ⟨lo, hi, h1, h2, h3⟩ := h.things2 hS.sts
  have hz := hS.bel.size
  refine ⟨lo, hi, h1, new_trans hS.bel h.bel, fun t ht b hd => ?_⟩
  rcases List.mem_cons.1 ht with rfl | ht
  · exact Nat.le_trans hz (h3 b hd)
  rcases List.mem_cons.1 ht with rfl | ht
  · exact Nat.le_trans hz (Nat.le_trans h2 hd.1)
  · exact hS.far t ht b hd
abbrev Cp.cu (c : Cp) : Cu := ⟨c.b, c.c, c.d, c.e, c.h, c.l, 0, c.a, c.f, c.sp, c.pc, c.iff, c.ei, c.halt⟩
theorem okC_of {c : Cp} (h : c.ok) (he : c.ei = true → c.iff = true) : okC c.cu = true := by
  obtain ⟨h0, h1, h2, h3, h4, h5, h6, h7, h8, h9⟩ := h
  have hr : regsB c.cu = true := regs_all (fun i hi => by
    rcases (by omega : i = 0 ∨ i = 1 ∨ i = 2 ∨ i = 3 ∨ i = 4 ∨ i = 5 ∨ i = 6 ∨ i = 7) with rfl | rfl | rfl | rfl | rfl | rfl | rfl | rfl
    all_goals
      simp only [Cu.reg]
      exact in_yes (by omega) (by omega))
  unfold okC
  rw [hr]
  have e1 : inB c.cu.f 0 255 = true := in_yes (by show (0 : Int) ≤ (c.f : Int); omega) (by show (c.f : Int) ≤ 255; omega)
  have e2 : inB c.cu.sp 0 255 = true := in_yes (by show (0 : Int) ≤ (c.sp : Int); omega) (by show (c.sp : Int) ≤ 255; omega)
  have e3 : inB c.cu.pc 0 255 = true := in_yes (by show (0 : Int) ≤ (c.pc : Int); omega) (by show (c.pc : Int) ≤ 255; omega)
  rw [e1, e2, e3]
  show (true && decide ((0 : Int) = 0) && true && true && true && (!c.ei || c.iff)) = true
  cases hh : c.ei
  · rfl
  · rw [he hh]; rfl
/-- another world that differs at most at one block -/
def Exc (b : Nat) (w w' : World) : Prop := w.heap.size ≤ w'.heap.size ∧ ∀ k, k < w.heap.size → k ≠ b → w'.heap[k]? = w.heap[k]?
theorem Exc.below {b : Nat} {w w' w2 : World} (h : Exc b w w') (hb : Below w'.heap.size w' w2) : Exc b w w2 := ⟨Nat.le_trans h.1 hb.size, fun k hk hn => (hb.block k (Nat.lt_of_lt_of_le hk h.1)).trans (h.2 k hk hn)⟩
theorem Exc.refl (b : Nat) (w : World) : Exc b w w := ⟨Nat.le_refl _, fun _ _ _ => rfl⟩
theorem Exc.trans {b : Nat} {w w' w2 : World} (h : Exc b w w') (k : Exc b w' w2) : Exc b w w2 := ⟨Nat.le_trans h.1 k.1, fun j hj hn => (k.2 j (Nat.lt_of_lt_of_le hj h.1) hn).trans (h.2 j hj hn)⟩
theorem Exc.sets (b : Nat) (w : World) (i : Nat) (l : List Value) : Exc b w (sets w b i l) := ⟨by rw [sets_size]; exact Nat.le_refl _, fun k _ hn => sets_heap b l w i k hn⟩
theorem MemR.exc {b : Nat} {w w' : World} {v : Value} {M : Mem} {w0 : World} (h : MemR w0 v M) (hb : Below w0.heap.size w0 w) (hlt : w0.heap.size ≤ b) (he : Exc b w w') : MemR w' v M := by
  refine h.mono (fun k i u hu => ?_)
  have hk : k < w0.heap.size := World.block_lt_of_cell? w0 _ hu
  rw [World.cell?_of_block (w := w0) (a := ⟨k, i, none⟩) ((he.2 k (Nat.lt_of_lt_of_le hk hb.size) (by omega)).trans (hb.block k hk))]
  exact hu
theorem MemO.exc {b lo hi : Nat} {w w' : World} {v : Value} {M : Mem} (h : MemO w lo hi v M) (hh : hi ≤ w.heap.size) (hb : b < lo) (he : Exc b w w') : MemO w' lo hi v M := h.kept (fun k h0 h1 => he.2 k (by omega) (by omega))
theorem take_succ_replay {M : Mem} {l : List (Nat × Nat × Nat)} {k : Nat} (hk : k < l.length) : replay M (l.take (k + 1)) = again (replay M (l.take k)) (l.getD k (0, 0, 0)) := by
  rw [List.take_succ_eq_append_getElem hk, replay_snoc]
  congr 1
  simp [List.getD_eq_getElem?_getD, List.getElem?_eq_getElem hk]
theorem again_no {M : Mem} {t : Nat × Nat × Nat} (h : t.1 ≠ 3) : again M t = M := by unfold again; rw [if_neg h]
theorem again_yes {M : Mem} {t : Nat × Nat × Nat} (h : t.1 = 3) : again M t = pokeM M (t.2.1 : Int) (t.2.2 : Int) := by unfold again; rw [if_pos h]
theorem vars4_form {H : Type} {enc : TypeId × Value → H} {P : Program} {w : World} {sp : Nat → Bool} {n m l o : String} {gs : List (DataW H)} {ps : List MemPlace} (h : DataW.TrodVars enc P w sp [n, m, l, o] gs ps) : ∃ a b c d, gs = [a, b, c, d] := by
  match gs, h with
  | [], h => exact h.elim
  | a :: gs, ⟨_, _, _, _, _, _, _, _, _, _, h, _⟩ =>
    obtain ⟨b, c, d, rfl⟩ := vars3_form h
    exact ⟨a, b, c, d, rfl⟩
theorem StF.reset {w W : World} {L : List Thing} {b : Nat} {A A' : Array Value} (h : StF w W (tBox b A :: L)) (l : List Value) (hA : setsA 0 l A = A') : StF w (sets W b 0 l) (tBox b A' :: L) := by
  have hg := sets_grown b l W 0
  have hq := sets_blk b l W 0 A (h.at 0 rfl)
  rw [hA] at hq
  exact h.turn 0 (t := tBox b A) (say' := fun W => Blk W b A') rfl hg.size ⟨hg.os, hg.tape, hg.output⟩ (fun k _ hn => sets_heap b l W 0 k hn) (sits_box hq)
theorem setsM2 (vr vm a b c d e : Value) (M : Mem) : setsA 0 (meL vr vm M) #[a, b, c, d, e] = #[vr, vm, .int .i64 M.page, .int .i64 M.screen, .bool M.locked] := by simp only [setsA, meL, Nat.zero_add, Nat.reduceAdd, List.setIfInBounds_toArray, List.set_cons_zero, List.set_cons_succ]
/-- a memory is laid into a variable of its own -/
structure Laid (wr wx : World) (b22 b26 lo hi : Nat) (vr vm : Value) (T : Mem) : Prop where
  blk : Blk wx b26 #[vr, vm, .int .i64 T.page, .int .i64 T.screen, .bool T.locked]
  mem : MemO wx lo hi (memV vr vm T.page T.screen T.locked) T
  ord : wr.heap.size ≤ lo ∧ hi ≤ wx.heap.size
  bel : Below wr.heap.size wr wx
theorem Laid.first {wr V w' : World} {b22 : Nat} {vr vm : Value} {T : Mem} (hV : Below wr.heap.size wr V) (hq : Blk V wr.heap.size zM) (hm : MemO w' V.heap.size w'.heap.size (memV vr vm T.page T.screen T.locked) T) (hb : Below V.heap.size V w') : Laid wr (sets w' wr.heap.size 0 (meL vr vm T)) b22 wr.heap.size V.heap.size w'.heap.size vr vm T := by
  have hl := hq.lt
  have q := sets_blk wr.heap.size (meL vr vm T) w' 0 zM (hq.below hb hl)
  rw [setsM] at q
  exact ⟨q, hm.kept (fun k h0 h1 => sets_heap _ _ _ _ _ (by omega)), ⟨by omega, by rw [sets_size]; exact Nat.le_refl _⟩, sets_below _ _ _ _ _ _ (new_trans hV hb) (Nat.le_refl _)⟩
theorem Laid.last {wr V w' : World} {b22 : Nat} {vr vm : Value} {T : Mem} (t : TypeId) (hV : Below wr.heap.size wr V) (hm : MemO w' V.heap.size w'.heap.size (memV vr vm T.page T.screen T.locked) T) (hb : Below V.heap.size V w') : Laid wr (w'.alloc (.cells #[vr, vm, .int .i64 T.page, .int .i64 T.screen, .bool T.locked] t)) b22 w'.heap.size V.heap.size w'.heap.size vr vm T := by
  have hB := new_trans hV hb
  exact ⟨Blk.new w' _ _, hm.below ((Below.refl _ _).alloc (Nat.le_refl _) _) (Nat.le_refl _), ⟨hV.size, by rw [World.size_alloc]; omega⟩, hB.alloc hB.size _⟩
end Go.Proofs.YtdfadiicjkenfabGreatDoor

/- What the program answers where an address lies, what is read there, whether it is shared, and what a write makes of a memory. -/
namespace Go.Proofs.YtdfadiicjkenfabGreatDoor
open Go.ChangeShapes Go.WideShapes Go.ChangeAt Go.RowKit
set_option linter.unusedVariables false
set_option linter.unusedSimpArgs false

theorem row_one (W : World) (a : Int) (t : TypeId) : RowR (W.alloc (.cells #[.int .i64 a] t)) (.slice (some ⟨W.heap.size, 0, none⟩) 1 1) [a] :=
  ⟨_, 1, rfl, .inr ⟨W.heap.size, 0, rfl, fun i hi => by
    have hi : i < 1 := hi
    obtain rfl : i = 0 := by omega
    exact cell_new1 W _ t⟩⟩
theorem row_one2 (W : World) (o : Obj) (a : Int) (t : TypeId) : RowR ((W.alloc o).alloc (.cells #[.int .i64 a] t)) (.slice (some ⟨W.heap.size + 1, 0, none⟩) 1 1) [a] := by
  have := row_one (W.alloc o) a t
  rw [World.size_alloc] at this
  exact this
theorem row_one3 (W : World) (o o' : Obj) (a : Int) (t : TypeId) : RowR (((W.alloc o).alloc o').alloc (.cells #[.int .i64 a] t)) (.slice (some ⟨W.heap.size + 1 + 1, 0, none⟩) 1 1) [a] := by
  have := row_one ((W.alloc o).alloc o') a t
  simp only [World.size_alloc] at this
  exact this
theorem row_two3 (W : World) (o o' : Obj) (a b : Int) (t : TypeId) : RowR (((W.alloc o).alloc o').alloc (.cells #[.int .i64 a, .int .i64 b] t)) (.slice (some ⟨W.heap.size + 1 + 1, 0, none⟩) 2 2) [a, b] := by
  have h := (Blk.new ((W.alloc o).alloc o') #[.int .i64 a, .int .i64 b] t).cell
  simp only [World.size_alloc] at h
  refine ⟨_, 2, rfl, .inr ⟨W.heap.size + 1 + 1, 0, rfl, fun i hi => ?_⟩⟩
  have hi : i < 2 := hi
  rcases (by omega : i = 0 ∨ i = 1) with rfl | rfl
  · exact h 0
  · exact h 1
/-- memoryFault with one number beside -/
theorem fault1_impl (v : Value) (M : Mem) (b cap : Nat) (a : Int) (w : World) (h : MemR w v M) (hf : Fit M) (hz : RowR w (.slice (some ⟨b, 0, none⟩) 1 cap) [a]) :
    Calls Tryz.prog 39 #[v, .slice (some ⟨b, 0, none⟩) 1 cap] w fun e w' => e = .returned (.int .i64 (askM M a)) ∧ Below w.heap.size w w' := by
  rw [← fault_one]
  exact fault_impl v M (some ⟨b, 0, none⟩) cap [a] w h hf hz (by simp)
theorem fault2_impl (v : Value) (M : Mem) (b cap : Nat) (a x : Int) (w : World) (h : MemR w v M) (hf : Fit M) (hz : RowR w (.slice (some ⟨b, 0, none⟩) 2 cap) [a, x]) :
    Calls Tryz.prog 39 #[v, .slice (some ⟨b, 0, none⟩) 2 cap] w fun e w' => e = .returned (.int .i64 (pokeC M a x)) ∧ Below w.heap.size w w' := by
  have e : pokeC M a x = faultM M [a, x] := by
    unfold pokeC faultM askM
    cases okM M
    · simp
    · cases ha : inB a 0 255
      · simp [ha]
      · cases hx : inB x 0 255 <;> simp [ha, hx]
  rw [e]
  exact fault_impl v M (some ⟨b, 0, none⟩) cap [a, x] w h hf hz (by simp)
theorem Brd.below {w w' : World} {lo hi B r s : Nat} {G Q : Nat → Nat} {M : Mem} (h : Brd w lo hi B r s G Q M) (hb : Below w.heap.size w w') : Brd w' lo hi B r s G Q M := by
  have hB := h.blk.lt
  have ho := h.ord
  exact ⟨h.lies.kept (fun b _ h1 => hb.block b (by omega)), h.blk.below hb hB, fun q hq => by
    obtain ⟨cap, hc⟩ := h.bank q hq
    exact ⟨cap, hc.below hb hc.lt⟩, ho⟩
end Go.Proofs.YtdfadiicjkenfabGreatDoor

/- What the specification answers whether an address is shared, and what paging makes of a memory. -/
namespace Go.Proofs.YtdfadiicjkenfabGreatDoor
open Go.ChangeShapes Go.WideShapes Go.ChangeAt Go.RowKit
set_option linter.unusedVariables false

/-- a memory behind paging -/
def pageM (M : Mem) (v : Int) : Mem := { M with page := (Nat.land v.toNat 3 : Nat), screen := 1 + 2 * (Nat.land (v.toNat / 8) 1 : Nat), locked := !(Nat.beq (Nat.land v.toNat 32) 0) }
def pageC (M : Mem) (v : Int) : Int := if askM M v = 0 then (if M.locked = true then 12 else 0) else askM M v
def pageR (M : Mem) (v : Int) : Mem := if askM M v = 0 then (if M.locked = true then M else pageM M v) else mem0
theorem land3 (k : Nat) : Nat.land k 3 ≤ 3 := Nat.and_le_right
theorem land1 (k : Nat) : Nat.land k 1 ≤ 1 := Nat.and_le_right
theorem page_ok {M : Mem} {v : Int} (h : okM M = true) : okM (pageM M v) = true := by
  obtain ⟨h1, h2, h3, h4, h5⟩ := ok_parts h
  have k3 := land3 v.toNat
  have k1 := land1 (v.toNat / 8)
  refine ok_all h1 h2 (in_yes ?_ ?_) ?_ (fun i hi => h5 i (by omega))
  · show (0 : Int) ≤ (Nat.land v.toNat 3 : Nat)
    omega
  · show ((Nat.land v.toNat 3 : Nat) : Int) ≤ 3
    omega
  · show 1 + 2 * ((Nat.land (v.toNat / 8) 1 : Nat) : Int) = 1 ∨ 1 + 2 * ((Nat.land (v.toNat / 8) 1 : Nat) : Int) = 3
    omega
end Go.Proofs.YtdfadiicjkenfabGreatDoor

/- What the program answers of a write and of paging. -/
namespace Go.Proofs.YtdfadiicjkenfabGreatDoor
open Go.ChangeShapes Go.WideShapes Go.ChangeAt Go.RowKit
set_option linter.unusedVariables false
set_option linter.unusedSimpArgs false

theorem three_new {w w1 : World} {A0 A1 : Array Value} {t t1 : TypeId} {o : Obj} (hb : Below (((w.alloc (.cells A0 t)).alloc (.cells A1 t1)).alloc o).heap.size (((w.alloc (.cells A0 t)).alloc (.cells A1 t1)).alloc o) w1) :
    Blk w1 w.heap.size A0 ∧ Blk w1 (w.heap.size + 1) A1 ∧ Below w.heap.size w w1 := by
  have hs : (((w.alloc (.cells A0 t)).alloc (.cells A1 t1)).alloc o).heap.size = w.heap.size + 1 + 1 + 1 := by simp
  have q1 := Blk.new (w.alloc (.cells A0 t)) A1 t1
  simp only [World.size_alloc] at q1
  refine ⟨(((Blk.new w A0 t).alloc _).alloc _).below hb (by omega), (q1.alloc _).below hb (by omega), ?_⟩
  exact ((((Below.refl _ _).alloc (Nat.le_refl _) _).alloc (by simp) _).alloc (by simp; omega) _).trans (hb.mono (by omega))
theorem pokeC_cases (M : Mem) (a v : Int) : (pokeC M a v = 0 ∧ okM M = true ∧ (0 ≤ a ∧ a ≤ 255) ∧ inB v 0 255 = true) ∨ (pokeC M a v ≠ 0 ∧ (pokeC M a v == 0) = false) := by
  unfold pokeC
  rcases ask_cases M a with ⟨hk, ho, h0, h1⟩ | ⟨hk, hk2⟩
  · rw [if_pos hk]
    cases hv : inB v 0 255
    · right; simp
    · left; exact ⟨by simp, ho, ⟨h0, h1⟩, rfl⟩
  · rw [if_neg hk]
    exact .inr ⟨hk, hk2⟩
set_option maxRecDepth 100000 in
theorem poke_impl (v : Value) (M : Mem) (a x : Int) (w : World) (h : MemR w v M) (hf : Fit M) :
    Calls Tryz.prog 16 #[v, .int .i64 a, .int .i64 x] w fun e w' => ∃ u, e = .returned (.tuple #[u, .int .i64 (pokeC M a x)]) ∧ MemO w' w.heap.size w'.heap.size u (pokeR M a x) ∧ Below w.heap.size w w' := by
  obtain ⟨a1, p1, a2, p2, rfl, _, _⟩ := h.form
  have hB : Hid (∀ o o' o'', Below w.heap.size w (((w.alloc o).alloc o').alloc o'')) := fun o o' o'' => (((Below.refl _ _).alloc (Nat.le_refl _) _).alloc (by simp) _).alloc (by simp; omega) _
  have hM : Hid (∀ W', Below w.heap.size w W' → MemR W' (memV (.slice a1 M.rom.length p1) (.slice a2 M.ram.length p2) M.page M.screen M.locked) M) := fun W' hb => h.below hb
  have hF : Hid (Fit M) := hf
  clear h hf
  rcases pokeC_cases M a x with ⟨hk, ho, ⟨h0, h1⟩, hv⟩ | ⟨hk, hk2⟩
  · have e : pokeR M a x = pokeM M a x := by unfold pokeR; rw [if_pos hk]
    rw [e, hk]
    have hk' := hid hk
    clear e hk
    go_enter Tryz.func16, Tryz.ntmps16
    go_wp2_with fail
    refine (fault2_impl _ M _ _ a x _ (hM.out _ (hB.out _ _ _)) hF.out (row_two3 _ _ _ _ _ _)).mono ?_
    rintro e w1 ⟨rfl, hb1⟩
    rw [hk'.out]
    obtain ⟨q0, q1, hB1⟩ := three_new hb1
    have x0 := q0.cell
    have hz1 := q1.lt
    replace q1 := hid q1
    replace hB1 := hid hB1
    clear hb1 q0
    go_wp2_with fail
    refine (board_impl _ M _ (hM.out _ hB1.out) ho hF.out).mono ?_
    rintro e w2 ⟨hi, B, r, s, G, Q, rfl, hBr, hb2⟩
    have q2 := hid (q1.out.below hb2 hz1)
    have hB2 := hid (new_trans hB1.out hb2)
    have hl1 := hb2.size
    replace hBr := hid hBr
    clear x0 hb2 hB1 q1
    go_wp2_with fail
    refine (write_impl _ _ _ _ _ _ _ _ M a x hBr.out ho h0 h1).mono ?_
    rintro e w3 ⟨rfl, hBr3, hb3⟩
    have q3 := q2.out.below hb3 hz1
    have hB3 := hid (hB2.out.trans (hb3.mono (by omega)))
    have hpok := poke_ok (a := a) ho hv
    have hlr : (pokeM M a x).rom.length = 64 := bytes_len (ok_parts hpok).1
    have hlm : (pokeM M a x).ram.length = 4 := (ok_parts hpok).2.1
    have hmem := hid (by have := hBr3.lies.memO; rw [hlr, hlm] at this; exact this)
    have hord := hBr3.ord.1
    have y := hBr3.blk.cell
    have f3 := q3.frozen
    have x3 := q3.cell
    have hw1 : w.heap.size + 1 < w1.heap.size := hz1
    have hBl := hBr3.blk.lt
    have hlo := hBr3.lies.br
    clear hBr hBr3 hb3 q2 q3 hB2 hlr hlm
    go_wp2
    refine bodyPost_ret (v := .tuple #[memV (.slice (some ⟨r, 0, none⟩) 64 64) (.slice (some ⟨s, 0, none⟩) 4 4) (pokeM M a x).page (pokeM M a x).screen (pokeM M a x).locked, .int .i64 0]) (by simp [results, Tryz.results16, go_sem, x3]) rfl ⟨_, rfl, ?_, ?_⟩
    · refine (hmem.out.kept (fun b hb1 hb2 => ?_)).mono (by omega) (by (iterate 5 rw [sizeSet]); omega)
      iterate 5 rw [Below.heap_setCell _ _ _ _ (by simp; omega)]
    · iterate 5 refine Below.setCell ?_ (by first | omega | (simp; done) | (simp; omega)) _
      exact hB3.out
  · have e : pokeR M a x = mem0 := by unfold pokeR; rw [if_neg hk]
    rw [e]
    clear e
    generalize hx : pokeC M a x = y at *
    replace hx := hid hx
    go_enter Tryz.func16, Tryz.ntmps16
    go_wp2_with fail
    refine (fault2_impl _ M _ _ a x _ (hM.out _ (hB.out _ _ _)) hF.out (row_two3 _ _ _ _ _ _)).mono ?_
    rintro e w1 ⟨rfl, hb1⟩
    rw [hx.out]
    obtain ⟨q0, q1, hB1⟩ := three_new hb1
    have x1 := q1.cell
    have f1 := q1.frozen
    replace hB1 := hid hB1
    clear hb1 q0 q1
    go_wp2
    refine bodyPost_ret (v := .tuple #[memV (.slice none 0 0) (.slice none 0 0) 0 0 false, .int .i64 y]) (by simp [results, Tryz.results16, go_sem, x1]) rfl ⟨_, rfl, MemO.zero _ _ _, ?_⟩
    iterate 5 refine Below.setCell ?_ (by first | omega | (simp; done) | (simp; omega)) _
    exact hB1.out
theorem memO_fields {W : World} {lo hi : Nat} {vr vm : Value} {pg sc : Int} {l : Bool} {M : Mem} (h : MemO W lo hi (memV vr vm M.page M.screen M.locked) M) : MemO W lo hi (memV vr vm pg sc l) { M with page := pg, screen := sc, locked := l } := by
  rcases h with ⟨e, e1, e2⟩ | ⟨vr', vm', r, s, G, e, h1, h2, r2⟩
  · injection e with e
    have e3 : vr = .slice none 0 0 := by
      have := congrArg (·[0]?) e
      simpa using this
    have e4 : vm = .slice none 0 0 := by
      have := congrArg (·[1]?) e
      simpa using this
    exact .inl ⟨by rw [e3, e4], e1, e2⟩
  · injection e with e
    have e3 : vr = vr' := by
      have := congrArg (·[0]?) e
      simpa using this
    have e4 : vm = vm' := by
      have := congrArg (·[1]?) e
      simpa using this
    subst e3 e4
    exact .inr ⟨_, _, r, s, G, rfl, h1, h2, r2⟩
end Go.Proofs.YtdfadiicjkenfabGreatDoor

/- What the specification answers whether two memories are alike. -/
namespace Go.Proofs.YtdfadiicjkenfabGreatDoor
open Go.ChangeShapes Go.WideShapes Go.ChangeAt Go.RowKit
set_option linter.unusedVariables false

/-- both are right, and alike -/
def sameM (A B : Mem) : Bool := okM A && okM B && decide (A.page = B.page) && decide (A.screen = B.screen) && (A.locked == B.locked) && decide (A.rom = B.rom) && decide (A.ram = B.ram)
theorem sameM_no {A B : Mem} (h : okM A = false ∨ okM B = false ∨ ¬ A.page = B.page ∨ ¬ A.screen = B.screen ∨ (A.locked == B.locked) = false ∨ ¬ A.rom = B.rom ∨ ¬ A.ram = B.ram) : sameM A B = false := by
  unfold sameM
  rcases h with h | h | h | h | h | h | h <;> simp [h]
theorem sameM_yes {A B : Mem} (h1 : okM A = true) (h2 : okM B = true) (h3 : A.page = B.page) (h4 : A.screen = B.screen) (h5 : (A.locked == B.locked) = true) (h6 : A.rom = B.rom) (h7 : A.ram = B.ram) : sameM A B = true := by
  unfold sameM
  rw [h1, h2, h5]
  simp [h3, h4, h6, h7]
theorem sameM_eq {A B : Mem} (h : sameM A B = true) : A = B ∧ okM A = true := by
  unfold sameM at h
  simp only [Bool.and_eq_true, decide_eq_true_eq, beq_iff_eq] at h
  obtain ⟨⟨⟨⟨⟨⟨h1, h2⟩, h3⟩, h4⟩, h5⟩, h6⟩, h7⟩ := h
  refine ⟨?_, h1⟩
  cases A
  cases B
  simp_all
end Go.Proofs.YtdfadiicjkenfabGreatDoor

/- Plain facts of a write: what is read behind it. -/
namespace Go.Proofs.YtdfadiicjkenfabGreatDoor
set_option linter.unusedVariables false

theorem poke_page (M : Mem) (k v : Int) : (pokeM M k v).page = M.page := by unfold pokeM; split <;> rfl
theorem peek_poke {M : Mem} (hok : okM M = true) {k v i : Int} (hk0 : 0 ≤ k) (hk1 : k ≤ 255) (hi0 : 0 ≤ i) (hi1 : i ≤ 255) :
    peekI (pokeM M k v) i = if bankI M.page i = bankI M.page k ∧ i % 64 = k % 64 ∧ 0 ≤ bankI M.page k then v else peekI M i := by
  obtain ⟨h1, h2, h3, h4, h5⟩ := ok_parts hok
  by_cases hk : k < 64
  · have e : bankI M.page k = -1 := by unfold bankI; rw [if_pos hk]
    have e2 : pokeM M k v = M := by unfold pokeM; rw [if_pos hk]
    rw [e2, if_neg (by rw [e]; omega)]
  · have hb := bank_bd h3 (a := k) (by omega)
    have e2 : pokeM M k v = { M with ram := M.ram.set (bankI M.page k).toNat ((M.ram.getD (bankI M.page k).toNat []).set (k % 64).toNat v) } := by unfold pokeM; rw [if_neg hk]
    have hlen := bytes_len (h5 (bankI M.page k).toNat (by omega))
    by_cases hi : i < 64
    · have e : bankI M.page i = -1 := by unfold bankI; rw [if_pos hi]
      rw [if_neg (by rw [e]; omega), e2]
      unfold peekI
      rw [if_pos hi, if_pos hi]
    · have hc := bank_bd h3 (a := i) (by omega)
      rw [e2]
      unfold peekI
      rw [if_neg hi, if_neg hi]
      show ((M.ram.set (bankI M.page k).toNat ((M.ram.getD (bankI M.page k).toNat []).set (k % 64).toNat v)).getD (bankI M.page i).toNat []).getD (i % 64).toNat 0 = _
      by_cases hbb : bankI M.page i = bankI M.page k
      · rw [hbb, List.getD_eq_getElem?_getD (l := M.ram.set _ _), List.getElem?_set_self (by omega), Option.getD_some]
        by_cases hq : i % 64 = k % 64
        · rw [if_pos ⟨rfl, hq, hb.1⟩, hq, List.getD_eq_getElem?_getD, List.getElem?_set_self (by omega), Option.getD_some]
        · rw [if_neg (fun h => hq h.2.1), List.getD_eq_getElem?_getD, List.getElem?_set_ne (by omega), ← List.getD_eq_getElem?_getD]
      · rw [if_neg (fun h => hbb h.1), List.getD_eq_getElem?_getD (l := M.ram.set _ _), List.getElem?_set_ne (by omega), ← List.getD_eq_getElem?_getD]
theorem ask_ok {M : Mem} (hok : okM M = true) {a : Int} (h0 : 0 ≤ a) (h1 : a ≤ 255) : askM M a = 0 := by unfold askM; rw [if_pos hok, if_pos (in_yes h0 h1)]
theorem same_self {M : Mem} (hok : okM M = true) : sameM M M = true := sameM_yes hok hok rfl rfl (by simp) rfl rfl
theorem ok_fit {M : Mem} (hok : okM M = true) : Fit M := by
  obtain ⟨h1, h2, h3, h4, h5⟩ := ok_parts hok
  exact ⟨by have := bytes_len h1; omega, by omega, fun i hi => by have := bytes_len (h5 i hi); omega⟩
end Go.Proofs.YtdfadiicjkenfabGreatDoor
