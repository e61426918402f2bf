/- A new sound chip, its registers chosen, written and read: the specification. -/
import Derived.Test.YtjdgfbaioafjcaaDoorYb
import Derived.Deep.MidRow
namespace Go.Proofs.YtjdgfbaioafjcaaDoor
open Go.ChangeShapes Go.WideShapes Go.ChangeAt Go.RowKit
set_option linter.unusedVariables false
set_option linter.unusedSimpArgs false

abbrev ansS (r : Sg × Int) : Value := .tuple #[sgV r.1, .int .i64 r.2]
abbrev neS : Sg := { zeS with r3 := 15, shift := 1 }
theorem byteS {k : Int} (h : inB k 0 255 = true) : ∃ n : Nat, k = n ∧ n < 256 := by
  simp [inB] at h
  exact ⟨k.toNat, by omega, by omega⟩
def sel2 (p : Sg) (v : Int) : Sg × Int := if okS p = true then (if inB v 0 255 = true then ({ p with sel := ((Nat.land v.toNat 7 : Nat) : Int) }, 0) else (zeS, 4)) else (zeS, 1)
/-- a register is written -/
def Sg.write (p : Sg) (v : Nat) : Sg := if p.sel.toNat = 7 then { p.put (Nat.land v (maskN p.sel.toNat) : Nat) p.sel.toNat with env := 0, ec := 0 } else p.put (Nat.land v (maskN p.sel.toNat) : Nat) p.sel.toNat
def write2 (p : Sg) (v : Int) : Sg × Int := if okS p = true then (if inB v 0 255 = true then (p.write v.toNat, 0) else (zeS, 4)) else (zeS, 1)
def readS2 (p : Sg) : Int × Int := if okS p = true then (p.reg p.sel.toNat, 0) else (0, 1)
/-- a chip in a block, and room for an answer behind it -/
structure P2s (w W : World) (A : Array Value) : Prop where
  q0 : Blk W w.heap.size A
  q1 : Blk W (w.heap.size + 1) (sgA zeS)
  bel : Below w.heap.size w W
theorem P2s.start (w : World) (c : Sg) (t t1 : TypeId) : P2s w ((w.alloc (.cells (sgA c) t)).alloc (.cells (sgA zeS) t1)) (sgA c) := by
  obtain ⟨q0, q1, hB⟩ := two_in (w := w) (sgA c) (sgA zeS) t t1
  exact ⟨q0, q1, hB⟩
theorem P2s.below {w W W' : World} {A : Array Value} (h : P2s w W A) (hb : Below W.heap.size W W') : P2s w W' A :=
  ⟨h.q0.below hb h.q0.lt, h.q1.below hb h.q1.lt, h.bel.trans (hb.mono h.bel.size)⟩
theorem P2s.drew {w W : World} {A : Array Value} (h : P2s w W A) : P2s w W.drew A := h.below ⟨rfl, rfl, rfl, Nat.le_refl _, fun _ _ => rfl⟩
theorem P2s.set {w W : World} {A : Array Value} (h : P2s w W A) (i : Nat) (u : Value) : P2s w (W.setCell ⟨w.heap.size, i, none⟩ u) (A.setIfInBounds i u) :=
  ⟨h.q0.set i u, h.q1.other (by simp) u, h.bel.setCell (p := ⟨w.heap.size, i, none⟩) (Nat.le_refl _) u⟩
theorem sgA_sel (p : Sg) (v : Int) : (sgA p).setIfInBounds 8 (.int .i64 v) = sgA { p with sel := v } := by
  simp only [List.setIfInBounds_toArray, List.set_cons_zero, List.set_cons_succ]
theorem sgA_env (p : Sg) : ((sgA p).setIfInBounds 15 (.int .i64 0)).setIfInBounds 16 (.int .i64 0) = sgA { p with env := 0, ec := 0 } := by
  simp only [List.setIfInBounds_toArray, List.set_cons_zero, List.set_cons_succ]
theorem okS_sel {p : Sg} (h : okS p = true) : ∃ s : Nat, p.sel = s ∧ s < 8 := by
  have := ((okS_iff p).1 h).2.1
  exact ⟨p.sel.toNat, by omega, by omega⟩
/-- a chip that lies in a block of its own: read and written whole -/
theorem sg_range {W : World} {b : Nat} {c : Sg} (h : Blk W b (sgA c)) : W.rangeAt b 0 (sgA c).toList := fun j v hv => by
  rw [Nat.zero_add, h.cell j, ← Array.getElem?_toList]
  exact hv
theorem sg_there {W : World} {b : Nat} {z : Sg} (h : Blk W b (sgA z)) (c : Sg) : W.there b 0 (sgA c).size := fun j hj => by
  rw [Nat.zero_add]
  refine ⟨?_, h.frozen j⟩
  rw [h.cell j]
  have : j < (sgA z).size := hj
  rw [Array.getElem?_eq_getElem this]
  rfl
def layB : Nat → List Value → Array Value → Array Value
  | _, [], A => A
  | i, u :: t, A => layB (i + 1) t (A.setIfInBounds i u)
theorem lay_blk (b : Nat) (l : List Value) : ∀ (W : World) (i : Nat) (A : Array Value), Blk W b A → Blk (W.setCells b i l) b (layB i l A) := by
  induction l with
  | nil => exact fun _ _ _ h => h
  | cons u t ih => exact fun W i A h => ih _ _ _ (h.set i u)
theorem lay_below {lo b : Nat} {w : World} (vs : List Value) : ∀ (o : Nat) (W : World), lo ≤ b → Below lo w W → Below lo w (W.setCells b o vs) := by
  induction vs with
  | nil => exact fun o W _ h => h
  | cons u t ih => exact fun o W hb h => ih _ _ hb (h.setCell (p := ⟨b, o, none⟩) hb u)
theorem sg_laid {W : World} {b : Nat} {z : Sg} (h : Blk W b (sgA z)) (c : Sg) : Blk (W.setCells b 0 (sgA c).toList) b (sgA c) := by
  have q := lay_blk b (sgA c).toList W 0 (sgA z) h
  have e : layB 0 (sgA c).toList (sgA z) = sgA c := by
    simp only [layB, List.setIfInBounds_toArray, List.set_cons_zero, List.set_cons_succ, Nat.zero_add, Nat.reduceAdd]
  rw [e] at q
  exact q
theorem sg_one (c : Sg) : (sgA c).all (·.oneCell') = true := by simp [Value.oneCell']
theorem sg_size (c : Sg) : (Tryd.prog.info? 27).map (·.size) = some (sgA c).size := by
  show (Tryd.prog.info? 27).map (·.size) = some 17
  kernel_rfl
set_option maxRecDepth 100000 in
theorem news_spec (w : World) : Calls Tryd.prog 21 #[] w fun e w' => e = .returned (sgV neS) ∧ Below w.heap.size w w' := by
  have hs := two_in (w := w) (sgA zeS) (sgA neS) 27 27
  obtain ⟨C, hC⟩ : ∃ C, neS = C := ⟨_, rfl⟩
  have hCV : Hid (sgV neS = sgV C) := by rw [hC]; rfl
  rw [hCV.out]
  go_enter Tryd.func21, Tryd.ntmps21
  go_upto_region 3 with fail
  obtain ⟨V, hV⟩ : ∃ V, (w.alloc (.cells (sgA zeS) 27)).alloc (.cells (sgA neS) 27) = V := ⟨_, rfl⟩
  rw [hV] at hs ⊢
  clear hV
  have hr := hid (sg_range hs.2.1)
  have hth := hid (sg_there hs.1 neS)
  have hB := hid hs.2.2
  obtain ⟨tt, ht⟩ := sg_laid hs.1 neS
  replace ht := hid ht
  clear hs
  rw [hC] at hr hth ht
  clear hC
  go_wp2_with (first | (refine wpList_load_mid rfl 27 _ rfl (w.heap.size + 1) 0 rfl (sgA C).toList _ hr.out Tryd.underlying27 rfl (sg_size C) ?_) | (refine wpList_store_mid rfl 27 _ _ rfl w.heap.size 0 (sgA C) rfl rfl hth.out (sg_size C) (sg_one C) ?_))
  exact bodyPost_ret (v := sgV C) (results_cell_row Tryd.results21 _ _ w.heap.size tt (sgA C) (0, 0) _ rfl ht.out Tryd.underlying27 rfl (sg_size C)) rfl ⟨rfl, lay_below _ _ _ (Nat.le_refl _) hB.out⟩
set_option maxRecDepth 100000 in
set_option maxHeartbeats 2000000 in
theorem sel_spec_bad (c : Sg) (v : Int) (w : World) (hc : okS c = false) : Calls Tryd.prog 25 #[sgV c, .int .i64 v] w fun e w' => e = .returned (ansS (sel2 c v)) ∧ Below w.heap.size w w' := by
  have hs := hid (P2s.start w c 27 27)
  have hok := hid (fun w1 => sok_spec c w1)
  have e : sel2 c v = (zeS, 1) := by unfold sel2; rw [hc]; rfl
  rw [e]
  rw [hc] at hok
  clear e
  have hrg0 := hid (sg_range hs.out.q0)
  go_enter Tryd.func25, Tryd.ntmps25
  go_upto_region 1 with fail
  obtain ⟨V, hV⟩ : ∃ V, (w.alloc (.cells (sgA c) 27)).alloc (.cells (sgA zeS) 27) = V := ⟨_, rfl⟩
  rw [hV] at hs hrg0 ⊢
  clear hV
  go_wp2_with (refine wpList_load_mid rfl 27 _ rfl w.heap.size 0 rfl (sgA c).toList _ hrg0.out Tryd.underlying27 rfl (sg_size c) ?_)
  refine (hok.out _).mono ?_
  rintro e w1 ⟨rfl, hb⟩
  have h1 := hid (hs.out.below hb)
  clear hb hs hrg0
  have hth := hid (sg_there h1.out.q1 zeS)
  obtain ⟨tt, ht⟩ := sg_laid h1.out.q1 zeS
  replace ht := hid ht
  have hB := hid h1.out.bel
  clear h1
  go_wp2_with (first | (refine wpList_store_mid rfl 27 _ _ rfl (w.heap.size + 1) 0 (sgA zeS) rfl rfl hth.out (sg_size zeS) (sg_one zeS) ?_))
  exact bodyPost_ret (v := ansS (zeS, 1)) (results_cell_tmp Tryd.results25 _ _ (w.heap.size + 1) tt (sgA zeS) (0, 0) _ _ rfl rfl ht.out Tryd.underlying27 rfl (sg_size zeS)) rfl ⟨rfl, lay_below _ _ _ (by omega) hB.out⟩
set_option maxRecDepth 100000 in
set_option maxHeartbeats 2000000 in
theorem sel_spec_rng (c : Sg) (v : Int) (w : World) (hc : okS c = true) (hr : inB v 0 255 = false) : Calls Tryd.prog 25 #[sgV c, .int .i64 v] w fun e w' => e = .returned (ansS (sel2 c v)) ∧ Below w.heap.size w w' := by
  have hs := hid (P2s.start w c 27 27)
  have hok := hid (fun w1 => sok_spec c w1)
  have e : sel2 c v = (zeS, 4) := by unfold sel2; rw [hc, hr]; rfl
  rw [e]
  rw [hc] at hok
  clear e
  have hrg0 := hid (sg_range hs.out.q0)
  go_enter Tryd.func25, Tryd.ntmps25
  go_upto_region 1 with fail
  obtain ⟨V, hV⟩ : ∃ V, (w.alloc (.cells (sgA c) 27)).alloc (.cells (sgA zeS) 27) = V := ⟨_, rfl⟩
  rw [hV] at hs hrg0 ⊢
  clear hV
  go_wp2_with (refine wpList_load_mid rfl 27 _ rfl w.heap.size 0 rfl (sgA c).toList _ hrg0.out Tryd.underlying27 rfl (sg_size c) ?_)
  refine (hok.out _).mono ?_
  rintro e w1 ⟨rfl, hb⟩
  have h1 := hid (hs.out.below hb)
  clear hb hs hrg0
  have hth := hid (sg_there h1.out.q1 zeS)
  obtain ⟨tt, ht⟩ := sg_laid h1.out.q1 zeS
  replace ht := hid ht
  have hB := hid h1.out.bel
  clear h1
  go_wp2_with (first | (refine wpList_store_mid rfl 27 _ _ rfl (w.heap.size + 1) 0 (sgA zeS) rfl rfl hth.out (sg_size zeS) (sg_one zeS) ?_) | (go_at_call 29; refine (byteM_spec _ _).mono ?_; rintro e w' ⟨rfl, hww⟩; obtain rfl := hww.symm; rw [hr]))
  exact bodyPost_ret (v := ansS (zeS, 4)) (results_cell_tmp Tryd.results25 _ _ (w.heap.size + 1) tt (sgA zeS) (0, 0) _ _ rfl rfl ht.out Tryd.underlying27 rfl (sg_size zeS)) rfl ⟨rfl, lay_below _ _ _ (by omega) hB.out⟩
set_option maxRecDepth 100000 in
set_option maxHeartbeats 2000000 in
theorem sel_spec_ok (c : Sg) (v : Int) (w : World) (hc : okS c = true) (hr : inB v 0 255 = true) : Calls Tryd.prog 25 #[sgV c, .int .i64 v] w fun e w' => e = .returned (ansS (sel2 c v)) ∧ Below w.heap.size w w' := by
  have hs := hid (P2s.start w c 27 27)
  have hok := hid (fun w1 => sok_spec c w1)
  rw [hc] at hok
  obtain ⟨n, rfl, hn⟩ := byteS hr
  have e : sel2 c (n : Int) = ({ c with sel := ((Nat.land n 7 : Nat) : Int) }, 0) := by unfold sel2; rw [hc, hr]; simp only [if_true, Int.toNat_natCast]
  rw [e]
  clear e
  have rA : bits .and .i64 (n : Int) 7 = (Nat.land n 7 : Nat) := bAnd n 7 (by omega) (by omega)
  generalize Nat.land n 7 = L at *
  have hrg0 := hid (sg_range hs.out.q0)
  go_enter Tryd.func25, Tryd.ntmps25
  go_upto_region 1 with fail
  obtain ⟨V, hV⟩ : ∃ V, (w.alloc (.cells (sgA c) 27)).alloc (.cells (sgA zeS) 27) = V := ⟨_, rfl⟩
  rw [hV] at hs hrg0 ⊢
  clear hV
  go_wp2_with (refine wpList_load_mid rfl 27 _ rfl w.heap.size 0 rfl (sgA c).toList _ hrg0.out Tryd.underlying27 rfl (sg_size c) ?_)
  refine (hok.out _).mono ?_
  rintro e w1 ⟨rfl, hb⟩
  have h1 := hid (hs.out.below hb)
  clear hb hs hrg0
  have h2 := hid (h1.out.set 8 (.int .i64 (L : Int)))
  rw [sgA_sel] at h2
  have y0 := h1.out.q0.cell
  have g0 := h1.out.q0.frozen
  have l0 := h1.out.q0.lt
  clear h1
  go_upto_region 6 with (go_at_call 29; refine (byteM_spec _ _).mono ?_; rintro e w' ⟨rfl, hww⟩; obtain rfl := hww.symm; rw [hr])
  obtain ⟨W2, hW2⟩ : ∃ W, w1.setCell ⟨w.heap.size, 8, none⟩ (.int .i64 (L : Int)) = W := ⟨_, rfl⟩
  rw [hW2] at h2 ⊢
  clear hW2 y0 g0 l0
  obtain ⟨C, hC⟩ : ∃ C : Sg, { c with sel := (L : Int) } = C := ⟨_, rfl⟩
  rw [hC] at h2
  replace hC := hid hC
  have hrg := hid (sg_range h2.out.q0)
  have hth := hid (sg_there h2.out.q1 C)
  obtain ⟨tt, ht⟩ := sg_laid h2.out.q1 C
  replace ht := hid ht
  have hB := hid h2.out.bel
  clear h2
  go_wp2_with (first | (refine wpList_store_mid rfl 27 _ _ rfl (w.heap.size + 1) 0 (sgA C) rfl rfl hth.out (sg_size C) (sg_one C) ?_) | (refine wpList_load_mid rfl 27 _ rfl w.heap.size 0 rfl (sgA C).toList _ hrg.out Tryd.underlying27 rfl (sg_size C) ?_))
  exact bodyPost_ret (v := ansS (C, 0)) (results_cell_tmp Tryd.results25 _ _ (w.heap.size + 1) tt (sgA C) (0, 0) _ _ rfl rfl ht.out Tryd.underlying27 rfl (sg_size C)) rfl ⟨by rw [hC.out], lay_below _ _ _ (by omega) hB.out⟩
theorem sel_spec (c : Sg) (v : Int) (w : World) : Calls Tryd.prog 25 #[sgV c, .int .i64 v] w fun e w' => e = .returned (ansS (sel2 c v)) ∧ Below w.heap.size w w' := by
  cases hc : okS c
  · exact sel_spec_bad c v w hc
  · cases hr : inB v 0 255
    · exact sel_spec_rng c v w hc hr
    · exact sel_spec_ok c v w hc hr
end Go.Proofs.YtjdgfbaioafjcaaDoor
