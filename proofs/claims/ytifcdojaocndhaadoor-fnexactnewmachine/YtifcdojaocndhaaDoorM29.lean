/- Machines in the laws: measured, copied, compared. -/
import Derived.Test.YtifcdojaocndhaaDoorWeam
import Derived.Test.YtifcdojaocndhaaDoorM03
import Derived.Test.YtifcdojaocndhaaDoorMem
import Derived.Test.YtifcdojaocndhaaDoorDlm
import Derived.Test.YtifcdojaocndhaaDoorYam
import Derived.Test.YtifcdojaocndhaaDoorM04
namespace Go.Proofs.YtifcdojaocndhaaDoor
open Go.ChangeShapes Go.WideShapes Go.ChangeAt Go.RowKit
set_option linter.unusedVariables false
set_option linter.unusedSimpArgs false

abbrev nlV : Value := .slice none 0 0
def mc0 : Mc := ⟨⟨0, 0, 0, 0, 0, 0, 0, 0, 0, 0, 0, false, false, false⟩, ⟨[], [], 0, 0, false⟩, zeP, zeS, dk0, 0, 0, 0, ⟨#[]⟩, []⟩
abbrev mcZ : Array Value := #[.int .i64 0, .int .i64 0, .int .i64 0, .int .i64 0, .int .i64 0, .int .i64 0, .int .i64 0, .int .i64 0, .int .i64 0, .int .i64 0, .int .i64 0, .bool false, .bool false, .bool false, .slice none 0 0, .slice none 0 0, .int .i64 0, .int .i64 0, .bool false,
  .int .i64 0, .int .i64 0, .int .i64 0, .int .i64 0, .int .i64 0, .int .i64 0, .int .i64 0, .int .i64 0, .int .i64 0, .int .i64 0, .bool false, .bool false,
  .int .i64 0, .int .i64 0, .int .i64 0, .int .i64 0, .int .i64 0, .int .i64 0, .int .i64 0, .int .i64 0, .int .i64 0, .int .i64 0, .int .i64 0, .bool false, .bool false, .int .i64 0, .int .i64 0, .int .i64 0, .int .i64 0,
  .slice none 0 0, .int .i64 0, .int .i64 0, .bool false, .bool false, .int .i64 0, .int .i64 0, .int .i64 0, .string ⟨#[]⟩, .slice none 0 0]
theorem mcZ_eq : mcZ = mcA mc0 nlV nlV nlV nlV := rfl
section
variable (y : Mc) (vr vm vd ve : Value)
theorem mlay_c (c : Cu) : layB 0 (cuA c).toList (mcA y vr vm vd ve) = mcA { y with c := c } vr vm vd ve := by unfold mcA; simp only [layB, List.setIfInBounds_toArray, List.set_cons_zero, List.set_cons_succ, Nat.zero_add, Nat.reduceAdd]
theorem mlay_m (ur um : Value) (M : Mem) : layB 14 (mcC ur um M) (mcA y vr vm vd ve) = mcA { y with m := M } ur um vd ve := by unfold mcA; simp only [layB, List.setIfInBounds_toArray, List.set_cons_zero, List.set_cons_succ, Nat.zero_add, Nat.reduceAdd]
theorem mlay_p (p : Po) : layB 19 (poA p).toList (mcA y vr vm vd ve) = mcA { y with p := p } vr vm vd ve := by unfold mcA; simp only [layB, List.setIfInBounds_toArray, List.set_cons_zero, List.set_cons_succ, Nat.zero_add, Nat.reduceAdd]
theorem mlay_g (g : Sg) : layB 31 (sgA g).toList (mcA y vr vm vd ve) = mcA { y with g := g } vr vm vd ve := by unfold mcA; simp only [layB, List.setIfInBounds_toArray, List.set_cons_zero, List.set_cons_succ, Nat.zero_add, Nat.reduceAdd]
theorem mlay_d (ud : Value) (d : Dk) : layB 48 (dkL ud d) (mcA y vr vm vd ve) = mcA { y with d := d } vr vm ud ve := by unfold mcA; simp only [layB, List.setIfInBounds_toArray, List.set_cons_zero, List.set_cons_succ, Nat.zero_add, Nat.reduceAdd]
theorem mlay_x (x : Mc) (ur um ud ue : Value) : layB 0 (mcA x ur um ud ue).toList (mcA y vr vm vd ve) = mcA x ur um ud ue := by unfold mcA; simp only [layB, List.setIfInBounds_toArray, List.set_cons_zero, List.set_cons_succ, Nat.zero_add, Nat.reduceAdd]
theorem mset_t (t : Int) : (mcA y vr vm vd ve).setIfInBounds 53 (.int .i64 t) = mcA { y with t := t } vr vm vd ve := rfl
theorem mset_f (t : Int) : (mcA y vr vm vd ve).setIfInBounds 54 (.int .i64 t) = mcA { y with fr := t } vr vm vd ve := rfl
theorem mset_pt (t : Int) : (mcA y vr vm vd ve).setIfInBounds 55 (.int .i64 t) = mcA { y with pt := t } vr vm vd ve := rfl
theorem mset_s (s : ByteArray) : (mcA y vr vm vd ve).setIfInBounds 56 (.string s) = mcA { y with sv := s } vr vm vd ve := rfl
theorem mset_e (ue : Value) (l : List Evt) : (mcA y vr vm vd ve).setIfInBounds 57 ue = mcA { y with ev := l } vr vm vd ue := rfl
end
/-- a machine that can be read, its lists short -/
def MacB (w : World) (v : Value) (x : Mc) : Prop := ∃ vr vm vd ve, v = mcV x vr vm vd ve ∧ MemR w (memV vr vm x.m.page x.m.screen x.m.locked) x.m ∧ RowR w vd x.d.pulses ∧ EvR w ve x.ev
theorem MacB.below {w w' : World} {v : Value} {x : Mc} (h : MacB w v x) (hb : Below w.heap.size w w') : MacB w' v x := by
  obtain ⟨vr, vm, vd, ve, e, h1, h2, h3⟩ := h
  exact ⟨vr, vm, vd, ve, e, h1.below hb, h2.below hb, h3.below hb⟩
theorem MacB.macR {w : World} {v : Value} {x : Mc} (h : MacB w v x) : MacR (fun _ => false) w v x := by
  obtain ⟨vr, vm, vd, ve, e, h1, h2, h3⟩ := h
  exact ⟨vr, vm, vd, ve, e, h1, h2.mono (fun b i u hu => by rw [veil_cell]; exact hu), h3.mono (fun b i u hu => by rw [veil_cell]; exact hu)⟩
/-- short enough for the laws' helpers -/
structure SmallMc (x : Mc) : Prop where
  m : Small x.m
  d : x.d.pulses.length ≤ 1048576
  e : x.ev.length ≤ 1048576
structure BigMc (x : Mc) : Prop where
  m : Big x.m
  d : x.d.pulses.length ≤ maxLen
  e : x.ev.length ≤ maxLen
  s : x.sv.size ≤ maxLen
theorem szLMm (vr vm : Value) (M : Mem) : (Tryd.prog.info? 52).map (·.size) = some (mcC vr vm M).length := by
  show _ = some 5
  kernel_rfl
theorem szLCm (c : Cu) : (Tryd.prog.info? 51).map (·.size) = some (cuA c).toList.length := by
  show _ = some 14
  kernel_rfl
theorem szLPm (p : Po) : (Tryd.prog.info? 53).map (·.size) = some (poA p).toList.length := by
  show _ = some 12
  kernel_rfl
theorem szLSm (g : Sg) : (Tryd.prog.info? 54).map (·.size) = some (sgA g).toList.length := by
  show _ = some 17
  kernel_rfl
theorem szLDm (vd : Value) (d : Dk) : (Tryd.prog.info? 55).map (·.size) = some (dkL vd d).length := by
  show _ = some 5
  kernel_rfl
theorem szLMc (x : Mc) (vr vm vd ve : Value) : (Tryd.prog.info? 58).map (·.size) = some (mcA x vr vm vd ve).toList.length := by
  show _ = some 58
  kernel_rfl
set_option maxRecDepth 100000 in
set_option maxHeartbeats 2000000 in
theorem szmc (x : Mc) (v : Value) (left : Int) (w : World) (h : MacB w v x) (hs : BigMc x) (h0 : 0 ≤ left) (h1 : left ≤ 1048576) :
    Calls Tryd.prog 16 #[v, .int .i64 left] w fun e w' => ∃ R : Int, e = .returned (.int .i64 R) ∧ (R < 0 ∨ (0 ≤ R ∧ (x.m.rom.length : Int) + (x.m.ram.length : Int) + (pre x.m.ram x.m.ram.length : Nat) + (x.d.pulses.length : Int) + (x.sv.size : Int) + (x.ev.length : Int) + R = left)) ∧ Below w.heap.size w w' := by
  obtain ⟨vr, vm, vd, ve, rfl, hm, hd, he⟩ := h
  have hL := hid (MLk.start hm hd he 58)
  obtain ⟨a1, c1, rfl, _⟩ := id hd
  replace hs := hid hs
  clear hm hd he
  go_enter Tryd.func16, Tryd.ntmps16
  go_upto_region 1 with fail
  obtain ⟨V, hV⟩ : ∃ V, w.alloc (Obj.cells (mcA x vr vm (.slice a1 x.d.pulses.length c1) ve) 58) = V := ⟨_, rfl⟩
  rw [hV] at hL ⊢
  clear hV
  have x1 := hid (mc_mem hL.out.q)
  go_wp2_with (refine wpList_load_mid rfl 52 _ rfl w.heap.size 14 rfl (mcC vr vm x.m) _ x1.out Tryd.underlying52 rfl (szLMm _ _ _) ?_)
  refine (szm _ x.m left _ hL.out.m hs.out.m h0 (by omega)).mono ?_
  rintro e w1 ⟨R, rfl, hR, hb⟩
  have hL := hid (hL.out.below hb)
  clear hb x1
  have hR2 := hid hR
  rcases hR with hR | ⟨hR, hR1⟩
  · go_wp2
    go_ret
    exact ⟨-1, rfl, .inl (by omega), hL.out.bel⟩
  have hRl : R ≤ 1048576 := by omega
  have hn : ¬ R < 0 := by omega
  replace hR1 := hid hR1
  have x1 := hid (mc_dk hL.out.q)
  go_wp2_with (refine wpList_load_mid rfl 55 _ rfl w.heap.size 48 rfl (dkL (.slice a1 x.d.pulses.length c1) x.d) _ x1.out Tryd.underlying55 rfl (szLDm _ _) ?_)
  refine (szd a1 c1 x.d R _ hs.out.d hR hRl).mono ?_
  rintro e w2 ⟨R2, rfl, hR3, hb⟩
  have hL := hid (hL.out.below hb)
  clear hb x1 hn
  rcases hR3 with hR3 | ⟨hR3, hR4⟩
  · go_wp2
    go_ret
    exact ⟨-1, rfl, .inl (by omega), hL.out.bel⟩
  have hR2l : R2 ≤ 1048576 := by omega
  have hn : ¬ R2 < 0 := by omega
  replace hR4 := hid hR4
  have x1 : _ = some (Value.string x.sv) := hL.out.q.cell 56
  have x2 : _ = some ve := hL.out.q.cell 57
  obtain ⟨q, hq⟩ : ∃ q : Int, R2 - (x.sv.size : Int) = q := ⟨_, rfl⟩
  by_cases hqn : q < 0
  · have hqb : -9223372036854775808 ≤ q := by have := hs.out.s; unfold maxLen at this; omega
    go_wp2
    go_ret
    exact ⟨-1, rfl, .inl (by omega), hL.out.bel⟩
  have hq2 := hid hq
  have hqb : q ≤ 1048576 := by omega
  go_wp2_with fail
  refine (szevs ve x.ev q _ hL.out.e hs.out.e (by omega) hqb).mono ?_
  rintro e w3 ⟨R3, rfl, hR5, hb⟩
  have hL := hid (hL.out.below hb)
  clear hb x1 x2 hq
  rcases hR5 with hR5 | ⟨hR5, hR6⟩
  · go_wp2
    go_ret
    exact ⟨-1, rfl, .inl (by omega), hL.out.bel⟩
  have hn3 : ¬ R3 < 0 := by omega
  replace hR6 := hid hR6
  go_wp2
  go_ret
  exact ⟨R3, rfl, .inr ⟨by omega, by have := hR1.out; have := hR4.out; have := hR6.out; have := hq2.out; omega⟩, hL.out.bel⟩
end Go.Proofs.YtifcdojaocndhaaDoor

/- Machines in the laws: copied, compared. -/
namespace Go.Proofs.YtifcdojaocndhaaDoor
open Go.ChangeShapes Go.WideShapes Go.ChangeAt Go.RowKit
set_option linter.unusedVariables false
set_option linter.unusedSimpArgs false

theorem StD.mem {w W W' : World} {L : List Thing} {v : Value} {M : Mem} (h : StD w W L) (hb : Below W.heap.size W W') (hm : MemO W' W.heap.size W'.heap.size v M) : StD w W' (tMem W.heap.size W'.heap.size v M :: L) :=
  ⟨h.sts.mem hb hm, new_trans h.bel hb, fun s hs b hd => by
    rcases List.mem_cons.1 hs with rfl | hs
    · exact Nat.le_trans h.bel.size hd.1
    · exact h.far s hs b hd⟩
/-- a row of three numbers each -/
abbrev tEv (g : Nat) (l : List Evt) : Thing := ⟨fun b => b = g, fun W => EvO W g l⟩
theorem EvO.same {W W' : World} {g : Nat} {l : List Evt} (h : EvO W g l) (e : W'.heap[g]? = W.heap[g]?) : EvO W' g l := by
  have c : ∀ i, W'.cell? ⟨g, i, none⟩ = W.cell? ⟨g, i, none⟩ := fun i => World.cell?_of_block (w := W) (a := ⟨g, i, none⟩) e
  refine ⟨fun k hk => ?_, fun i => ?_, ?_⟩
  · rw [c, c, c]; exact h.cell k hk
  · have := h.fro i
    simp only [World.frozen?] at this ⊢
    rw [e]
    exact this
  · have h1 := h.lt
    rw [Array.getElem?_eq_getElem h1] at e
    exact (Array.getElem?_eq_some_iff.1 e).1
theorem sits_ev {W : World} {g : Nat} {l : List Evt} (h : EvO W g l) : Sits W (tEv g l) := ⟨h, fun b e => by cases e; exact h.lt, fun W' hk => h.same (hk g rfl)⟩
theorem StD.evs {w W W' : World} {L : List Thing} {l : List Evt} (h : StD w W L) (hb : Below W.heap.size W W') (hr : EvO W' W.heap.size l) : StD w W' (tEv W.heap.size l :: L) :=
  ⟨h.sts.push hb (sits_ev hr) (fun b e => by cases e; exact Nat.le_refl _), new_trans h.bel hb, fun s hs b hd => by
    rcases List.mem_cons.1 hs with rfl | hs
    · have : b = W.heap.size := hd
      rw [this]; exact h.bel.size
    · exact h.far s hs b hd⟩
theorem lay_os (b : Nat) (l : List Value) : ∀ (i : Nat) (W : World), (W.setCells b i l).os = W.os ∧ (W.setCells b i l).tape = W.tape ∧ (W.setCells b i l).output = W.output := by
  induction l with
  | nil => exact fun _ _ => ⟨rfl, rfl, rfl⟩
  | cons u t ih => exact fun i W => ⟨(ih _ _).1, (ih _ _).2.1, (ih _ _).2.2⟩
/-- a part of a box is set -/
theorem StD.lay {w W : World} {L : List Thing} (h : StD w W L) (i : Nat) {b : Nat} {A A' : Array Value} (e : L[i]? = some (tBox b A)) (o : Nat) (cs : List Value) (hA : layB o cs A = A') : StD w (W.setCells b o cs) (L.set i (tBox b A')) := by
  have hq := h.at i e
  refine h.turn i e (by rw [lay_size]; exact Nat.le_refl _) (lay_os b cs o W) (fun g hg hn => lay_heap b cs o W hn) (sits_box ?_)
  rw [← hA]
  exact lay_blk b cs W o A hq
theorem StD.cell1 {w W : World} {L : List Thing} (h : StD w W L) (i : Nat) {b : Nat} {A A' : Array Value} (e : L[i]? = some (tBox b A)) (o : Nat) (u : Value) (hA : A.setIfInBounds o u = A') : StD w (W.setCell ⟨b, o, none⟩ u) (L.set i (tBox b A')) := h.lay i e o [u] hA
theorem MacB.size1 {w : World} {v : Value} {x : Mc} (h : MacB w v x) : True := trivial
theorem szCu2 (c : Cu) : (Tryd.prog.info? 26).map (·.size) = some (cuA c).size := by
  show _ = some 14
  kernel_rfl
theorem szMe2 (vr vm : Value) (M : Mem) : (Tryd.prog.info? 30).map (·.size) = some (mcC vr vm M).toArray.size := by
  show _ = some 5
  kernel_rfl
theorem szPo2 (p : Po) : (Tryd.prog.info? 32).map (·.size) = some (poA p).size := by
  show _ = some 12
  kernel_rfl
theorem szDk2 (vd : Value) (d : Dk) : (Tryd.prog.info? 38).map (·.size) = some (dkL vd d).toArray.size := by
  show _ = some 5
  kernel_rfl
theorem cu_oneM (c : Cu) : (cuA c).all (·.oneCell') = true := by simp [Value.oneCell']
theorem po_oneM (p : Po) : (poA p).all (·.oneCell') = true := by simp [Value.oneCell']
set_option maxRecDepth 100000 in
set_option maxHeartbeats 4000000 in
theorem tomc (x : Mc) (v : Value) (w : World) (h : MacB w v x) (hs : SmallMc x) : Calls Tryd.prog 19 #[v] w fun e w' => ∃ ur um ud g m1 m2 L, e = .returned (mcV x ur um ud (.slice (some ⟨g, 0, none⟩) x.ev.length x.ev.length)) ∧ StD w w' (tEv g x.ev :: tRow ud x.d.pulses :: tMem m1 m2 (memV ur um x.m.page x.m.screen x.m.locked) x.m :: L) := by
  obtain ⟨vr, vm, vd, ve, rfl, hm, hd, he⟩ := h
  obtain ⟨a1, c1, rfl, _⟩ := id hd
  have S := ((((StD.nil w).box (mcA x vr vm (.slice a1 x.d.pulses.length c1) ve) 58).box mcZ 41)).box mcZ 41
  simp only [World.size_alloc] at S
  rw [mcZ_eq] at S
  have hM : Hid (∀ W, Below w.heap.size w W → _) := fun W (hb : Below w.heap.size w W) => tom (memV vr vm x.m.page x.m.screen x.m.locked) x.m W (hm.below hb) hs.m
  have hD : Hid (∀ W, Below w.heap.size w W → _) := fun W (hb : Below w.heap.size w W) => tod a1 c1 x.d W (hd.below hb) hs.d
  have hE : Hid (∀ W, Below w.heap.size w W → _) := fun W (hb : Below w.heap.size w W) => toevs ve x.ev W (he.below hb) hs.e
  replace S := hid S
  clear hm hd he hs
  go_enter Tryd.func19, Tryd.ntmps19
  go_upto_region 2 with fail
  obtain ⟨V, hV⟩ : ∃ V, ((w.alloc (.cells (mcA x vr vm (.slice a1 x.d.pulses.length c1) ve) 58)).alloc (.cells mcZ 41)).alloc (.cells mcZ 41) = V := ⟨_, rfl⟩
  rw [← mcZ_eq] at S
  rw [hV] at S ⊢
  rw [mcZ_eq] at S
  clear hV
  have x1 := hid (mc_cpu (S.out.at 2 rfl))
  go_wp2_with (refine wpList_load_mid rfl 51 _ rfl w.heap.size 0 rfl (cuA x.c).toList _ x1.out Tryd.underlying51 rfl (szLCm x.c) ?_)
  refine (toc x.c _).mono ?_
  rintro e w1 ⟨rfl, hb⟩
  have S1 := hid (S.out.below hb)
  clear hb S
  have hth := hid (mc_there (S1.out.at 0 rfl) (o := 0) (n := (cuA x.c).size) (by show 0 + 14 ≤ 58; omega))
  have S := hid (S1.out.lay 0 rfl 0 (cuA x.c).toList (mlay_c _ _ _ _ _ _))
  obtain ⟨W1, hWW⟩ : ∃ W', w1.setCells (w.heap.size + 1 + 1) 0 (cuA x.c).toList = W' := ⟨_, rfl⟩
  rw [hWW] at S
  replace hWW := hid hWW
  skip
  clear x1
  clear S1
  have x1 := hid (mc_mem (S.out.at 2 rfl))
  go_wp2_with (first | (guard_target = wpList _ _ _ (Oper.mk _ (Op.store _ _ _) _ _ _ _ :: _) _ _; refine wpList_store_mid rfl 26 _ _ rfl (w.heap.size + 1 + 1) 0 (cuA x.c) rfl rfl hth.out (szCu2 x.c) (cu_oneM x.c) ?_; rw [hWW.out]) | (refine wpList_load_mid rfl 52 _ rfl w.heap.size 14 rfl (mcC vr vm x.m) _ x1.out Tryd.underlying52 rfl (szLMm _ _ _) ?_))
  refine (hM.out _ S.out.bel).mono ?_
  rintro e w2 ⟨u, rfl, hO, hb⟩
  obtain ⟨ur, um, rfl, o1, o2⟩ := mem_one hO.reads
  have S1 := hid (S.out.mem hb hO)
  clear hb S hO hth hWW hM
  have hth := hid (mc_there (S1.out.at 1 rfl) (o := 14) (n := ((mcC ur um x.m).toArray).size) (by show 14 + 5 ≤ 58; omega))
  have S := hid (S1.out.lay 1 rfl 14 ((mcC ur um x.m).toArray).toList (mlay_m _ _ _ _ _ _ _ _))
  obtain ⟨W2, hWW⟩ : ∃ W', w2.setCells (w.heap.size + 1 + 1) 14 ((mcC ur um x.m).toArray).toList = W' := ⟨_, rfl⟩
  rw [hWW] at S
  replace hWW := hid hWW
  have hmo : ((mcC ur um x.m).toArray).all (·.oneCell') = true := by simp [Value.oneCell']; exact ⟨o1, o2⟩
  clear x1
  clear S1
  have x1 := hid (mc_po (S.out.at 3 rfl))
  go_wp2_with (first | (guard_target = wpList _ _ _ (Oper.mk _ (Op.store _ _ _) _ _ _ _ :: _) _ _; refine wpList_store_mid rfl 30 _ _ rfl (w.heap.size + 1 + 1) 14 ((mcC ur um x.m).toArray) rfl rfl hth.out (szMe2 _ _ _) hmo ?_; rw [hWW.out]) | (refine wpList_load_mid rfl 53 _ rfl w.heap.size 19 rfl (poA x.p).toList _ x1.out Tryd.underlying53 rfl (szLPm x.p) ?_))
  refine (topo x.p _).mono ?_
  rintro e w3 ⟨rfl, hb⟩
  have S1 := hid (S.out.below hb)
  clear hb S hth hWW
  have hth := hid (mc_there (S1.out.at 1 rfl) (o := 19) (n := (poA x.p).size) (by show 19 + 12 ≤ 58; omega))
  have S := hid (S1.out.lay 1 rfl 19 (poA x.p).toList (mlay_p _ _ _ _ _ _))
  obtain ⟨W3, hWW⟩ : ∃ W', w3.setCells (w.heap.size + 1 + 1) 19 (poA x.p).toList = W' := ⟨_, rfl⟩
  rw [hWW] at S
  replace hWW := hid hWW
  skip
  clear x1
  clear S1
  have x1 := hid (mc_sg (S.out.at 3 rfl))
  go_wp2_with (first | (guard_target = wpList _ _ _ (Oper.mk _ (Op.store _ _ _) _ _ _ _ :: _) _ _; refine wpList_store_mid rfl 32 _ _ rfl (w.heap.size + 1 + 1) 19 (poA x.p) rfl rfl hth.out (szPo2 x.p) (po_oneM x.p) ?_; rw [hWW.out]) | (refine wpList_load_mid rfl 54 _ rfl w.heap.size 31 rfl (sgA x.g).toList _ x1.out Tryd.underlying54 rfl (szLSm x.g) ?_))
  refine (tosg x.g _).mono ?_
  rintro e w4 ⟨rfl, hb⟩
  have S1 := hid (S.out.below hb)
  clear hb S hth hWW
  have hth := hid (mc_there (S1.out.at 1 rfl) (o := 31) (n := (sgA x.g).size) (by show 31 + 17 ≤ 58; omega))
  have S := hid (S1.out.lay 1 rfl 31 (sgA x.g).toList (mlay_g _ _ _ _ _ _))
  obtain ⟨W4, hWW⟩ : ∃ W', w4.setCells (w.heap.size + 1 + 1) 31 (sgA x.g).toList = W' := ⟨_, rfl⟩
  rw [hWW] at S
  replace hWW := hid hWW
  skip
  clear x1
  clear S1
  have x1 := hid (mc_dk (S.out.at 3 rfl))
  go_wp2_with (first | (guard_target = wpList _ _ _ (Oper.mk _ (Op.store _ _ _) _ _ _ _ :: _) _ _; refine wpList_store_mid rfl 36 _ _ rfl (w.heap.size + 1 + 1) 31 (sgA x.g) rfl rfl hth.out (sg_size x.g) (sg_one x.g) ?_; rw [hWW.out]) | (refine wpList_load_mid rfl 55 _ rfl w.heap.size 48 rfl (dkL (.slice a1 x.d.pulses.length c1) x.d) _ x1.out Tryd.underlying55 rfl (szLDm _ _) ?_))
  refine (hD.out _ S.out.bel).mono ?_
  rintro e w5 ⟨ud, rfl, hO, hb⟩
  have S1 := hid (S.out.row hb hO)
  obtain ⟨ad, cd, rfl⟩ := hO.form
  clear hb S hO hth hWW hD
  have hth := hid (mc_there (S1.out.at 2 rfl) (o := 48) (n := ((dkL (.slice ad x.d.pulses.length cd) x.d).toArray).size) (by show 48 + 5 ≤ 58; omega))
  have S := hid (S1.out.lay 2 rfl 48 ((dkL (.slice ad x.d.pulses.length cd) x.d).toArray).toList (mlay_d _ _ _ _ _ _ _))
  obtain ⟨W5, hWW⟩ : ∃ W', w5.setCells (w.heap.size + 1 + 1) 48 ((dkL (.slice ad x.d.pulses.length cd) x.d).toArray).toList = W' := ⟨_, rfl⟩
  rw [hWW] at S
  replace hWW := hid hWW
  have hdo : ((dkL (.slice ad x.d.pulses.length cd) x.d).toArray).all (·.oneCell') = true := by simp [Value.oneCell']
  clear x1
  clear S1
  go_upto_region 7 with (guard_target = wpList _ _ _ (Oper.mk _ (Op.store _ _ _) _ _ _ _ :: _) _ _; refine wpList_store_mid rfl 38 _ _ rfl (w.heap.size + 1 + 1) 48 ((dkL (.slice ad x.d.pulses.length cd) x.d).toArray) rfl rfl hth.out (szDk2 _ _) hdo ?_; rw [hWW.out])
  clear hth hWW
  have e1 := (S.out.at 4 rfl).cell 53
  have e2 := (S.out.at 4 rfl).cell 54
  have e3 := (S.out.at 4 rfl).cell 55
  have e4 := (S.out.at 4 rfl).cell 56
  have e5 := (S.out.at 4 rfl).cell 57
  replace e1 : W5.cell? ⟨w.heap.size, 53, none⟩ = some (.int .i64 x.t) := e1
  replace e2 : W5.cell? ⟨w.heap.size, 54, none⟩ = some (.int .i64 x.fr) := e2
  replace e3 : W5.cell? ⟨w.heap.size, 55, none⟩ = some (.int .i64 x.pt) := e3
  replace e4 : W5.cell? ⟨w.heap.size, 56, none⟩ = some (.string x.sv) := e4
  replace e5 : W5.cell? ⟨w.heap.size, 57, none⟩ = some ve := e5
  have d1 : W5.cell? ⟨w.heap.size + 1 + 1, 53, none⟩ = some (.int .i64 0) := (S.out.at 2 rfl).cell 53
  have d2 : W5.cell? ⟨w.heap.size + 1 + 1, 54, none⟩ = some (.int .i64 0) := (S.out.at 2 rfl).cell 54
  have d3 : W5.cell? ⟨w.heap.size + 1 + 1, 55, none⟩ = some (.int .i64 0) := (S.out.at 2 rfl).cell 55
  have d4 : W5.cell? ⟨w.heap.size + 1 + 1, 56, none⟩ = some (.string ⟨#[]⟩) := (S.out.at 2 rfl).cell 56
  have d5 : W5.cell? ⟨w.heap.size + 1 + 1, 57, none⟩ = some nlV := (S.out.at 2 rfl).cell 57
  have df := (S.out.at 2 rfl).frozen
  have S := hid ((((S.out.cell1 2 rfl 53 (.int .i64 x.t) (mset_t _ _ _ _ _ _)).cell1 2 rfl 54 (.int .i64 x.fr) (mset_f _ _ _ _ _ _)).cell1 2 rfl 55 (.int .i64 x.pt) (mset_pt _ _ _ _ _ _)).cell1 2 rfl 56 (.string x.sv) (mset_s _ _ _ _ _ _))
  go_wp2_with fail
  obtain ⟨W6, hW6⟩ : ∃ W6, (((W5.setCell ⟨w.heap.size + 1 + 1, 53, none⟩ (.int .i64 x.t)).setCell ⟨w.heap.size + 1 + 1, 54, none⟩ (.int .i64 x.fr)).setCell ⟨w.heap.size + 1 + 1, 55, none⟩ (.int .i64 x.pt)).setCell ⟨w.heap.size + 1 + 1, 56, none⟩ (.string x.sv) = W6 := ⟨_, rfl⟩
  rw [hW6] at S ⊢
  clear hW6 e1 e2 e3 e4 e5 d1 d2 d3 d4 d5 df
  refine (hE.out _ S.out.bel).mono ?_
  rintro e w7 ⟨rfl, hO, hb⟩
  have S := hid (S.out.evs hb hO)
  have d5 : w7.cell? ⟨w.heap.size + 1 + 1, 57, none⟩ = some nlV := (S.out.at 3 rfl).cell 57
  have df := (S.out.at 3 rfl).frozen
  have S := hid (S.out.cell1 3 rfl 57 (.slice (some ⟨W6.heap.size, 0, none⟩) x.ev.length x.ev.length) (mset_e _ _ _ _ _ _ x.ev))
  clear hb hO hE
  obtain ⟨W8, hW8⟩ : ∃ W8, w7.setCell ⟨w.heap.size + 1 + 1, 57, none⟩ (.slice (some ⟨W6.heap.size, 0, none⟩) x.ev.length x.ev.length) = W8 := ⟨_, rfl⟩
  have S8 := S
  rw [hW8] at S8
  replace hW8 := hid hW8
  have hth := hid (mc_there (S8.out.at 4 rfl) (o := 0) (n := (mcA x ur um (.slice ad x.d.pulses.length cd) (.slice (some ⟨W6.heap.size, 0, none⟩) x.ev.length x.ev.length)).size) (by show 0 + 58 ≤ 58; omega))
  have x1 := hid (mc_all (S8.out.at 3 rfl))
  have S9 := hid (S8.out.lay 4 rfl 0 (mcA x ur um (.slice ad x.d.pulses.length cd) (.slice (some ⟨W6.heap.size, 0, none⟩) x.ev.length x.ev.length)).toList (mlay_x _ _ _ _ _ _ _ _ _ _))
  have hone : (mcA x ur um (.slice ad x.d.pulses.length cd) (.slice (some ⟨W6.heap.size, 0, none⟩) x.ev.length x.ev.length)).all (·.oneCell') = true := by simp [mcA, Value.oneCell']; exact ⟨o1, o2⟩
  clear S
  go_upto_region 12 with fail
  rw [hW8.out]
  clear d5 df
  obtain ⟨W9, hW9⟩ : ∃ W9, W8.setCells (w.heap.size + 1) 0 (mcA x ur um (.slice ad x.d.pulses.length cd) (.slice (some ⟨W6.heap.size, 0, none⟩) x.ev.length x.ev.length)).toList = W9 := ⟨_, rfl⟩
  rw [hW9] at S9
  replace hW9 := hid hW9
  go_wp2_with (first | (refine wpList_load_mid rfl 41 _ rfl (w.heap.size + 1 + 1) 0 rfl (mcA x ur um (.slice ad x.d.pulses.length cd) (.slice (some ⟨W6.heap.size, 0, none⟩) x.ev.length x.ev.length)).toList _ x1.out Tryd.underlying41 rfl (szMc _ _ _ _ _) ?_) | (guard_target = wpList _ _ _ (Oper.mk _ (Op.store _ _ _) _ _ _ _ :: _) _ _; refine wpList_store_mid rfl 41 _ _ rfl (w.heap.size + 1) 0 (mcA x ur um (.slice ad x.d.pulses.length cd) (.slice (some ⟨W6.heap.size, 0, none⟩) x.ev.length x.ev.length)) rfl rfl hth.out (szMcA _ _ _ _ _) hone ?_; rw [hW9.out]))
  obtain ⟨tt, ht⟩ := S9.out.at 4 rfl
  exact bodyPost_ret (v := mcV x ur um (.slice ad x.d.pulses.length cd) (.slice (some ⟨W6.heap.size, 0, none⟩) x.ev.length x.ev.length)) (results_cell_row Tryd.results19 _ _ (w.heap.size + 1) tt _ (0, 0) _ rfl ht Tryd.underlying41 rfl (szMcA _ _ _ _ _)) rfl ⟨ur, um, _, _, _, _, _, rfl, S9.out⟩
end Go.Proofs.YtifcdojaocndhaaDoor
