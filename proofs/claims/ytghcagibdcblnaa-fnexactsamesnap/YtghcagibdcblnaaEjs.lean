/- Snapshots in the laws: copied, compared, measured. -/
import Derived.Test.YtghcagibdcblnaaEhs
import Derived.Test.YtghcagibdcblnaaS09
import Derived.Test.YtghcagibdcblnaaMes
namespace Go.Proofs.Ytghcagibdcblnaa
open Go.ChangeShapes Go.WideShapes Go.ChangeAt Go.RowKit
set_option linter.unusedVariables false
set_option linter.unusedSimpArgs false

theorem blk_there {W : World} {b : Nat} {A : Array Value} (h : Blk W b A) {o n : Nat} (hn : o + n ≤ A.size) : W.there b o n := fun j hj => by
  refine ⟨?_, h.frozen _⟩
  rw [h.cell, Array.getElem?_eq_getElem (by omega)]
  rfl
abbrev nl : Value := .slice none 0 0
abbrev mC (vr vm : Value) (M : Mem) : Array Value := #[vr, vm, .int .i64 M.page, .int .i64 M.screen, .bool M.locked]
abbrev zS : Array Value := #[.int .i64 0, .int .i64 0, .int .i64 0, .int .i64 0, .int .i64 0, .int .i64 0, .int .i64 0, .int .i64 0, .int .i64 0, .int .i64 0, .int .i64 0, .bool false, .bool false, .bool false, .slice none 0 0, .slice none 0 0, .int .i64 0, .int .i64 0, .bool false, .int .i64 0, .int .i64 0, .int .i64 0, .int .i64 0, .int .i64 0, .int .i64 0, .int .i64 0, .int .i64 0, .int .i64 0, .int .i64 0, .bool false, .bool false]
theorem zS_eq : zS = snA sn0 nl nl := rfl
theorem sn_lay0 (s : Sn) (vr vm : Value) (c : Cu) : layE 0 (cuA c).toList (snA s vr vm) = snA { s with c := c } vr vm := by
  simp only [layE, List.setIfInBounds_toArray, List.set_cons_zero, List.set_cons_succ, Nat.zero_add, Nat.reduceAdd]
theorem sn_lay1 (s : Sn) (vr vm vr' vm' : Value) (M : Mem) : layE 14 (mC vr' vm' M).toList (snA s vr vm) = snA { s with m := M } vr' vm' := by
  simp only [layE, List.setIfInBounds_toArray, List.set_cons_zero, List.set_cons_succ, Nat.zero_add, Nat.reduceAdd]
theorem sn_lay2 (s : Sn) (vr vm : Value) (p : Po) : layE 19 (poA p).toList (snA s vr vm) = snA { s with p := p } vr vm := by
  simp only [layE, List.setIfInBounds_toArray, List.set_cons_zero, List.set_cons_succ, Nat.zero_add, Nat.reduceAdd]
theorem sn_layA (s z : Sn) (vr vm ur um : Value) : layE 0 (snA s vr vm).toList (snA z ur um) = snA s vr vm := by
  simp only [layE, List.setIfInBounds_toArray, List.set_cons_zero, List.set_cons_succ, Nat.zero_add, Nat.reduceAdd]
theorem szM2 (vr vm : Value) (M : Mem) : (Try.prog.info? 36).map (·.size) = some (mC vr vm M).size := by
  show _ = some 5
  kernel_rfl
theorem szP2 (p : Po) : (Try.prog.info? 37).map (·.size) = some (poA p).size := by
  show _ = some 12
  kernel_rfl
theorem szS2 (s : Sn) (vr vm : Value) : (Try.prog.info? 39).map (·.size) = some (snA s vr vm).size := by
  show _ = some 31
  kernel_rfl
theorem po_one (p : Po) : (poA p).all (·.oneCell') = true := by simp [Value.oneCell']
theorem mC_one {vr vm : Value} (M : Mem) (h1 : vr.oneCell' = true) (h2 : vm.oneCell' = true) : (mC vr vm M).all (·.oneCell') = true := by
  simp [Value.oneCell']
  exact ⟨h1, h2⟩
theorem sn_one {vr vm : Value} (s : Sn) (h1 : vr.oneCell' = true) (h2 : vm.oneCell' = true) : (snA s vr vm).all (·.oneCell') = true := by
  simp [Value.oneCell']
  exact ⟨h1, h2⟩
theorem size_cells (b : Nat) (l : List Value) : ∀ (i : Nat) (W : World), (W.setCells b i l).heap.size = W.heap.size := by
  induction l with
  | nil => exact fun _ _ => rfl
  | cons u t ih => exact fun i W => (ih _ _).trans (sizeSet _ _ _)
theorem layE_heap (b : Nat) (l : List Value) : ∀ (i : Nat) (W : World) {g : Nat}, g ≠ b → (W.setCells b i l).heap[g]? = W.heap[g]? := by
  induction l with
  | nil => exact fun _ _ _ _ => rfl
  | cons u t ih => exact fun i W g hg => (ih _ _ hg).trans (Below.heap_setCell _ _ _ _ hg)
theorem memO_form {w : World} {lo hi : Nat} {v : Value} {M : Mem} (h : MemO w lo hi v M) : ∃ vr vm, v = memV vr vm M.page M.screen M.locked ∧ vr.oneCell' = true ∧ vm.oneCell' = true := by
  rcases h with ⟨rfl, _, _⟩ | ⟨vr, vm, r, s, G, rfl, ⟨_, _, _, h1, _⟩, ⟨_, _, _, _, h2, _⟩, _⟩
  · exact ⟨_, _, rfl, rfl, rfl⟩
  · exact ⟨_, _, rfl, by rw [h1]; rfl, by rw [h2]; rfl⟩
def SnB (w : World) (v : Value) (s : Sn) : Prop := ∃ vr vm, v = .agg (snA s vr vm) ∧ MemR w (memV vr vm s.m.page s.m.screen s.m.locked) s.m ∧ Big s.m
theorem memO_form2 {w : World} {lo hi : Nat} {vr vm : Value} {p sc : Int} {l : Bool} {M : Mem} (h : MemO w lo hi (memV vr vm p sc l) M) : vr.oneCell' = true ∧ vm.oneCell' = true := by
  obtain ⟨a, b, e, h1, h2⟩ := memO_form h
  simp only [Value.agg.injEq, Array.mk.injEq, List.cons.injEq] at e
  obtain ⟨rfl, rfl, _⟩ := e
  exact ⟨h1, h2⟩
theorem three_newS (w : World) (A0 A1 A2 : Array Value) (t0 t1 t2 : TypeId) :
    let W := ((w.alloc (.cells A0 t0)).alloc (.cells A1 t1)).alloc (.cells A2 t2)
    W.heap.size = w.heap.size + 1 + 1 + 1 ∧ Blk W w.heap.size A0 ∧ Blk W (w.heap.size + 1) A1 ∧ Blk W (w.heap.size + 1 + 1) A2 ∧ Below w.heap.size w W := by
  intro W
  have q1 := Blk.new (w.alloc (.cells A0 t0)) A1 t1
  have q2 := Blk.new ((w.alloc (.cells A0 t0)).alloc (.cells A1 t1)) A2 t2
  simp only [World.size_alloc] at q1 q2
  exact ⟨by simp [W], ((Blk.new w A0 t0).alloc _).alloc _, q1.alloc _, q2, (((Below.refl _ _).alloc (Nat.le_refl _) _).alloc (by simp) _).alloc (by simp; omega) _⟩
theorem szLM (vr vm a b c : Value) : (Try.prog.info? 28).map (·.size) = some [vr, vm, a, b, c].length := by
  show _ = some 5
  kernel_rfl
theorem szLC (c : Cu) : (Try.prog.info? 24).map (·.size) = some (cuA c).toList.length := by
  show _ = some 14
  kernel_rfl
theorem szLP (p : Po) : (Try.prog.info? 30).map (·.size) = some (poA p).toList.length := by
  show _ = some 12
  kernel_rfl
set_option maxRecDepth 100000 in
theorem szsn (s : Sn) (vr vm : Value) (left : Int) (w : World) (h : MemR w (memV vr vm s.m.page s.m.screen s.m.locked) s.m) (hs : Big s.m) (hl0 : 0 ≤ left) (hl1 : left ≤ 1000000000) :
    Calls Try.prog 6 #[.agg (snA s vr vm), .int .i64 left] w fun e w' => ∃ R : Int, e = .returned (.int .i64 R) ∧ (R < 0 ∨ (0 ≤ R ∧ (s.m.rom.length : Int) + (s.m.ram.length : Int) + (pre s.m.ram s.m.ram.length : Nat) + R = left)) ∧ Below w.heap.size w w' := by
  have hB := hid ((Below.refl w.heap.size w).alloc (Nat.le_refl _) (.cells (snA s vr vm) 32))
  have q := Blk.new w (snA s vr vm) 32
  have hZ := hid (szm (memV vr vm s.m.page s.m.screen s.m.locked) s.m left _ (h.below hB.out) hs hl0 hl1)
  have x1 := hid (sn_mem q)
  clear h q
  go_enter Try.func6, Try.ntmps6
  go_upto_region 1 with fail
  generalize w.alloc (.cells (snA s vr vm) 32) = V at *
  go_wp2_with (refine wpList_load_mid rfl 28 _ rfl w.heap.size 14 rfl [vr, vm, .int .i64 s.m.page, .int .i64 s.m.screen, .bool s.m.locked] _ x1.out Try.underlying28 rfl (szLM _ _ _ _ _) ?_)
  refine hZ.out.mono ?_
  rintro e w1 ⟨R, rfl, hR, hb⟩
  have hB1 := hid (hB.out.trans (hb.mono hB.out.size))
  clear hb hB x1 hZ
  have hR2 := hid hR
  rcases hR with hR | hR
  · go_wp2
    go_ret
    exact ⟨-1, rfl, .inl (by omega), hB1.out⟩
  · have hR0 : ¬ R < 0 := by omega
    clear hR
    go_wp2
    go_ret
    exact ⟨R, rfl, hR2.out, hB1.out⟩
set_option maxRecDepth 100000 in
set_option maxHeartbeats 1000000 in
theorem eqsn_yes (s : Sn) (vr vm vr2 vm2 : Value) (w : World) (h : MemR w (memV vr vm s.m.page s.m.screen s.m.locked) s.m) (h2 : MemR w (memV vr2 vm2 s.m.page s.m.screen s.m.locked) s.m) (hs : Small s.m) :
    Calls Try.prog 10 #[.agg (snA s vr vm), .agg (snA s vr2 vm2)] w fun e w' => e = .returned (.bool true) ∧ Below w.heap.size w w' := by
  have hB1 := (Below.refl w.heap.size w).alloc (Nat.le_refl _) (.cells (snA s vr vm) 39)
  have hB := hid (hB1.alloc hB1.size (.cells (snA s vr2 vm2) 39))
  have q := hid ((Blk.new w (snA s vr vm) 39).alloc (.cells (snA s vr2 vm2) 39))
  have q2 : Hid (Blk ((w.alloc (.cells (snA s vr vm) 39)).alloc (.cells (snA s vr2 vm2) 39)) (w.heap.size + 1) (snA s vr2 vm2)) := by
    have := Blk.new (w.alloc (.cells (snA s vr vm) 39)) (snA s vr2 vm2) 39
    rwa [World.size_alloc] at this
  have hC := hid (fun W => eqc_yes s.c W)
  have hM := hid (fun W (hb : Below w.heap.size w W) => eqm_yes (memV vr vm s.m.page s.m.screen s.m.locked) (memV vr2 vm2 s.m.page s.m.screen s.m.locked) s.m W (h.below hb) (h2.below hb) hs)
  have hP := hid (fun W => eqp_yes s.p W)
  clear h h2 hB1
  go_enter Try.func10, Try.ntmps10
  go_upto_region 1 with fail
  obtain ⟨V, hV⟩ : ∃ V, (w.alloc (.cells (snA s vr vm) 39)).alloc (.cells (snA s vr2 vm2) 39) = V := ⟨_, rfl⟩
  rw [hV] at hB q q2 ⊢
  clear hV
  have x1 := hid (sn_cpu q.out)
  have x2 := hid (sn_cpu q2.out)
  go_wp2_with (first | (refine wpList_load_mid rfl 35 _ rfl w.heap.size 0 rfl (cuA s.c).toList _ x1.out Try.underlying35 rfl (szC s.c) ?_) | (refine wpList_load_mid rfl 35 _ rfl (w.heap.size + 1) 0 rfl (cuA s.c).toList _ x2.out Try.underlying35 rfl (szC s.c) ?_))
  refine (hC.out _).mono ?_
  rintro e w1 ⟨rfl, hb⟩
  have r1 := hid (q.out.below hb q.out.lt)
  have r2 := hid (q2.out.below hb q2.out.lt)
  have hB2 := hid (new_trans hB.out hb)
  clear hb q q2 hB x1 x2
  have x1 := hid (sn_mem r1.out)
  have x2 := hid (sn_mem r2.out)
  go_wp2_with (first | (refine wpList_load_mid rfl 36 _ rfl w.heap.size 14 rfl [vr, vm, .int .i64 s.m.page, .int .i64 s.m.screen, .bool s.m.locked] _ x1.out Try.underlying36 rfl (szM _ _ _ _ _) ?_) | (refine wpList_load_mid rfl 36 _ rfl (w.heap.size + 1) 14 rfl [vr2, vm2, .int .i64 s.m.page, .int .i64 s.m.screen, .bool s.m.locked] _ x2.out Try.underlying36 rfl (szM _ _ _ _ _) ?_))
  refine (hM.out _ hB2.out).mono ?_
  rintro e w2 ⟨rfl, hb⟩
  have q := hid (r1.out.below hb r1.out.lt)
  have q2 := hid (r2.out.below hb r2.out.lt)
  have hB := hid (new_trans hB2.out hb)
  clear hb r1 r2 hB2 x1 x2
  have x1 := hid (sn_po q.out)
  have x2 := hid (sn_po q2.out)
  go_wp2_with (first | (refine wpList_load_mid rfl 37 _ rfl w.heap.size 19 rfl (poA s.p).toList _ x1.out Try.underlying37 rfl (szP s.p) ?_) | (refine wpList_load_mid rfl 37 _ rfl (w.heap.size + 1) 19 rfl (poA s.p).toList _ x2.out Try.underlying37 rfl (szP s.p) ?_))
  refine (hP.out _).mono ?_
  rintro e w3 ⟨rfl, hb⟩
  have hB3 := hid (new_trans hB.out hb)
  clear hb q q2 hB x1 x2
  go_wp2
  go_ret
  exact ⟨rfl, hB3.out⟩
set_option maxRecDepth 100000 in
set_option maxHeartbeats 1000000 in
theorem tosn (s : Sn) (vr vm : Value) (w : World) (h : MemR w (memV vr vm s.m.page s.m.screen s.m.locked) s.m) (hs : Small s.m) :
    Calls Try.prog 8 #[.agg (snA s vr vm)] w fun e w' => ∃ vr' vm', e = .returned (.agg (snA s vr' vm')) ∧ MemO w' w.heap.size w'.heap.size (memV vr' vm' s.m.page s.m.screen s.m.locked) s.m ∧ Below w.heap.size w w' := by
  have hF := hid (three_newS w (snA s vr vm) zS zS 32 39 39)
  have hC := hid (fun W => toc s.c W)
  have hM := hid (fun W (hb : Below w.heap.size w W) => tom (memV vr vm s.m.page s.m.screen s.m.locked) s.m W (h.below hb) hs)
  have hP := hid (fun W => topo s.p W)
  clear h
  go_enter Try.func8, Try.ntmps8
  go_upto_region 2 with fail
  obtain ⟨V, hV⟩ : ∃ V, ((w.alloc (.cells (snA s vr vm) 32)).alloc (.cells zS 39)).alloc (.cells zS 39) = V := ⟨_, rfl⟩
  rw [hV] at hF ⊢
  clear hV
  obtain ⟨hsz, q0, q1, q2, hB⟩ := hF.out
  rw [zS_eq] at q1 q2
  have x1 := hid (sn_cpu q0)
  replace q0 := hid q0
  replace q1 := hid q1
  replace q2 := hid q2
  replace hB := hid hB
  replace hsz := hid hsz
  clear hF
  go_wp2_with (refine wpList_load_mid rfl 24 _ rfl w.heap.size 0 rfl (cuA s.c).toList _ x1.out Try.underlying24 rfl (szLC s.c) ?_)
  refine (hC.out _).mono ?_
  rintro e w1 ⟨rfl, hb⟩
  have hsz1 : Hid (w.heap.size + 1 + 1 + 1 ≤ w1.heap.size) := by have h1 := hb.size; have h2 := hsz.out; unfold Hid; omega
  have t2 := q2.out.below hb q2.out.lt
  have hth := hid (blk_there t2 (o := 0) (n := (cuA s.c).size) (by show 0 + 14 ≤ 31; omega))
  obtain ⟨w2, hww2⟩ : ∃ W, w1.setCells (w.heap.size + 1 + 1) 0 (cuA s.c).toList = W := ⟨_, rfl⟩
  have p0 : Blk w2 w.heap.size (snA s vr vm) := by rw [← hww2]; exact layE_other (by omega) _ 0 _ (q0.out.below hb q0.out.lt)
  have p1 : Blk w2 (w.heap.size + 1) (snA sn0 nl nl) := by rw [← hww2]; exact layE_other (by omega) _ 0 _ (q1.out.below hb q1.out.lt)
  have p2 : Blk w2 (w.heap.size + 1 + 1) (snA { sn0 with c := s.c } nl nl) := by
    rw [← hww2]
    have := layE_blk (w.heap.size + 1 + 1) (cuA s.c).toList _ 0 _ t2
    rw [sn_lay0] at this
    exact this
  have hB2 : Hid (Below w.heap.size w w2) := by rw [← hww2]; exact layE_below _ 0 _ (by omega) (new_trans hB.out hb)
  have hsz2 : Hid (w.heap.size + 1 + 1 + 1 ≤ w2.heap.size) := by unfold Hid; rw [← hww2, size_cells]; exact hsz1.out
  replace hww2 := hid hww2
  have x2 := hid (sn_mem p0)
  replace p0 := hid p0
  replace p1 := hid p1
  replace p2 := hid p2
  clear hb t2 q0 q1 q2 hB x1 hsz hsz1
  go_wp2_with (first | (guard_target = wpList _ _ _ (Oper.mk _ (Op.store _ _ _) _ _ _ _ :: _) _ _; refine wpList_store_mid rfl 35 _ _ rfl (w.heap.size + 1 + 1) 0 (cuA s.c) rfl rfl hth.out (szC2 s.c) (cu_one s.c) ?_; rw [hww2.out]) | (refine wpList_load_mid rfl 28 _ rfl w.heap.size 14 rfl [vr, vm, .int .i64 s.m.page, .int .i64 s.m.screen, .bool s.m.locked] _ x2.out Try.underlying28 rfl (szLM _ _ _ _ _) ?_))
  refine (hM.out _ hB2.out).mono ?_
  rintro e w3 ⟨u, rfl, hO, hb⟩
  obtain ⟨vr', vm', rfl, o1, o2⟩ := memO_form hO
  have hOb := hO
  replace hsz := hsz2
  have hs2w := hsz2
  replace hB := hB2
  clear hsz2 hB2 hth hww2 x2
  have hsz1 : Hid (w.heap.size + 1 + 1 + 1 ≤ w3.heap.size) := by have h1 := hb.size; have h2 := hsz.out; unfold Hid; omega
  have t2 := p2.out.below hb p2.out.lt
  have hth := hid (blk_there t2 (o := 14) (n := (mC vr' vm' s.m).size) (by show 14 + 5 ≤ 31; omega))
  obtain ⟨w4, hww4⟩ : ∃ W, w3.setCells (w.heap.size + 1 + 1) 14 (mC vr' vm' s.m).toList = W := ⟨_, rfl⟩
  have r0 : Blk w4 w.heap.size (snA s vr vm) := by rw [← hww4]; exact layE_other (by omega) _ 14 _ (p0.out.below hb p0.out.lt)
  have r1 : Blk w4 (w.heap.size + 1) (snA sn0 nl nl) := by rw [← hww4]; exact layE_other (by omega) _ 14 _ (p1.out.below hb p1.out.lt)
  have r2 : Blk w4 (w.heap.size + 1 + 1) (snA { sn0 with c := s.c, m := s.m } vr' vm') := by
    rw [← hww4]
    have := layE_blk (w.heap.size + 1 + 1) (mC vr' vm' s.m).toList _ 14 _ t2
    rw [sn_lay1] at this
    exact this
  have hB2 : Hid (Below w.heap.size w w4) := by rw [← hww4]; exact layE_below _ 14 _ (by omega) (new_trans hB.out hb)
  have hsz2 : Hid (w.heap.size + 1 + 1 + 1 ≤ w4.heap.size) := by unfold Hid; rw [← hww4, size_cells]; exact hsz1.out
  replace hww4 := hid hww4
  have hO2 : Hid (MemO w4 w2.heap.size w4.heap.size (memV vr' vm' s.m.page s.m.screen s.m.locked) s.m) := by
    have hk := hO.kept (w' := w4) (fun b hb1 hb2 => by
      rw [← hww4.out]
      have hlt : w.heap.size + 1 + 1 < w2.heap.size := by have := hsz.out; omega
      exact layE_heap _ _ _ _ (by omega))
    have hs4 : w4.heap.size = w3.heap.size := by rw [← hww4.out, size_cells]
    unfold Hid
    rw [hs4]
    exact hk
  have x2 := hid (sn_po r0)
  replace r0 := hid r0
  replace r1 := hid r1
  replace r2 := hid r2
  clear hb t2 p0 p1 p2 hB hsz hsz1 hO hOb
  have hmo := mC_one s.m o1 o2
  go_wp2_with (first | (guard_target = wpList _ _ _ (Oper.mk _ (Op.store _ _ _) _ _ _ _ :: _) _ _; refine wpList_store_mid rfl 36 _ _ rfl (w.heap.size + 1 + 1) 14 (mC vr' vm' s.m) rfl rfl hth.out (szM2 _ _ _) hmo ?_; rw [hww4.out]) | (refine wpList_load_mid rfl 30 _ rfl w.heap.size 19 rfl (poA s.p).toList _ x2.out Try.underlying30 rfl (szLP s.p) ?_))
  refine (hP.out _).mono ?_
  rintro e w5 ⟨rfl, hb⟩
  replace hsz := hsz2
  replace hB := hB2
  clear hsz2 hB2 hth hww4 x2
  have hsz1 : Hid (w.heap.size + 1 + 1 + 1 ≤ w5.heap.size) := by have h1 := hb.size; have h2 := hsz.out; unfold Hid; omega
  have t2 := r2.out.below hb r2.out.lt
  have hth := hid (blk_there t2 (o := 19) (n := (poA s.p).size) (by show 19 + 12 ≤ 31; omega))
  obtain ⟨w6, hww6⟩ : ∃ W, w5.setCells (w.heap.size + 1 + 1) 19 (poA s.p).toList = W := ⟨_, rfl⟩
  have p1 : Blk w6 (w.heap.size + 1) (snA sn0 nl nl) := by rw [← hww6]; exact layE_other (by omega) _ 19 _ (r1.out.below hb r1.out.lt)
  have p2 : Blk w6 (w.heap.size + 1 + 1) (snA s vr' vm') := by
    rw [← hww6]
    have := layE_blk (w.heap.size + 1 + 1) (poA s.p).toList _ 19 _ t2
    rw [sn_lay2] at this
    exact this
  have hB2 : Hid (Below w.heap.size w w6) := by rw [← hww6]; exact layE_below _ 19 _ (by omega) (new_trans hB.out hb)
  have th2 := hid (blk_there p1 (o := 0) (n := (snA s vr' vm').size) (by show 0 + 31 ≤ 31; omega))
  have hth2 := th2
  have hx6 := hid (sn_all p2)
  have hso := sn_one s o1 o2
  obtain ⟨w7, hw7⟩ : ∃ W, w6.setCells (w.heap.size + 1) 0 (snA s vr' vm').toList = W := ⟨_, rfl⟩
  have p3 : Blk w7 (w.heap.size + 1) (snA s vr' vm') := by
    rw [← hw7]
    have := layE_blk (w.heap.size + 1) (snA s vr' vm').toList _ 0 _ p1
    rw [sn_layA] at this
    exact this
  have hB3 : Hid (Below w.heap.size w w7) := by rw [← hw7]; exact layE_below _ 0 _ (by omega) hB2.out
  have hO3 : Hid (MemO w7 w.heap.size w7.heap.size (memV vr' vm' s.m.page s.m.screen s.m.locked) s.m) := by
    have h4 := hO2.out
    have hlt := hsz.out
    have s6 : w6.heap.size = w5.heap.size := by rw [← hww6, size_cells]
    have s7 : w7.heap.size = w6.heap.size := by rw [← hw7, size_cells]
    have hbs := hb.size
    have hl2 := hs2w.out
    have hk := h4.kept (w' := w7) (fun b hb1 hb2 => by
      rw [← hw7, layE_heap _ _ _ _ (by omega), ← hww6, layE_heap _ _ _ _ (by omega)]
      exact hb.block b hb2)
    exact hk.mono (by omega) (by omega)
  replace p3 := hid p3
  replace hw7 := hid hw7
  replace hww6 := hid hww6
  clear hb t2 r0 r1 r2 hB hsz hsz1 p1 p2 th2 hO2
  go_wp2_with (first | (guard_target = wpList _ _ _ (Oper.mk _ (Op.store _ _ _) _ _ _ _ :: _) _ _; refine wpList_store_mid rfl 37 _ _ rfl (w.heap.size + 1 + 1) 19 (poA s.p) rfl rfl hth.out (szP2 s.p) (po_one s.p) ?_; rw [hww6.out]) | (refine wpList_load_mid rfl 39 _ rfl (w.heap.size + 1 + 1) 0 rfl (snA s vr' vm').toList _ hx6.out Try.underlying39 rfl (szS s vr' vm') ?_) | (guard_target = wpList _ _ _ (Oper.mk _ (Op.store _ _ _) _ _ _ _ :: _) _ _; refine wpList_store_mid rfl 39 _ _ rfl (w.heap.size + 1) 0 (snA s vr' vm') rfl rfl hth2.out (szS2 _ _ _) hso ?_; rw [hw7.out]))
  obtain ⟨tt, ht⟩ := p3.out
  exact bodyPost_ret (v := .agg (snA s vr' vm')) (results_cell_row Try.results8 _ _ (w.heap.size + 1) tt (snA s vr' vm') (0, 0) _ rfl ht Try.underlying39 rfl (szS2 _ _ _)) rfl ⟨vr', vm', rfl, hO3.out, hB3.out⟩
end Go.Proofs.Ytghcagibdcblnaa
