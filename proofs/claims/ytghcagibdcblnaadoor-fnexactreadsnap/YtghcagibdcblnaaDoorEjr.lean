/- Snapshots in the laws: copied, compared, measured. -/
import Derived.Test.YtghcagibdcblnaaDoorR15
import Derived.Test.YtghcagibdcblnaaDoorR06
import Derived.Test.YtghcagibdcblnaaDoorMer
namespace Go.Proofs.YtghcagibdcblnaaDoor
open Go.ChangeShapes Go.WideShapes Go.ChangeAt Go.RowKit
set_option linter.unusedVariables false
set_option linter.unusedSimpArgs false

theorem blk_there {W : World} {b : Nat} {A : Array Value} (h : Blk W b A) {o n : Nat} (hn : o + n ≤ A.size) : W.there b o n := fun j hj => by
  refine ⟨?_, h.frozen _⟩
  rw [h.cell, Array.getElem?_eq_getElem (by omega)]
  rfl
abbrev nl : Value := .slice none 0 0
abbrev mC (vr vm : Value) (M : Mem) : Array Value := #[vr, vm, .int .i64 M.page, .int .i64 M.screen, .bool M.locked]
abbrev zS : Array Value := #[.int .i64 0, .int .i64 0, .int .i64 0, .int .i64 0, .int .i64 0, .int .i64 0, .int .i64 0, .int .i64 0, .int .i64 0, .int .i64 0, .int .i64 0, .bool false, .bool false, .bool false, .slice none 0 0, .slice none 0 0, .int .i64 0, .int .i64 0, .bool false, .int .i64 0, .int .i64 0, .int .i64 0, .int .i64 0, .int .i64 0, .int .i64 0, .int .i64 0, .int .i64 0, .int .i64 0, .int .i64 0, .bool false, .bool false]
theorem zS_eq : zS = snA sn0 nl nl := rfl
theorem sn_lay0 (s : Sn) (vr vm : Value) (c : Cu) : layE 0 (cuA c).toList (snA s vr vm) = snA { s with c := c } vr vm := by
  simp only [layE, List.setIfInBounds_toArray, List.set_cons_zero, List.set_cons_succ, Nat.zero_add, Nat.reduceAdd]
theorem sn_lay1 (s : Sn) (vr vm vr' vm' : Value) (M : Mem) : layE 14 (mC vr' vm' M).toList (snA s vr vm) = snA { s with m := M } vr' vm' := by
  simp only [layE, List.setIfInBounds_toArray, List.set_cons_zero, List.set_cons_succ, Nat.zero_add, Nat.reduceAdd]
theorem sn_lay2 (s : Sn) (vr vm : Value) (p : Po) : layE 19 (poA p).toList (snA s vr vm) = snA { s with p := p } vr vm := by
  simp only [layE, List.setIfInBounds_toArray, List.set_cons_zero, List.set_cons_succ, Nat.zero_add, Nat.reduceAdd]
theorem sn_layA (s z : Sn) (vr vm ur um : Value) : layE 0 (snA s vr vm).toList (snA z ur um) = snA s vr vm := by
  simp only [layE, List.setIfInBounds_toArray, List.set_cons_zero, List.set_cons_succ, Nat.zero_add, Nat.reduceAdd]
theorem szM2 (vr vm : Value) (M : Mem) : (Tryd.prog.info? 28).map (·.size) = some (mC vr vm M).size := by
  show _ = some 5
  kernel_rfl
theorem szP2 (p : Po) : (Tryd.prog.info? 30).map (·.size) = some (poA p).size := by
  show _ = some 12
  kernel_rfl
theorem szS2 (s : Sn) (vr vm : Value) : (Tryd.prog.info? 32).map (·.size) = some (snA s vr vm).size := by
  show _ = some 31
  kernel_rfl
theorem po_one (p : Po) : (poA p).all (·.oneCell') = true := by simp [Value.oneCell']
theorem mC_one {vr vm : Value} (M : Mem) (h1 : vr.oneCell' = true) (h2 : vm.oneCell' = true) : (mC vr vm M).all (·.oneCell') = true := by
  simp [Value.oneCell']
  exact ⟨h1, h2⟩
theorem sn_one {vr vm : Value} (s : Sn) (h1 : vr.oneCell' = true) (h2 : vm.oneCell' = true) : (snA s vr vm).all (·.oneCell') = true := by
  simp [Value.oneCell']
  exact ⟨h1, h2⟩
theorem size_cells (b : Nat) (l : List Value) : ∀ (i : Nat) (W : World), (W.setCells b i l).heap.size = W.heap.size := by
  induction l with
  | nil => exact fun _ _ => rfl
  | cons u t ih => exact fun i W => (ih _ _).trans (sizeSet _ _ _)
theorem layE_heap (b : Nat) (l : List Value) : ∀ (i : Nat) (W : World) {g : Nat}, g ≠ b → (W.setCells b i l).heap[g]? = W.heap[g]? := by
  induction l with
  | nil => exact fun _ _ _ _ => rfl
  | cons u t ih => exact fun i W g hg => (ih _ _ hg).trans (Below.heap_setCell _ _ _ _ hg)
theorem memO_form {w : World} {lo hi : Nat} {v : Value} {M : Mem} (h : MemO w lo hi v M) : ∃ vr vm, v = memV vr vm M.page M.screen M.locked ∧ vr.oneCell' = true ∧ vm.oneCell' = true := by
  rcases h with ⟨rfl, _, _⟩ | ⟨vr, vm, r, s, G, rfl, ⟨_, _, _, h1, _⟩, ⟨_, _, _, _, h2, _⟩, _⟩
  · exact ⟨_, _, rfl, rfl, rfl⟩
  · exact ⟨_, _, rfl, by rw [h1]; rfl, by rw [h2]; rfl⟩
def SnB (w : World) (v : Value) (s : Sn) : Prop := ∃ vr vm, v = .agg (snA s vr vm) ∧ MemR w (memV vr vm s.m.page s.m.screen s.m.locked) s.m ∧ Big s.m
theorem memO_form2 {w : World} {lo hi : Nat} {vr vm : Value} {p sc : Int} {l : Bool} {M : Mem} (h : MemO w lo hi (memV vr vm p sc l) M) : vr.oneCell' = true ∧ vm.oneCell' = true := by
  obtain ⟨a, b, e, h1, h2⟩ := memO_form h
  simp only [Value.agg.injEq, Array.mk.injEq, List.cons.injEq] at e
  obtain ⟨rfl, rfl, _⟩ := e
  exact ⟨h1, h2⟩
theorem three_newS (w : World) (A0 A1 A2 : Array Value) (t0 t1 t2 : TypeId) :
    let W := ((w.alloc (.cells A0 t0)).alloc (.cells A1 t1)).alloc (.cells A2 t2)
    W.heap.size = w.heap.size + 1 + 1 + 1 ∧ Blk W w.heap.size A0 ∧ Blk W (w.heap.size + 1) A1 ∧ Blk W (w.heap.size + 1 + 1) A2 ∧ Below w.heap.size w W := by
  intro W
  have q1 := Blk.new (w.alloc (.cells A0 t0)) A1 t1
  have q2 := Blk.new ((w.alloc (.cells A0 t0)).alloc (.cells A1 t1)) A2 t2
  simp only [World.size_alloc] at q1 q2
  exact ⟨by simp [W], ((Blk.new w A0 t0).alloc _).alloc _, q1.alloc _, q2, (((Below.refl _ _).alloc (Nat.le_refl _) _).alloc (by simp) _).alloc (by simp; omega) _⟩
set_option maxRecDepth 100000 in
set_option maxHeartbeats 1000000 in
theorem eqsn_yes (s : Sn) (vr vm vr2 vm2 : Value) (w : World) (h : MemR w (memV vr vm s.m.page s.m.screen s.m.locked) s.m) (h2 : MemR w (memV vr2 vm2 s.m.page s.m.screen s.m.locked) s.m) (hs : Small s.m) :
    Calls Tryd.prog 6 #[.agg (snA s vr vm), .agg (snA s vr2 vm2)] w fun e w' => e = .returned (.bool true) ∧ Below w.heap.size w w' := by
  have hB1 := (Below.refl w.heap.size w).alloc (Nat.le_refl _) (.cells (snA s vr vm) 32)
  have hB := hid (hB1.alloc hB1.size (.cells (snA s vr2 vm2) 32))
  have q := hid ((Blk.new w (snA s vr vm) 32).alloc (.cells (snA s vr2 vm2) 32))
  have q2 : Hid (Blk ((w.alloc (.cells (snA s vr vm) 32)).alloc (.cells (snA s vr2 vm2) 32)) (w.heap.size + 1) (snA s vr2 vm2)) := by
    have := Blk.new (w.alloc (.cells (snA s vr vm) 32)) (snA s vr2 vm2) 32
    rwa [World.size_alloc] at this
  have hC := hid (fun W => eqc_yes s.c W)
  have hM := hid (fun W (hb : Below w.heap.size w W) => eqm_yes (memV vr vm s.m.page s.m.screen s.m.locked) (memV vr2 vm2 s.m.page s.m.screen s.m.locked) s.m W (h.below hb) (h2.below hb) hs)
  have hP := hid (fun W => eqp_yes s.p W)
  clear h h2 hB1
  go_enter Tryd.func6, Tryd.ntmps6
  go_upto_region 1 with fail
  obtain ⟨V, hV⟩ : ∃ V, (w.alloc (.cells (snA s vr vm) 32)).alloc (.cells (snA s vr2 vm2) 32) = V := ⟨_, rfl⟩
  rw [hV] at hB q q2 ⊢
  clear hV
  have x1 := hid (sn_cpu q.out)
  have x2 := hid (sn_cpu q2.out)
  go_wp2_with (first | (refine wpList_load_mid rfl 24 _ rfl w.heap.size 0 rfl (cuA s.c).toList _ x1.out Tryd.underlying24 rfl (szC s.c) ?_) | (refine wpList_load_mid rfl 24 _ rfl (w.heap.size + 1) 0 rfl (cuA s.c).toList _ x2.out Tryd.underlying24 rfl (szC s.c) ?_))
  refine (hC.out _).mono ?_
  rintro e w1 ⟨rfl, hb⟩
  have r1 := hid (q.out.below hb q.out.lt)
  have r2 := hid (q2.out.below hb q2.out.lt)
  have hB2 := hid (new_trans hB.out hb)
  clear hb q q2 hB x1 x2
  have x1 := hid (sn_mem r1.out)
  have x2 := hid (sn_mem r2.out)
  go_wp2_with (first | (refine wpList_load_mid rfl 28 _ rfl w.heap.size 14 rfl [vr, vm, .int .i64 s.m.page, .int .i64 s.m.screen, .bool s.m.locked] _ x1.out Tryd.underlying28 rfl (szM _ _ _ _ _) ?_) | (refine wpList_load_mid rfl 28 _ rfl (w.heap.size + 1) 14 rfl [vr2, vm2, .int .i64 s.m.page, .int .i64 s.m.screen, .bool s.m.locked] _ x2.out Tryd.underlying28 rfl (szM _ _ _ _ _) ?_))
  refine (hM.out _ hB2.out).mono ?_
  rintro e w2 ⟨rfl, hb⟩
  have q := hid (r1.out.below hb r1.out.lt)
  have q2 := hid (r2.out.below hb r2.out.lt)
  have hB := hid (new_trans hB2.out hb)
  clear hb r1 r2 hB2 x1 x2
  have x1 := hid (sn_po q.out)
  have x2 := hid (sn_po q2.out)
  go_wp2_with (first | (refine wpList_load_mid rfl 30 _ rfl w.heap.size 19 rfl (poA s.p).toList _ x1.out Tryd.underlying30 rfl (szP s.p) ?_) | (refine wpList_load_mid rfl 30 _ rfl (w.heap.size + 1) 19 rfl (poA s.p).toList _ x2.out Tryd.underlying30 rfl (szP s.p) ?_))
  refine (hP.out _).mono ?_
  rintro e w3 ⟨rfl, hb⟩
  have hB3 := hid (new_trans hB.out hb)
  clear hb q q2 hB x1 x2
  go_wp2
  go_ret
  exact ⟨rfl, hB3.out⟩
end Go.Proofs.YtghcagibdcblnaaDoor
