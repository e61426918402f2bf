/- SnapText: the specification. -/
import Derived.Test.YtghcagibdcblnaaGreatDoorEff
import Derived.Test.YtghcagibdcblnaaGreatDoorF07
import Derived.Test.YtghcagibdcblnaaGreatDoorF10
import Derived.Test.YtghcagibdcblnaaGreatDoorF03
import Derived.Test.YtghcagibdcblnaaGreatDoorF04
namespace Go.Proofs.YtghcagibdcblnaaGreatDoor
open Go.ChangeShapes Go.WideShapes Go.ChangeAt Go.RowKit
set_option linter.unusedVariables false
set_option linter.unusedSimpArgs false

def sntext2 (s : Sn) : ByteArray × Int := if okSn s = true then (strOfNums (snapL s.c s.m s.p), 0) else (⟨#[]⟩, 1)
theorem sn_all {W : World} {b : Nat} {s : Sn} {vr vm : Value} (h : Blk W b (snA s vr vm)) : W.rangeAt b 0 (snA s vr vm).toList := blk_range h [] _ [] (by simp)
theorem szS (s : Sn) (vr vm : Value) : (Tryz.prog.info? 33).map (·.size) = some (snA s vr vm).toList.length := by
  show _ = some 31
  kernel_rfl
set_option maxRecDepth 100000 in
set_option maxHeartbeats 1000000 in
theorem sntext_spec (v : Value) (s : Sn) (w : World) (h : SnR w v s) (hl : s.m.rom.length ≤ 1000000000) (hm : s.m.ram.length ≤ 1000000000) (hr : ∀ i, i < s.m.ram.length → (s.m.ram.getD i []).length ≤ 1000000000) :
    Calls Tryz.prog 7 #[v] w fun e w' => e = .returned (.tuple #[.string (sntext2 s).1, .int .i64 (sntext2 s).2]) ∧ Below w.heap.size w w' := by
  have hS := h
  obtain ⟨vr, vm, rfl, hv⟩ := h
  have hB := hid ((Below.refl w.heap.size w).alloc (Nat.le_refl _) (.cells (snA s vr vm) 33))
  have q := hid (Blk.new w (snA s vr vm) 33)
  have hO := hid (fun w1 (hb : Below w.heap.size w w1) => snok_spec (.agg (snA s vr vm)) s w1 (hS.below hb) hl hm hr)
  have hT := hid (fun w1 (hb : Below w.heap.size w w1) (hk : okSn s = true) => ltext13_spec (.agg (snA s vr vm)) s w1 (hS.below hb) hk)
  clear hS hv
  cases hc : okSn s
  · have e : sntext2 s = (⟨#[]⟩, 1) := by unfold sntext2; rw [hc]; rfl
    rw [e]
    rw [hc] at hO
    clear e hT
    go_enter Tryz.func7, Tryz.ntmps7
    go_upto_region 1 with fail
    obtain ⟨V, hV⟩ : ∃ V, w.alloc (Obj.cells (snA s vr vm) 33) = V := ⟨_, rfl⟩
    rw [hV] at hB q ⊢
    clear hV
    have x1 := hid (sn_all q.out)
    go_wp2_with (refine wpList_load_mid rfl 33 _ rfl w.heap.size 0 rfl (snA s vr vm).toList _ x1.out Tryz.underlying33 rfl (szS s vr vm) ?_)
    refine (hO.out _ hB.out).mono ?_
    rintro e w1 ⟨rfl, hb⟩
    have hB1 := hid (new_trans hB.out hb)
    clear hb hB q x1
    go_wp2_with fail
    go_ret2
    exact ⟨rfl, hB1.out⟩
  · have e : sntext2 s = (strOfNums (snapL s.c s.m s.p), 0) := by unfold sntext2; rw [hc]; rfl
    rw [e]
    rw [hc] at hO
    clear e
    generalize strOfNums (snapL s.c s.m s.p) = X at *
    go_enter Tryz.func7, Tryz.ntmps7
    go_upto_region 1 with fail
    obtain ⟨V, hV⟩ : ∃ V, w.alloc (Obj.cells (snA s vr vm) 33) = V := ⟨_, rfl⟩
    rw [hV] at hB q ⊢
    clear hV
    have x1 := hid (sn_all q.out)
    go_wp2_with (refine wpList_load_mid rfl 33 _ rfl w.heap.size 0 rfl (snA s vr vm).toList _ x1.out Tryz.underlying33 rfl (szS s vr vm) ?_)
    refine (hO.out _ hB.out).mono ?_
    rintro e w1 ⟨rfl, hb⟩
    have hB1 := hid (new_trans hB.out hb)
    have q1 := hid (q.out.below hb q.out.lt)
    clear hb hB q x1
    have x2 := hid (sn_all q1.out)
    go_wp2_with (refine wpList_load_mid rfl 33 _ rfl w.heap.size 0 rfl (snA s vr vm).toList _ x2.out Tryz.underlying33 rfl (szS s vr vm) ?_)
    refine (hT.out _ hB1.out hc).mono ?_
    rintro e w2 ⟨rfl, hb⟩
    have hB2 := hid (new_trans hB1.out hb)
    clear hb hB1 q1 x2
    go_wp2_with fail
    go_ret2
    exact ⟨rfl, hB2.out⟩
end Go.Proofs.YtghcagibdcblnaaGreatDoor

/- SameSnap: the specification. -/
namespace Go.Proofs.YtghcagibdcblnaaGreatDoor
open Go.ChangeShapes Go.WideShapes Go.ChangeAt Go.RowKit
set_option linter.unusedVariables false
set_option linter.unusedSimpArgs false

/-- a guarded operation is wanted where the slot of its guard says so -/
theorem want_of {ops : Array Oper} {o : Oper} {a : Act} {j s : Nat} {want b : Bool} (hg : o.guard = some (j, want)) (hd : (ops[j]?).bind (·.dst) = some s) (hv : a.tmps.getD s undef = .bool b) : Region.wanted o (yielded ops a.tmps) = (b == want) := by
  unfold Region.wanted
  rw [hg]
  dsimp only
  unfold yielded
  rw [hd, Option.bind_some]
  cases ht : a.tmps[s]? with
  | none =>
    rw [Array.getD_eq_getD_getElem?, ht] at hv
    cases hv
  | some v =>
    rw [Array.getD_eq_getD_getElem?, ht] at hv
    have hv : v = .bool b := hv
    subst hv
    cases b <;> cases want <;> rfl
def SmallS (s : Sn) : Prop := s.m.rom.length ≤ 1000000000 ∧ s.m.ram.length ≤ 1000000000 ∧ ∀ i, i < s.m.ram.length → (s.m.ram.getD i []).length ≤ 1000000000
def sameSn (s s2 : Sn) : Bool := okSn s && okSn s2 && (strOfNums (snapL s.c s.m s.p)).toList == (strOfNums (snapL s2.c s2.m s2.p)).toList
end Go.Proofs.YtghcagibdcblnaaGreatDoor

/- What the exact laws' helpers over memories answer: equal ones are told equal, marks are held, sizes taken off, a copy is made in blocks of its own. -/
namespace Go.Proofs.YtghcagibdcblnaaGreatDoor
open Go.ChangeShapes Go.WideShapes Go.ChangeAt Go.RowKit
set_option linter.unusedVariables false

/-- a memory that is not too great for the laws -/
def Small (M : Mem) : Prop := M.rom.length ≤ 2000000 ∧ M.ram.length ≤ 2000000 ∧ pre M.ram M.ram.length ≤ 2000000
theorem Small.rows {M : Mem} (h : Small M) : ∀ i, i < M.ram.length → (M.ram.getD i []).length ≤ 1000000000 := fun i hi => by
  have := row_le_pre M.ram i hi
  have := h.2.2
  omega
def Big (M : Mem) : Prop := M.rom.length ≤ maxLen ∧ M.ram.length ≤ maxLen ∧ ∀ i, i < M.ram.length → (M.ram.getD i []).length ≤ maxLen
/-- how many numbers a memory has -/
def cntM (M : Mem) : Nat := M.rom.length + pre M.ram M.ram.length
def markM (M : Mem) (m : Int) : Mem := { M with rom := markL m M.rom.length, ram := mrL M.ram (m + (M.rom.length : Nat)) M.ram.length }
theorem RowR.form {w : World} {v : Value} {zs : List Int} (h : RowR w v zs) : ∃ a cap, v = .slice a zs.length cap := by
  obtain ⟨a, cap, h, _⟩ := h
  exact ⟨a, cap, h⟩
theorem RowsR.form {w : World} {v : Value} {zss : List (List Int)} (h : RowsR w v zss) : ∃ a cap, v = .slice a zss.length cap := by
  obtain ⟨a, cap, h, _⟩ := h
  exact ⟨a, cap, h⟩

end Go.Proofs.YtghcagibdcblnaaGreatDoor

/- Snapshots in the laws: copied, compared, measured. -/
namespace Go.Proofs.YtghcagibdcblnaaGreatDoor
open Go.ChangeShapes Go.WideShapes Go.ChangeAt Go.RowKit
set_option linter.unusedVariables false
set_option linter.unusedSimpArgs false

theorem blk_there {W : World} {b : Nat} {A : Array Value} (h : Blk W b A) {o n : Nat} (hn : o + n ≤ A.size) : W.there b o n := fun j hj => by
  refine ⟨?_, h.frozen _⟩
  rw [h.cell, Array.getElem?_eq_getElem (by omega)]
  rfl
abbrev nl : Value := .slice none 0 0
abbrev mC (vr vm : Value) (M : Mem) : Array Value := #[vr, vm, .int .i64 M.page, .int .i64 M.screen, .bool M.locked]
abbrev zS : Array Value := #[.int .i64 0, .int .i64 0, .int .i64 0, .int .i64 0, .int .i64 0, .int .i64 0, .int .i64 0, .int .i64 0, .int .i64 0, .int .i64 0, .int .i64 0, .bool false, .bool false, .bool false, .slice none 0 0, .slice none 0 0, .int .i64 0, .int .i64 0, .bool false, .int .i64 0, .int .i64 0, .int .i64 0, .int .i64 0, .int .i64 0, .int .i64 0, .int .i64 0, .int .i64 0, .int .i64 0, .int .i64 0, .bool false, .bool false]
theorem zS_eq : zS = snA sn0 nl nl := rfl
theorem sn_lay0 (s : Sn) (vr vm : Value) (c : Cu) : layE 0 (cuA c).toList (snA s vr vm) = snA { s with c := c } vr vm := by
  simp only [layE, List.setIfInBounds_toArray, List.set_cons_zero, List.set_cons_succ, Nat.zero_add, Nat.reduceAdd]
theorem sn_lay1 (s : Sn) (vr vm vr' vm' : Value) (M : Mem) : layE 14 (mC vr' vm' M).toList (snA s vr vm) = snA { s with m := M } vr' vm' := by
  simp only [layE, List.setIfInBounds_toArray, List.set_cons_zero, List.set_cons_succ, Nat.zero_add, Nat.reduceAdd]
theorem sn_lay2 (s : Sn) (vr vm : Value) (p : Po) : layE 19 (poA p).toList (snA s vr vm) = snA { s with p := p } vr vm := by
  simp only [layE, List.setIfInBounds_toArray, List.set_cons_zero, List.set_cons_succ, Nat.zero_add, Nat.reduceAdd]
theorem sn_layA (s z : Sn) (vr vm ur um : Value) : layE 0 (snA s vr vm).toList (snA z ur um) = snA s vr vm := by
  simp only [layE, List.setIfInBounds_toArray, List.set_cons_zero, List.set_cons_succ, Nat.zero_add, Nat.reduceAdd]
theorem szM2 (vr vm : Value) (M : Mem) : (Tryz.prog.info? 29).map (·.size) = some (mC vr vm M).size := by
  show _ = some 5
  kernel_rfl
theorem szP2 (p : Po) : (Tryz.prog.info? 31).map (·.size) = some (poA p).size := by
  show _ = some 12
  kernel_rfl
theorem szS2 (s : Sn) (vr vm : Value) : (Tryz.prog.info? 33).map (·.size) = some (snA s vr vm).size := by
  show _ = some 31
  kernel_rfl
theorem po_one (p : Po) : (poA p).all (·.oneCell') = true := by simp [Value.oneCell']
theorem mC_one {vr vm : Value} (M : Mem) (h1 : vr.oneCell' = true) (h2 : vm.oneCell' = true) : (mC vr vm M).all (·.oneCell') = true := by
  simp [Value.oneCell']
  exact ⟨h1, h2⟩
theorem sn_one {vr vm : Value} (s : Sn) (h1 : vr.oneCell' = true) (h2 : vm.oneCell' = true) : (snA s vr vm).all (·.oneCell') = true := by
  simp [Value.oneCell']
  exact ⟨h1, h2⟩
theorem size_cells (b : Nat) (l : List Value) : ∀ (i : Nat) (W : World), (W.setCells b i l).heap.size = W.heap.size := by
  induction l with
  | nil => exact fun _ _ => rfl
  | cons u t ih => exact fun i W => (ih _ _).trans (sizeSet _ _ _)
theorem layE_heap (b : Nat) (l : List Value) : ∀ (i : Nat) (W : World) {g : Nat}, g ≠ b → (W.setCells b i l).heap[g]? = W.heap[g]? := by
  induction l with
  | nil => exact fun _ _ _ _ => rfl
  | cons u t ih => exact fun i W g hg => (ih _ _ hg).trans (Below.heap_setCell _ _ _ _ hg)
theorem memO_form {w : World} {lo hi : Nat} {v : Value} {M : Mem} (h : MemO w lo hi v M) : ∃ vr vm, v = memV vr vm M.page M.screen M.locked ∧ vr.oneCell' = true ∧ vm.oneCell' = true := by
  rcases h with ⟨rfl, _, _⟩ | ⟨vr, vm, r, s, G, rfl, ⟨_, _, _, h1, _⟩, ⟨_, _, _, _, h2, _⟩, _⟩
  · exact ⟨_, _, rfl, rfl, rfl⟩
  · exact ⟨_, _, rfl, by rw [h1]; rfl, by rw [h2]; rfl⟩
def SnB (w : World) (v : Value) (s : Sn) : Prop := ∃ vr vm, v = .agg (snA s vr vm) ∧ MemR w (memV vr vm s.m.page s.m.screen s.m.locked) s.m ∧ Big s.m
theorem memO_form2 {w : World} {lo hi : Nat} {vr vm : Value} {p sc : Int} {l : Bool} {M : Mem} (h : MemO w lo hi (memV vr vm p sc l) M) : vr.oneCell' = true ∧ vm.oneCell' = true := by
  obtain ⟨a, b, e, h1, h2⟩ := memO_form h
  simp only [Value.agg.injEq, Array.mk.injEq, List.cons.injEq] at e
  obtain ⟨rfl, rfl, _⟩ := e
  exact ⟨h1, h2⟩
theorem three_newS (w : World) (A0 A1 A2 : Array Value) (t0 t1 t2 : TypeId) :
    let W := ((w.alloc (.cells A0 t0)).alloc (.cells A1 t1)).alloc (.cells A2 t2)
    W.heap.size = w.heap.size + 1 + 1 + 1 ∧ Blk W w.heap.size A0 ∧ Blk W (w.heap.size + 1) A1 ∧ Blk W (w.heap.size + 1 + 1) A2 ∧ Below w.heap.size w W := by
  intro W
  have q1 := Blk.new (w.alloc (.cells A0 t0)) A1 t1
  have q2 := Blk.new ((w.alloc (.cells A0 t0)).alloc (.cells A1 t1)) A2 t2
  simp only [World.size_alloc] at q1 q2
  exact ⟨by simp [W], ((Blk.new w A0 t0).alloc _).alloc _, q1.alloc _, q2, (((Below.refl _ _).alloc (Nat.le_refl _) _).alloc (by simp) _).alloc (by simp; omega) _⟩
end Go.Proofs.YtghcagibdcblnaaGreatDoor
