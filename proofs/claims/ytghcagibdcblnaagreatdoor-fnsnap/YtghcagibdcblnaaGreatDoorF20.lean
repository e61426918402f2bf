/- A drawn snapshot. -/
import Derived.Test.YtghcagibdcblnaaGreatDoorF14
import Derived.Test.YtghcagibdcblnaaGreatDoorF17
import Derived.Test.YtghcagibdcblnaaGreatDoorJhf
import Derived.Test.YtghcagibdcblnaaGreatDoorF19
import Derived.Test.YtghcagibdcblnaaGreatDoorMnf
import Derived.Test.YtghcagibdcblnaaGreatDoorF07
import Derived.Test.YtghcagibdcblnaaGreatDoorF00
import Derived.LaidEql
import Derived.Stop.Asserts
import Derived.RowKitTokens
import Derived.Deep.RegionWith
import Derived.Deep.RegionHeld3
import Derived.WalkSpells
import Derived.OneCell
namespace Go.Proofs.YtghcagibdcblnaaGreatDoor
open Go.ChangeShapes Go.WideShapes Go.ChangeAt Go.RowKit
set_option linter.unusedVariables false
set_option linter.unusedSimpArgs false

theorem memO_cap {w : World} {lo hi : Nat} {v : Value} {M : Mem} (h : MemO w lo hi v M) : MemO w lo w.heap.size v M := by
  rcases h with h | ⟨vr, vm, r, s, G, e, k1, k2, b1, b2, b3, d⟩
  · exact .inl h
  · have hr := k1.lt
    obtain ⟨cap, c, t, V, hv, hs, hc, hrow⟩ := id k2
    exact .inr ⟨vr, vm, r, s, G, e, k1, k2, ⟨b1.1, hr⟩, ⟨b2.1, (Array.getElem?_eq_some_iff.1 hs).1⟩, fun i hi => ⟨(b3 i hi).1, (hrow i hi).lt⟩, d⟩
theorem memO_grown {w w' : World} {lo hi p : Nat} {v : Value} {M : Mem} (h : MemO w lo hi v M) (hg : w.grownBy w' (some p)) (hw : hi ≤ w.heap.size) (hp : p < lo) : MemO w' lo hi v M := h.kept (fun b h1 h2 => hg.block b (by omega) (by simp; omega))
set_option maxRecDepth 100000 in
set_option maxHeartbeats 1000000 in
theorem snap_any (p : Nat) (a : Option Addr) (len cap nn : Nat) (w : World) (hs : Src w p a len cap nn) (hn : nn ≤ 90000) :
    Calls Tryz.prog 13 #[.pointer (some ⟨p, 0, none⟩)] w fun e w' => ∃ (s : Sn) (vr vm : Value), e = .returned (.agg (snA s vr vm)) ∧ okSn s = true ∧ (∃ lo hi, w.heap.size ≤ lo ∧ hi ≤ w'.heap.size ∧ MemO w' lo hi (memV vr vm s.m.page s.m.screen s.m.locked) s.m) ∧ (∃ n', n' ≤ nn + 6000 ∧ Src w' p a len cap n') ∧ w.grownBy w' (some p) := by
  have hp := hs.lt
  have q := hid (Blk.new w zS 33)
  have hs1 : Hid (Src (w.alloc (.cells zS 33)) p a len cap nn) := hs.kept (r := none) (World.grownBy_alloc _ _ _) (by intro g e; cases e)
  have hg1 : Hid (w.grownBy (w.alloc (.cells zS 33)) (some p)) := World.grownBy_alloc _ _ _
  clear hs
  go_enter Tryz.func13, Tryz.ntmps13
  go_upto_region 1 with fail
  obtain ⟨V, hV⟩ : ∃ V, w.alloc (.cells zS 33) = V := ⟨_, rfl⟩
  have hVs : Hid (V.heap.size = w.heap.size + 1) := by unfold Hid; rw [← hV]; simp
  rw [hV] at q hs1 hg1 ⊢
  clear hV
  rw [zS_eq] at q
  go_wp2_with fail
  refine (cpu_any p a len cap nn V hs1.out (by omega)).mono ?_
  rintro e w1 ⟨c, rfl, hokC, ⟨n1, hn1, hs2⟩, hg2⟩
  have q1 := hid (q.out.grown hg2 (by simp; omega))
  have hg3 := hid (gtr13 hg1.out hg2)
  replace hs2 := hid hs2
  have hz1 : Hid (w.heap.size + 1 ≤ w1.heap.size) := by have h1 := hg2.size; have h2 := hVs.out; unfold Hid; omega
  clear hg2 hg1 q hs1 hVs
  go_wp2_with fail
  refine (memory_any p a len cap n1 w1 hs2.out (by omega)).mono ?_
  rintro e w2 ⟨u, M, rfl, hokM, ⟨lo, hi, hlo, hO⟩, ⟨n2, hn2, hs3⟩, hg4⟩
  obtain ⟨vr, vm, rfl, o1, o2⟩ := memO_form hO
  have hO2 := memO_cap hO
  have q2 := hid (q1.out.grown hg4 (by simp; omega))
  have hg5 := hid (gtr13 hg3.out hg4)
  have hz2 : Hid (w.heap.size + 1 ≤ w2.heap.size) := by have h1 := hg4.size; have h2 := hz1.out; unfold Hid; omega
  replace hs3 := hid hs3
  clear hg4 hg3 q1 hs2 hO
  go_wp2_with fail
  refine (ports_any p a len cap n2 w2 hs3.out (by omega)).mono ?_
  rintro e w3 ⟨po, rfl, hokP, ⟨n3, hn3, hs4⟩, hg6⟩
  have hl1 := hz1.out
  have hl2 := hz2.out
  have hO3 := memO_grown hO2 hg6 (Nat.le_refl _) (by omega)
  have q3 := q2.out.grown hg6 (by simp; omega)
  have hg7 := gtr13 hg5.out hg6
  have hth := hid (blk_there q3 (o := 0) (n := (snA ⟨c, M, po⟩ vr vm).size) (by show 0 + 31 ≤ 31; omega))
  have hso := sn_one ⟨c, M, po⟩ o1 o2
  obtain ⟨wF, hwF⟩ : ∃ X, w3.setCells w.heap.size 0 (snA ⟨c, M, po⟩ vr vm).toList = X := ⟨_, rfl⟩
  have hsF : wF.heap.size = w3.heap.size := by rw [← hwF, size_cells]
  have hkF : ∀ b, b ≠ w.heap.size → wF.heap[b]? = w3.heap[b]? := fun b hb => by rw [← hwF]; exact layE_heap _ _ _ _ hb
  have hRF : Hid (Blk wF w.heap.size (snA ⟨c, M, po⟩ vr vm)) := by
    rw [← hwF]
    have := layE_blk w.heap.size (snA ⟨c, M, po⟩ vr vm).toList _ 0 _ q3
    rw [sn_layA] at this
    exact this
  have hoF : wF.os = w3.os ∧ wF.tape = w3.tape ∧ wF.output = w3.output := by
    have hbl := layE_below (lo := w.heap.size) (b := w.heap.size) (w := w3) (snA ⟨c, M, po⟩ vr vm).toList 0 w3 (Nat.le_refl _) (Below.refl _ _)
    rw [hwF] at hbl
    exact ⟨hbl.os, hbl.tape, hbl.output⟩
  have hgF : w3.grownBy wF (some w.heap.size) := ⟨hoF.1, hoF.2.1, hoF.2.2, by omega, fun b hb hne => hkF b (fun e => hne (by rw [e]))⟩
  have hsz3 := hg6.size
  have hfin : Hid ((∃ lo hi, w.heap.size ≤ lo ∧ hi ≤ wF.heap.size ∧ MemO wF lo hi (memV vr vm M.page M.screen M.locked) M) ∧ (∃ n', n' ≤ nn + 6000 ∧ Src wF p a len cap n') ∧ w.grownBy wF (some p)) := by
    refine ⟨⟨lo, w2.heap.size, by omega, by omega, hO3.kept (fun b h1 h2 => hkF b (by omega))⟩, ⟨n3, by omega, hs4.kept hgF (fun g hg => by cases hg; omega)⟩, ?_⟩
    exact ⟨hgF.os.trans hg7.os, hgF.tape.trans hg7.tape, hgF.output.trans hg7.output, by have := hg7.size; omega, fun b hb hne => (hkF b (by omega)).trans (hg7.block b hb hne)⟩
  have hok : Hid (okSn ⟨c, M, po⟩ = true) := by unfold Hid okSn; rw [hokC, hokM, hokP]; rfl
  replace hwF := hid hwF
  clear hg6 hg7 hgF hoF hkF hsF hs4 hO3 hO2 q3 q2 hg5 hs3 hl1 hl2 hsz3
  go_wp2_with (guard_target = wpList _ _ _ (Oper.mk _ (Op.store _ _ _) _ _ _ _ :: _) _ _; refine wpList_store_mid rfl 33 _ _ rfl w.heap.size 0 (snA ⟨c, M, po⟩ vr vm) rfl rfl hth.out (szS2 _ _ _) hso ?_; rw [hwF.out])
  obtain ⟨tt, htt⟩ := hRF.out
  exact bodyPost_ret (v := .agg (snA ⟨c, M, po⟩ vr vm)) (results_cell_row Tryz.results13 _ _ w.heap.size tt (snA ⟨c, M, po⟩ vr vm) (0, 0) _ rfl htt Tryz.underlying33 rfl (szS2 _ _ _)) rfl ⟨⟨c, M, po⟩, vr, vm, rfl, hok.out, hfin.out⟩
end Go.Proofs.YtghcagibdcblnaaGreatDoor

/- A snapshot is read: two drawn statements of the specification. -/
namespace Go.Proofs.YtghcagibdcblnaaGreatDoor
open Go.ChangeShapes Go.WideShapes Go.ChangeAt Go.RowKit
set_option linter.unusedVariables false
set_option linter.unusedSimpArgs false

end Go.Proofs.YtghcagibdcblnaaGreatDoor

/- errors.Is of errors that errors.New has made: true of the same, false of nil and of another; the world stays as it was. -/
namespace Go.Proofs.YtghcagibdcblnaaGreatDoor
open Go.RowKit Go.Extern.Stop Go.Stop Go.Extern
set_option linter.unusedVariables false

theorem isTypeOf (v : Value) (w : World) : (Extern.ReflectliteType.typeOf #[.iface 171 v]).run Tryz.prog w = .ok (.iface 155 (.agg #[.pointer (some ⟨4, 171, none⟩)])) w := by kernel_rfl
/-- what the model runs for '(rtype).Comparable' -/
def cmpF : Array Value → Sem Value := Extern.ReflectliteType.method fun t => do Extern.Rtype.noPackHeld "Comparable" t; pure (.bool (← typeInfo t).comparable)
theorem isComparable (w : World) : (cmpF #[.agg #[.pointer (some ⟨4, 171, none⟩)]]).run Tryz.prog w = .ok (.bool true) w := by kernel_rfl
theorem isMethodComparable (v : Value) (w : World) : (Go.method 304 155 v "Comparable").run Tryz.prog w = .ok (134, v) w := by kernel_rfl
theorem isComp : (Tryz.prog.info? 171).map (·.comparable) = some true := by kernel_rfl
theorem isSize : (Tryz.prog.info? 193).map (·.size) = some 1 := by kernel_rfl
theorem noIsE (v : Value) (xT : TypeId) (w : World) : (Instr.typeAssert (.iface 171 v) xT 157 true).run Tryz.prog w = .ok (.tuple #[.nilIface, .bool false]) w := run_typeAssert_lacksB Tryz.underlying157 (by kernel_rfl) (by kernel_rfl) v xT w
theorem noUnwrapE (v : Value) (xT : TypeId) (w : World) : (Instr.typeAssert (.iface 171 v) xT 160 true).run Tryz.prog w = .ok (.tuple #[.nilIface, .bool false]) w := run_typeAssert_lacksB Tryz.underlying160 (by kernel_rfl) (by kernel_rfl) v xT w
theorem noUnwrapsE (v : Value) (xT : TypeId) (w : World) : (Instr.typeAssert (.iface 171 v) xT 162 true).run Tryz.prog w = .ok (.tuple #[.nilIface, .bool false]) w := run_typeAssert_lacksB Tryz.underlying162 (by kernel_rfl) (by kernel_rfl) v xT w

theorem is_same (a : Addr) (w : World) :
    Calls Tryz.prog 99 #[.iface 171 (.pointer (some a)), .iface 171 (.pointer (some a))] w fun e w' => e = .returned (.bool true) ∧ w' = w := by
  obtain ⟨i, hi, hcmp⟩ := Option.map_eq_some_iff.1 isComp
  obtain ⟨j, hj, hjs⟩ := Option.map_eq_some_iff.1 isSize
  have h8 := @run_callFunc_extern Tryz.prog 104 _ Extern.ReflectliteType.typeOf Tryz.func104 (by kernel_rfl) (by kernel_rfl) (by kernel_rfl) (by kernel_rfl)
  have h32 := @run_callFunc_extern Tryz.prog 134 _ cmpF Tryz.func134 (by kernel_rfl) (by kernel_rfl) (by kernel_rfl) (by kernel_rfl)
  have tT := isTypeOf
  have cT := isComparable
  have mR := isMethodComparable
  have heq := run_eql_iface_ptr_same (P := Tryz.prog) w a Tryz.underlying75 Tryz.underlying171 hi hcmp hj
  go_enter Tryz.func99, Tryz.ntmps99
  go_wp2
  refine wp_loop_rounds 1 ?_
  rw [rounds_succ]
  go_wp2
  go_ret
  exact ⟨rfl, rfl⟩

theorem is_other (a b : Addr) (ca cb : Array Value) (ta tb : TypeId) (w : World) (hne : a ≠ b) (ha : w.heap[a.block]? = some (.cells ca ta (0, 0))) (hb : w.heap[b.block]? = some (.cells cb tb (0, 0))) :
    Calls Tryz.prog 99 #[.iface 171 (.pointer (some a)), .iface 171 (.pointer (some b))] w fun e w' => e = .returned (.bool false) ∧ w' = w := by
  obtain ⟨i, hi, hcmp⟩ := Option.map_eq_some_iff.1 isComp
  obtain ⟨j, hj, hjs⟩ := Option.map_eq_some_iff.1 isSize
  have h8 := @run_callFunc_extern Tryz.prog 104 _ Extern.ReflectliteType.typeOf Tryz.func104 (by kernel_rfl) (by kernel_rfl) (by kernel_rfl) (by kernel_rfl)
  have h32 := @run_callFunc_extern Tryz.prog 134 _ cmpF Tryz.func134 (by kernel_rfl) (by kernel_rfl) (by kernel_rfl) (by kernel_rfl)
  have tT := isTypeOf
  have cT := isComparable
  have mR := isMethodComparable
  have nE := noIsE
  have uE := noUnwrapE
  have vE := noUnwrapsE
  have heq := run_eql_iface_ptr_other (P := Tryz.prog) w Tryz.underlying75 Tryz.underlying171 hi hcmp hj (by rw [hjs]; decide) hne ha hb
  go_enter Tryz.func99, Tryz.ntmps99
  go_wp2
  refine wp_loop_rounds 1 ?_
  rw [rounds_succ]
  go_wp2
  go_ret
  exact ⟨rfl, rfl⟩
end Go.Proofs.YtghcagibdcblnaaGreatDoor

/- What the takers of a cursor answer, the program's own and the specification's: both are takeV; new blocks at most. -/
namespace Go.Proofs.YtghcagibdcblnaaGreatDoor
open Go.ChangeShapes Go.WideShapes Go.ChangeAt Go.RowKit
set_option linter.unusedVariables false
set_option linter.unusedSimpArgs false

/-- the cursor stands in its data -/
def stB (s : ByteArray) (a : Int) : Bool := decide (s.size ≤ 65536 ∧ 0 ≤ a ∧ a ≤ s.size)
theorem stB_yes {s : ByteArray} {a : Int} (h : stB s a = true) : s.size ≤ 65536 ∧ 0 ≤ a ∧ a ≤ s.size := by simpa [stB] using h
theorem stB_no {s : ByteArray} {a : Int} (h : stB s a = false) : ¬ (s.size ≤ 65536 ∧ 0 ≤ a ∧ a ≤ s.size) := by simpa [stB] using h
abbrev cur (s : ByteArray) (a : Int) : Value := .agg #[.string s, .int .i64 a]

theorem stands_any (s : ByteArray) (a : Int) (w : World) (hs : s.size ≤ maxLen) :
    Calls Tryz.prog 98 #[cur s a] w fun e w' => e = .returned (.bool (stB s a)) ∧ Below w.heap.size w w' := by
  unfold maxLen at hs
  by_cases h1 : s.size ≤ 65536
  · by_cases h2 : 0 ≤ a
    · by_cases h3 : a ≤ s.size
      all_goals
        go_enter Tryz.func98, Tryz.ntmps98
        go_wp2
        go_ret
        exact ⟨ret_bool (by rw [Bool.eq_iff_iff]; simp [stB]; omega), (Below.refl _ _).alloc (Nat.le_refl _) _⟩
    · go_enter Tryz.func98, Tryz.ntmps98
      go_wp2
      go_ret
      exact ⟨ret_bool (by rw [Bool.eq_iff_iff]; simp [stB]; omega), (Below.refl _ _).alloc (Nat.le_refl _) _⟩
  · go_enter Tryz.func98, Tryz.ntmps98
    go_wp2
    go_ret
    exact ⟨ret_bool (by rw [Bool.eq_iff_iff]; simp [stB]; omega), (Below.refl _ _).alloc (Nat.le_refl _) _⟩

/-- the cursor behind what is taken, what is taken, the code -/
def takeV (s : ByteArray) (a n : Int) : (ByteArray × Int) × ByteArray × Int :=
  if stB s a = false then ((ByteArray.empty, 0), ByteArray.empty, 1)
  else if n < 0 ∨ 65536 < n then ((ByteArray.empty, 0), ByteArray.empty, 4)
  else if (s.size : Int) < a + n then ((s, a), ByteArray.empty, 9)
  else ((s, a + n), s.extract a.toNat (a + n).toNat, 0)
def takeT (x : (ByteArray × Int) × ByteArray × Int) : Value := .tuple #[cur x.1.1 x.1.2, .string x.2.1, .int .i64 x.2.2]

/-- the three errors of the cursor, as start-up lays them: three cells that point to three blocks of their own -/
structure Errs (w : World) (e0 e1 e2 : Addr) : Prop where
  c0 : w.cell? ⟨0, 0, none⟩ = some (.iface 171 (.pointer (some e0)))
  c1 : w.cell? ⟨1, 0, none⟩ = some (.iface 171 (.pointer (some e1)))
  c2 : w.cell? ⟨2, 0, none⟩ = some (.iface 171 (.pointer (some e2)))
  n01 : e0 ≠ e1
  n02 : e0 ≠ e2
  n12 : e1 ≠ e2
  b0 : ∃ ca ta, w.heap[e0.block]? = some (.cells ca ta (0, 0))
  b1 : ∃ ca ta, w.heap[e1.block]? = some (.cells ca ta (0, 0))
  b2 : ∃ ca ta, w.heap[e2.block]? = some (.cells ca ta (0, 0))
theorem Errs.below {w w' : World} {e0 e1 e2 : Addr} (h : Errs w e0 e1 e2) (hb : Below w.heap.size w w') : Errs w' e0 e1 e2 := by
  obtain ⟨c0, c1, c2, n01, n02, n12, ⟨x0, t0, b0⟩, ⟨x1, t1, b1⟩, ⟨x2, t2, b2⟩⟩ := h
  refine ⟨?_, ?_, ?_, n01, n02, n12, ⟨x0, t0, ?_⟩, ⟨x1, t1, ?_⟩, ⟨x2, t2, ?_⟩⟩
  · rw [hb.cell (p := ⟨0, 0, none⟩) (World.block_lt_of_cell? w _ c0)]; exact c0
  · rw [hb.cell (p := ⟨1, 0, none⟩) (World.block_lt_of_cell? w _ c1)]; exact c1
  · rw [hb.cell (p := ⟨2, 0, none⟩) (World.block_lt_of_cell? w _ c2)]; exact c2
  · rw [hb.block _ (lt_of_block b0)]; exact b0
  · rw [hb.block _ (lt_of_block b1)]; exact b1
  · rw [hb.block _ (lt_of_block b2)]; exact b2

/-- the error that goes with a code -/
def errV (e0 e1 e2 : Addr) (c : Int) : Value := if c = 0 then .nilIface else if c = 1 then .iface 171 (.pointer (some e0)) else if c = 4 then .iface 171 (.pointer (some e1)) else .iface 171 (.pointer (some e2))
def takeE (e0 e1 e2 : Addr) (x : (ByteArray × Int) × ByteArray × Int) : Value := .tuple #[cur x.1.1 x.1.2, .string x.2.1, errV e0 e1 e2 x.2.2]

theorem takeCode_any (e0 e1 e2 : Addr) (c : Int) (w : World) (hE : Errs w e0 e1 e2) (hc : c = 0 ∨ c = 1 ∨ c = 4 ∨ c = 9) :
    Calls Tryz.prog 87 #[errV e0 e1 e2 c] w fun e w' => e = .returned (.int .i64 c) ∧ w' = w := by
  have g0 := hE.c0
  have g1 := hE.c1
  have g2 := hE.c2
  obtain ⟨x0, t0, b0⟩ := hE.b0
  obtain ⟨x1, t1, b1⟩ := hE.b1
  obtain ⟨x2, t2, b2⟩ := hE.b2
  have n01 := hE.n01
  have n02 := hE.n02
  have n12 := hE.n12
  clear hE
  rcases hc with rfl | rfl | rfl | rfl
  · show Calls _ _ #[.nilIface] _ _
    clear b0 b1 b2
    go_enter Tryz.func87, Tryz.ntmps87
    go_wp2
    go_ret
    exact ⟨rfl, rfl⟩
  · show Calls _ _ #[.iface 171 (.pointer (some e0))] _ _
    go_enter Tryz.func87, Tryz.ntmps87
    go_wp2_with fail
    refine (is_other e0 e2 _ _ _ _ _ n02 b0 b2).mono ?_
    rintro e w1 ⟨rfl, rfl⟩
    go_wp2_with fail
    refine (is_other e0 e1 _ _ _ _ _ n01 b0 b1).mono ?_
    rintro e w1 ⟨rfl, rfl⟩
    go_wp2
    go_ret
    exact ⟨rfl, rfl⟩
  · show Calls _ _ #[.iface 171 (.pointer (some e1))] _ _
    go_enter Tryz.func87, Tryz.ntmps87
    go_wp2_with fail
    refine (is_other e1 e2 _ _ _ _ _ n12 b1 b2).mono ?_
    rintro e w1 ⟨rfl, rfl⟩
    go_wp2_with fail
    refine (is_same e1 _).mono ?_
    rintro e w1 ⟨rfl, rfl⟩
    go_wp2
    go_ret
    exact ⟨rfl, rfl⟩
  · show Calls _ _ #[.iface 171 (.pointer (some e2))] _ _
    go_enter Tryz.func87, Tryz.ntmps87
    go_wp2_with fail
    refine (is_same e2 _).mono ?_
    rintro e w1 ⟨rfl, rfl⟩
    go_wp2
    go_ret
    exact ⟨rfl, rfl⟩
end Go.Proofs.YtghcagibdcblnaaGreatDoor
