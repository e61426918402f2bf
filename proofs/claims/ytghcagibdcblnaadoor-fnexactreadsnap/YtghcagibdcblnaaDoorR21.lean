/- errors.Is of errors that errors.New has made: true of the same, false of nil and of another; the world stays as it was. -/
import Derived.Test.YtghcagibdcblnaaDoorR00
import Derived.LaidEql
import Derived.Stop.Asserts
import Derived.RowKitTokens
import Derived.Deep.RegionWith
import Derived.Deep.RegionHeld3
import Derived.WalkSpells
import Derived.OneCell
namespace Go.Proofs.YtghcagibdcblnaaDoor
open Go.RowKit Go.Extern.Stop Go.Stop Go.Extern
set_option linter.unusedVariables false

theorem isTypeOf (v : Value) (w : World) : (Extern.ReflectliteType.typeOf #[.iface 140 v]).run Tryd.prog w = .ok (.iface 124 (.agg #[.pointer (some ⟨4, 140, none⟩)])) w := by kernel_rfl
/-- what the model runs for '(rtype).Comparable' -/
def cmpF : Array Value → Sem Value := Extern.ReflectliteType.method fun t => do Extern.Rtype.noPackHeld "Comparable" t; pure (.bool (← typeInfo t).comparable)
theorem isComparable (w : World) : (cmpF #[.agg #[.pointer (some ⟨4, 140, none⟩)]]).run Tryd.prog w = .ok (.bool true) w := by kernel_rfl
theorem isMethodComparable (v : Value) (w : World) : (Go.method 276 124 v "Comparable").run Tryd.prog w = .ok (101, v) w := by kernel_rfl
theorem isComp : (Tryd.prog.info? 140).map (·.comparable) = some true := by kernel_rfl
theorem isSize : (Tryd.prog.info? 164).map (·.size) = some 1 := by kernel_rfl
theorem noIsE (v : Value) (xT : TypeId) (w : World) : (Instr.typeAssert (.iface 140 v) xT 126 true).run Tryd.prog w = .ok (.tuple #[.nilIface, .bool false]) w := run_typeAssert_lacksB Tryd.underlying126 (by kernel_rfl) (by kernel_rfl) v xT w
theorem noUnwrapE (v : Value) (xT : TypeId) (w : World) : (Instr.typeAssert (.iface 140 v) xT 129 true).run Tryd.prog w = .ok (.tuple #[.nilIface, .bool false]) w := run_typeAssert_lacksB Tryd.underlying129 (by kernel_rfl) (by kernel_rfl) v xT w
theorem noUnwrapsE (v : Value) (xT : TypeId) (w : World) : (Instr.typeAssert (.iface 140 v) xT 131 true).run Tryd.prog w = .ok (.tuple #[.nilIface, .bool false]) w := run_typeAssert_lacksB Tryd.underlying131 (by kernel_rfl) (by kernel_rfl) v xT w

theorem is_same (a : Addr) (w : World) :
    Calls Tryd.prog 64 #[.iface 140 (.pointer (some a)), .iface 140 (.pointer (some a))] w fun e w' => e = .returned (.bool true) ∧ w' = w := by
  obtain ⟨i, hi, hcmp⟩ := Option.map_eq_some_iff.1 isComp
  obtain ⟨j, hj, hjs⟩ := Option.map_eq_some_iff.1 isSize
  have h8 := @run_callFunc_extern Tryd.prog 69 _ Extern.ReflectliteType.typeOf Tryd.func69 (by kernel_rfl) (by kernel_rfl) (by kernel_rfl) (by kernel_rfl)
  have h32 := @run_callFunc_extern Tryd.prog 101 _ cmpF Tryd.func101 (by kernel_rfl) (by kernel_rfl) (by kernel_rfl) (by kernel_rfl)
  have tT := isTypeOf
  have cT := isComparable
  have mR := isMethodComparable
  have heq := run_eql_iface_ptr_same (P := Tryd.prog) w a Tryd.underlying93 Tryd.underlying140 hi hcmp hj
  go_enter Tryd.func64, Tryd.ntmps64
  go_wp2
  refine wp_loop_rounds 1 ?_
  rw [rounds_succ]
  go_wp2
  go_ret
  exact ⟨rfl, rfl⟩

theorem is_other (a b : Addr) (ca cb : Array Value) (ta tb : TypeId) (w : World) (hne : a ≠ b) (ha : w.heap[a.block]? = some (.cells ca ta (0, 0))) (hb : w.heap[b.block]? = some (.cells cb tb (0, 0))) :
    Calls Tryd.prog 64 #[.iface 140 (.pointer (some a)), .iface 140 (.pointer (some b))] w fun e w' => e = .returned (.bool false) ∧ w' = w := by
  obtain ⟨i, hi, hcmp⟩ := Option.map_eq_some_iff.1 isComp
  obtain ⟨j, hj, hjs⟩ := Option.map_eq_some_iff.1 isSize
  have h8 := @run_callFunc_extern Tryd.prog 69 _ Extern.ReflectliteType.typeOf Tryd.func69 (by kernel_rfl) (by kernel_rfl) (by kernel_rfl) (by kernel_rfl)
  have h32 := @run_callFunc_extern Tryd.prog 101 _ cmpF Tryd.func101 (by kernel_rfl) (by kernel_rfl) (by kernel_rfl) (by kernel_rfl)
  have tT := isTypeOf
  have cT := isComparable
  have mR := isMethodComparable
  have nE := noIsE
  have uE := noUnwrapE
  have vE := noUnwrapsE
  have heq := run_eql_iface_ptr_other (P := Tryd.prog) w Tryd.underlying93 Tryd.underlying140 hi hcmp hj (by rw [hjs]; decide) hne ha hb
  go_enter Tryd.func64, Tryd.ntmps64
  go_wp2
  refine wp_loop_rounds 1 ?_
  rw [rounds_succ]
  go_wp2
  go_ret
  exact ⟨rfl, rfl⟩
end Go.Proofs.YtghcagibdcblnaaDoor

/- What the takers of a cursor answer, the program's own and the specification's: both are takeV; new blocks at most. -/
namespace Go.Proofs.YtghcagibdcblnaaDoor
open Go.ChangeShapes Go.WideShapes Go.ChangeAt Go.RowKit
set_option linter.unusedVariables false
set_option linter.unusedSimpArgs false

/-- the cursor stands in its data -/
def stB (s : ByteArray) (a : Int) : Bool := decide (s.size ≤ 65536 ∧ 0 ≤ a ∧ a ≤ s.size)
theorem stB_yes {s : ByteArray} {a : Int} (h : stB s a = true) : s.size ≤ 65536 ∧ 0 ≤ a ∧ a ≤ s.size := by simpa [stB] using h
theorem stB_no {s : ByteArray} {a : Int} (h : stB s a = false) : ¬ (s.size ≤ 65536 ∧ 0 ≤ a ∧ a ≤ s.size) := by simpa [stB] using h
abbrev cur (s : ByteArray) (a : Int) : Value := .agg #[.string s, .int .i64 a]

theorem stands_any (s : ByteArray) (a : Int) (w : World) (hs : s.size ≤ maxLen) :
    Calls Tryd.prog 63 #[cur s a] w fun e w' => e = .returned (.bool (stB s a)) ∧ Below w.heap.size w w' := by
  unfold maxLen at hs
  by_cases h1 : s.size ≤ 65536
  · by_cases h2 : 0 ≤ a
    · by_cases h3 : a ≤ s.size
      all_goals
        go_enter Tryd.func63, Tryd.ntmps63
        go_wp2
        go_ret
        exact ⟨ret_bool (by rw [Bool.eq_iff_iff]; simp [stB]; omega), (Below.refl _ _).alloc (Nat.le_refl _) _⟩
    · go_enter Tryd.func63, Tryd.ntmps63
      go_wp2
      go_ret
      exact ⟨ret_bool (by rw [Bool.eq_iff_iff]; simp [stB]; omega), (Below.refl _ _).alloc (Nat.le_refl _) _⟩
  · go_enter Tryd.func63, Tryd.ntmps63
    go_wp2
    go_ret
    exact ⟨ret_bool (by rw [Bool.eq_iff_iff]; simp [stB]; omega), (Below.refl _ _).alloc (Nat.le_refl _) _⟩

theorem cursor_spec (s : ByteArray) (a : Int) (w : World) (hs : s.size ≤ maxLen) :
    Calls Tryd.prog 37 #[cur s a] w fun e w' => e = .returned (.int .i64 (if stB s a then 0 else 1)) ∧ Below w.heap.size w w' := by
  unfold maxLen at hs
  by_cases h1 : 65536 < s.size
  · have e : stB s a = false := by simp [stB]; omega
    rw [e]
    go_enter Tryd.func37, Tryd.ntmps37
    go_wp2
    go_ret
    exact ⟨rfl, (Below.refl _ _).alloc (Nat.le_refl _) _⟩
  · cases hi : inB a 0 (s.size : Int)
    · have e : stB s a = false := by simp [inB] at hi; simp [stB]; omega
      rw [e]
      go_enter Tryd.func37, Tryd.ntmps37
      go_wp2_with (go_at_call 38; refine (in_spec _ _ _ _).mono ?_; rintro e w' ⟨rfl, rfl⟩)
      go_ret
      exact ⟨rfl, (Below.refl _ _).alloc (Nat.le_refl _) _⟩
    · have e : stB s a = true := by simp [inB] at hi; simp [stB]; omega
      rw [e]
      go_enter Tryd.func37, Tryd.ntmps37
      go_wp2_with (go_at_call 38; refine (in_spec _ _ _ _).mono ?_; rintro e w' ⟨rfl, rfl⟩)
      go_ret
      exact ⟨rfl, (Below.refl _ _).alloc (Nat.le_refl _) _⟩
/-- the cursor behind what is taken, what is taken, the code -/
def takeV (s : ByteArray) (a n : Int) : (ByteArray × Int) × ByteArray × Int :=
  if stB s a = false then ((ByteArray.empty, 0), ByteArray.empty, 1)
  else if n < 0 ∨ 65536 < n then ((ByteArray.empty, 0), ByteArray.empty, 4)
  else if (s.size : Int) < a + n then ((s, a), ByteArray.empty, 9)
  else ((s, a + n), s.extract a.toNat (a + n).toNat, 0)
def takeT (x : (ByteArray × Int) × ByteArray × Int) : Value := .tuple #[cur x.1.1 x.1.2, .string x.2.1, .int .i64 x.2.2]

set_option maxRecDepth 100000 in
theorem take_spec (s : ByteArray) (a n : Int) (w : World) (hs : s.size ≤ maxLen) :
    Calls Tryd.prog 21 #[cur s a, .int .i64 n] w fun e w' => e = .returned (takeT (takeV s a n)) ∧ Below w.heap.size w w' := by
  cases hst : stB s a
  · have e : takeV s a n = ((ByteArray.empty, 0), ByteArray.empty, 1) := by unfold takeV; rw [if_pos hst]
    rw [e]
    go_enter Tryd.func21, Tryd.ntmps21
    go_wp2_with fail
    refine (cursor_spec _ _ _ hs).mono ?_
    rintro e w1 ⟨rfl, hb1⟩
    obtain ⟨hc1, hf1⟩ := bcell hb1
    have hz1 := hb1.size
    simp only [World.size_alloc] at hz1
    have HB : Hid (Below _ _ w1) := hb1
    clear hb1
    rw [hst]
    go_wp2
    have B1 : Below w.heap.size w w1 := (((Below.refl _ _).alloc (Nat.le_refl _) _).alloc (by simp) _).trans (HB.out.mono (by simp; omega))
    exact bodyPost_ret (v := takeT ((ByteArray.empty, 0), ByteArray.empty, 1)) (by simp [results, Tryd.results21, go_sem, takeT, hz1, hc1]; rfl) rfl ⟨rfl, by repeat (first | exact B1 | refine Below.setCell ?_ (by simp) _ | refine Below.drew ?_)⟩
  · obtain ⟨hs1, ha0, ha1⟩ := stB_yes hst
    by_cases hn : n < 0 ∨ 65536 < n
    · have e : takeV s a n = ((ByteArray.empty, 0), ByteArray.empty, 4) := by unfold takeV; rw [if_neg (by rw [hst]; simp), if_pos hn]
      have hi : inB n 0 65536 = false := in_no (by omega)
      rw [e]
      go_enter Tryd.func21, Tryd.ntmps21
      go_wp2_with fail
      refine (cursor_spec _ _ _ hs).mono ?_
      rintro e w1 ⟨rfl, hb1⟩
      obtain ⟨hc1, hf1⟩ := bcell hb1
      have hz1 := hb1.size
      simp only [World.size_alloc] at hz1
      have HB : Hid (Below _ _ w1) := hb1
      clear hb1 hn
      rw [hst]
      go_wp2_with (go_at_call 38; refine (in_spec _ _ _ _).mono ?_; rintro e w' ⟨rfl, rfl⟩)
      have B1 : Below w.heap.size w _ := (((Below.refl _ _).alloc (Nat.le_refl _) _).alloc (by simp) _).trans (HB.out.mono (by simp; omega))
      exact bodyPost_ret (v := takeT ((ByteArray.empty, 0), ByteArray.empty, 4)) (by simp [results, Tryd.results21, go_sem, takeT, hz1, hc1]; rfl) rfl ⟨rfl, by repeat (first | exact B1 | refine Below.setCell ?_ (by simp) _ | refine Below.drew ?_)⟩
    · have hi : inB n 0 65536 = true := in_yes (by omega) (by omega)
      by_cases hlt : (s.size : Int) < a + n
      · have e : takeV s a n = ((s, a), ByteArray.empty, 9) := by unfold takeV; rw [if_neg (by rw [hst]; simp), if_neg hn, if_pos hlt]
        rw [e]
        have hlt2 : (s.size : Int) - a < n := by omega
        go_enter Tryd.func21, Tryd.ntmps21
        go_wp2_with fail
        refine (cursor_spec _ _ _ hs).mono ?_
        rintro e w1 ⟨rfl, hb1⟩
        obtain ⟨hc1, hf1⟩ := bcell hb1
        have hz1 := hb1.size
        simp only [World.size_alloc] at hz1
        have HB : Hid (Below _ _ w1) := hb1
        clear hb1
        rw [hst]
        go_wp2_with (go_at_call 38; refine (in_spec _ _ _ _).mono ?_; rintro e w' ⟨rfl, rfl⟩)
        have B1 : Below w.heap.size w _ := (((Below.refl _ _).alloc (Nat.le_refl _) _).alloc (by simp) _).trans (HB.out.mono (by simp; omega))
        exact bodyPost_ret (v := takeT ((s, a), ByteArray.empty, 9)) (by simp [results, Tryd.results21, go_sem, takeT, hz1, hc1]; rfl) rfl ⟨rfl, by repeat (first | exact B1 | refine Below.setCell ?_ (by simp) _ | refine Below.drew ?_)⟩
      · have e : takeV s a n = ((s, a + n), s.extract a.toNat (a + n).toNat, 0) := by unfold takeV; rw [if_neg (by rw [hst]; simp), if_neg hn, if_neg hlt]
        rw [e]
        have hlt2 : n ≤ (s.size : Int) - a := by omega
        have hlt3 : a + n ≤ (s.size : Int) := by omega
        have hn0 : 0 ≤ n := by omega
        go_enter Tryd.func21, Tryd.ntmps21
        go_wp2_with fail
        refine (cursor_spec _ _ _ hs).mono ?_
        rintro e w1 ⟨rfl, hb1⟩
        obtain ⟨hc1, hf1⟩ := bcell hb1
        have hz1 := hb1.size
        simp only [World.size_alloc] at hz1
        have HB : Hid (Below _ _ w1) := hb1
        clear hb1
        rw [hst]
        go_wp2_with (go_at_call 38; refine (in_spec _ _ _ _).mono ?_; rintro e w' ⟨rfl, rfl⟩)
        go_region
        go_wp2
        have B1 : Below w.heap.size w _ := (((Below.refl _ _).alloc (Nat.le_refl _) _).alloc (by simp) _).trans (HB.out.mono (by simp; omega))
        exact bodyPost_ret (v := takeT ((s, a + n), s.extract a.toNat (a + n).toNat, 0)) (by simp [results, Tryd.results21, go_sem, takeT, hz1, hc1]) rfl ⟨rfl, by repeat (first | exact B1 | refine Below.setCell ?_ (by simp) _ | refine Below.drew ?_)⟩
/-- the three errors of the cursor, as start-up lays them: three cells that point to three blocks of their own -/
structure Errs (w : World) (e0 e1 e2 : Addr) : Prop where
  c0 : w.cell? ⟨0, 0, none⟩ = some (.iface 140 (.pointer (some e0)))
  c1 : w.cell? ⟨1, 0, none⟩ = some (.iface 140 (.pointer (some e1)))
  c2 : w.cell? ⟨2, 0, none⟩ = some (.iface 140 (.pointer (some e2)))
  n01 : e0 ≠ e1
  n02 : e0 ≠ e2
  n12 : e1 ≠ e2
  b0 : ∃ ca ta, w.heap[e0.block]? = some (.cells ca ta (0, 0))
  b1 : ∃ ca ta, w.heap[e1.block]? = some (.cells ca ta (0, 0))
  b2 : ∃ ca ta, w.heap[e2.block]? = some (.cells ca ta (0, 0))
theorem Errs.below {w w' : World} {e0 e1 e2 : Addr} (h : Errs w e0 e1 e2) (hb : Below w.heap.size w w') : Errs w' e0 e1 e2 := by
  obtain ⟨c0, c1, c2, n01, n02, n12, ⟨x0, t0, b0⟩, ⟨x1, t1, b1⟩, ⟨x2, t2, b2⟩⟩ := h
  refine ⟨?_, ?_, ?_, n01, n02, n12, ⟨x0, t0, ?_⟩, ⟨x1, t1, ?_⟩, ⟨x2, t2, ?_⟩⟩
  · rw [hb.cell (p := ⟨0, 0, none⟩) (World.block_lt_of_cell? w _ c0)]; exact c0
  · rw [hb.cell (p := ⟨1, 0, none⟩) (World.block_lt_of_cell? w _ c1)]; exact c1
  · rw [hb.cell (p := ⟨2, 0, none⟩) (World.block_lt_of_cell? w _ c2)]; exact c2
  · rw [hb.block _ (lt_of_block b0)]; exact b0
  · rw [hb.block _ (lt_of_block b1)]; exact b1
  · rw [hb.block _ (lt_of_block b2)]; exact b2

/-- the error that goes with a code -/
def errV (e0 e1 e2 : Addr) (c : Int) : Value := if c = 0 then .nilIface else if c = 1 then .iface 140 (.pointer (some e0)) else if c = 4 then .iface 140 (.pointer (some e1)) else .iface 140 (.pointer (some e2))
def takeE (e0 e1 e2 : Addr) (x : (ByteArray × Int) × ByteArray × Int) : Value := .tuple #[cur x.1.1 x.1.2, .string x.2.1, errV e0 e1 e2 x.2.2]

theorem takeCode_any (e0 e1 e2 : Addr) (c : Int) (w : World) (hE : Errs w e0 e1 e2) (hc : c = 0 ∨ c = 1 ∨ c = 4 ∨ c = 9) :
    Calls Tryd.prog 54 #[errV e0 e1 e2 c] w fun e w' => e = .returned (.int .i64 c) ∧ w' = w := by
  have g0 := hE.c0
  have g1 := hE.c1
  have g2 := hE.c2
  obtain ⟨x0, t0, b0⟩ := hE.b0
  obtain ⟨x1, t1, b1⟩ := hE.b1
  obtain ⟨x2, t2, b2⟩ := hE.b2
  have n01 := hE.n01
  have n02 := hE.n02
  have n12 := hE.n12
  clear hE
  rcases hc with rfl | rfl | rfl | rfl
  · show Calls _ _ #[.nilIface] _ _
    clear b0 b1 b2
    go_enter Tryd.func54, Tryd.ntmps54
    go_wp2
    go_ret
    exact ⟨rfl, rfl⟩
  · show Calls _ _ #[.iface 140 (.pointer (some e0))] _ _
    go_enter Tryd.func54, Tryd.ntmps54
    go_wp2_with fail
    refine (is_other e0 e2 _ _ _ _ _ n02 b0 b2).mono ?_
    rintro e w1 ⟨rfl, rfl⟩
    go_wp2_with fail
    refine (is_other e0 e1 _ _ _ _ _ n01 b0 b1).mono ?_
    rintro e w1 ⟨rfl, rfl⟩
    go_wp2
    go_ret
    exact ⟨rfl, rfl⟩
  · show Calls _ _ #[.iface 140 (.pointer (some e1))] _ _
    go_enter Tryd.func54, Tryd.ntmps54
    go_wp2_with fail
    refine (is_other e1 e2 _ _ _ _ _ n12 b1 b2).mono ?_
    rintro e w1 ⟨rfl, rfl⟩
    go_wp2_with fail
    refine (is_same e1 _).mono ?_
    rintro e w1 ⟨rfl, rfl⟩
    go_wp2
    go_ret
    exact ⟨rfl, rfl⟩
  · show Calls _ _ #[.iface 140 (.pointer (some e2))] _ _
    go_enter Tryd.func54, Tryd.ntmps54
    go_wp2_with fail
    refine (is_same e2 _).mono ?_
    rintro e w1 ⟨rfl, rfl⟩
    go_wp2
    go_ret
    exact ⟨rfl, rfl⟩
end Go.Proofs.YtghcagibdcblnaaDoor
