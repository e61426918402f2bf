/- A block out of its bytes: the specification. -/
import Derived.Test.YtakdhmlegickmaaDoorUbv
import Derived.BigRegion
import Derived.Test.YtakdhmlegickmaaDoorBasev
import Derived.LaidEql
import Derived.Stop.Asserts
import Derived.RowKitTokens
namespace Go.Proofs.YtakdhmlegickmaaDoor
open Go.ChangeShapes Go.WideShapes Go.ChangeAt Go.RowKit
set_option linter.unusedVariables false
set_option linter.unusedSimpArgs false

/-- flag, data, code -/
def ofB (t : ByteArray) : (Int × ByteArray) × Int :=
  if t.size < 2 ∨ 42 < t.size then ((0, ByteArray.empty), 8)
  else if xorN t t.size ≠ 0 then ((0, ByteArray.empty), 10)
  else ((byt t 0, t.extract 1 (t.size - 1)), 0)
abbrev ofT (x : (Int × ByteArray) × Int) : Value := .tuple #[bkV x.1.1 x.1.2, .int .i64 x.2]
set_option maxRecDepth 100000 in
theorem bkof_spec (t : ByteArray) (w : World) (ht : t.size ≤ maxLen) : Calls Tryd.prog 78 #[.string t] w fun e w' => e = .returned (ofT (ofB t)) ∧ Below w.heap.size w w' := by
  unfold maxLen at ht
  have hB : Hid (∀ o, Below w.heap.size w (w.alloc o)) := fun o => (Below.refl _ _).alloc (Nat.le_refl _) o
  have hq := Blk.new w (bkA 0 ByteArray.empty) 33
  have x0 := hq.cell
  have f0 := hq.frozen
  have l0 := hq.lt
  by_cases h1 : t.size < 2
  · have e : ofB t = ((0, ByteArray.empty), 8) := if_pos (.inl h1)
    rw [e]
    go_enter Tryd.func78, Tryd.ntmps78
    go_wp2
    exact bodyPost_ret (v := ofT ((0, ByteArray.empty), 8)) (by simp [results, Tryd.results78, go_sem]; try rfl) rfl ⟨rfl, by repeat (first | exact hB.out _ | refine Below.setCell ?_ (by first | omega | (simp; omega) | simp) _)⟩
  · by_cases h2 : 42 < t.size
    · have e : ofB t = ((0, ByteArray.empty), 8) := if_pos (.inr h2)
      rw [e]
      go_enter Tryd.func78, Tryd.ntmps78
      go_wp2
      exact bodyPost_ret (v := ofT ((0, ByteArray.empty), 8)) (by simp [results, Tryd.results78, go_sem]; try rfl) rfl ⟨rfl, by repeat (first | exact hB.out _ | refine Below.setCell ?_ (by first | omega | (simp; omega) | simp) _)⟩
    · have hX := hid (fun w1 => xor_spec t w1 (by unfold maxLen; omega))
      by_cases h3 : xorN t t.size ≠ 0
      · have e : ofB t = ((0, ByteArray.empty), 10) := by unfold ofB; rw [if_neg (by omega), if_pos h3]
        rw [e]
        have h3b : (xorN t t.size == 0) = false := by simpa using h3
        generalize xorN t t.size = X at *
        clear e
        go_enter Tryd.func78, Tryd.ntmps78
        go_wp2_with (go_at_call 92; refine (hX.out _).mono ?_; rintro e w' ⟨rfl, hww⟩; obtain rfl := hww.symm)
        exact bodyPost_ret (v := ofT ((0, ByteArray.empty), 10)) (by simp [results, Tryd.results78, go_sem]; try rfl) rfl ⟨rfl, by repeat (first | exact hB.out _ | refine Below.setCell ?_ (by first | omega | (simp; omega) | simp) _)⟩
      · have e : ofB t = ((byt t 0, t.extract 1 (t.size - 1)), 0) := by unfold ofB; rw [if_neg (by omega), if_neg h3]
        rw [e]
        have h3b : xorN t t.size = 0 := Decidable.not_not.1 h3
        rw [h3b] at hX
        clear e h3 h3b
        have hx0 := run_idx t 0 0 rfl (by omega)
        have hb0 := byt_bd t 0
        obtain ⟨n, hn⟩ : ∃ n : Nat, t.size = n + 1 := ⟨t.size - 1, by omega⟩
        have hn2 : t.size - 1 = n := by omega
        rw [hn2]
        have hn3 : (t.size : Int) - 1 = (n : Int) := by omega
        have hn4 : 1 ≤ n := by omega
        have hn5 : n ≤ t.size := by omega
        have hn6 : (1 : Int) ≤ (n : Int) := by omega
        have hn7 : (n : Int) ≤ (t.size : Int) := by omega
        have hn8 : (0 : Int) ≤ (n : Int) := by omega
        clear hn hn2
        go_enter Tryd.func78, Tryd.ntmps78
        go_wp2_with (go_at_call 92; refine (hX.out _).mono ?_; rintro e w' ⟨rfl, hww⟩; obtain rfl := hww.symm)

        go_region
        go_wp2
        exact bodyPost_ret (v := ofT ((byt t 0, t.extract 1 n), 0)) (by simp [results, Tryd.results78, go_sem]; try rfl) rfl ⟨rfl, by repeat (first | exact hB.out _ | refine Below.drew ?_ | refine Below.setCell ?_ (by first | omega | (simp; omega) | simp) _)⟩
end Go.Proofs.YtakdhmlegickmaaDoor

/- errors.Is of errors that errors.New has made: true of the same, false of nil and of another; the world stays as it was. -/
namespace Go.Proofs.YtakdhmlegickmaaDoor
open Go.RowKit Go.Extern.Stop Go.Stop Go.Extern
set_option linter.unusedVariables false

theorem isTypeOf (v : Value) (w : World) : (Extern.ReflectliteType.typeOf #[.iface 138 v]).run Tryd.prog w = .ok (.iface 126 (.agg #[.pointer (some ⟨10, 138, none⟩)])) w := by kernel_rfl
/-- what the model runs for '(rtype).Comparable' -/
def cmpF : Array Value → Sem Value := Extern.ReflectliteType.method fun t => do Extern.Rtype.noPackHeld "Comparable" t; pure (.bool (← typeInfo t).comparable)
theorem isComparable (w : World) : (cmpF #[.agg #[.pointer (some ⟨10, 138, none⟩)]]).run Tryd.prog w = .ok (.bool true) w := by kernel_rfl
theorem isMethodComparable (v : Value) (w : World) : (Go.method 272 126 v "Comparable").run Tryd.prog w = .ok (116, v) w := by kernel_rfl
theorem isComp : (Tryd.prog.info? 138).map (·.comparable) = some true := by kernel_rfl
theorem isSize : (Tryd.prog.info? 161).map (·.size) = some 1 := by kernel_rfl
theorem noIsE (v : Value) (xT : TypeId) (w : World) : (Instr.typeAssert (.iface 138 v) xT 128 true).run Tryd.prog w = .ok (.tuple #[.nilIface, .bool false]) w := run_typeAssert_lacksB Tryd.underlying128 (by kernel_rfl) (by kernel_rfl) v xT w
theorem noUnwrapE (v : Value) (xT : TypeId) (w : World) : (Instr.typeAssert (.iface 138 v) xT 131 true).run Tryd.prog w = .ok (.tuple #[.nilIface, .bool false]) w := run_typeAssert_lacksB Tryd.underlying131 (by kernel_rfl) (by kernel_rfl) v xT w
theorem noUnwrapsE (v : Value) (xT : TypeId) (w : World) : (Instr.typeAssert (.iface 138 v) xT 133 true).run Tryd.prog w = .ok (.tuple #[.nilIface, .bool false]) w := run_typeAssert_lacksB Tryd.underlying133 (by kernel_rfl) (by kernel_rfl) v xT w

theorem is_same (a : Addr) (w : World) :
    Calls Tryd.prog 60 #[.iface 138 (.pointer (some a)), .iface 138 (.pointer (some a))] w fun e w' => e = .returned (.bool true) ∧ w' = w := by
  obtain ⟨i, hi, hcmp⟩ := Option.map_eq_some_iff.1 isComp
  obtain ⟨j, hj, hjs⟩ := Option.map_eq_some_iff.1 isSize
  have h8 := @run_callFunc_extern Tryd.prog 82 _ Extern.ReflectliteType.typeOf Tryd.func82 (by kernel_rfl) (by kernel_rfl) (by kernel_rfl) (by kernel_rfl)
  have h32 := @run_callFunc_extern Tryd.prog 116 _ cmpF Tryd.func116 (by kernel_rfl) (by kernel_rfl) (by kernel_rfl) (by kernel_rfl)
  have tT := isTypeOf
  have cT := isComparable
  have mR := isMethodComparable
  have heq := run_eql_iface_ptr_same (P := Tryd.prog) w a Tryd.underlying60 Tryd.underlying138 hi hcmp hj
  go_enter Tryd.func60, Tryd.ntmps60
  go_wp2
  refine wp_loop_rounds 1 ?_
  rw [rounds_succ]
  go_wp2
  go_ret
  exact ⟨rfl, rfl⟩

theorem is_other (a b : Addr) (ca cb : Array Value) (ta tb : TypeId) (w : World) (hne : a ≠ b) (ha : w.heap[a.block]? = some (.cells ca ta (0, 0))) (hb : w.heap[b.block]? = some (.cells cb tb (0, 0))) :
    Calls Tryd.prog 60 #[.iface 138 (.pointer (some a)), .iface 138 (.pointer (some b))] w fun e w' => e = .returned (.bool false) ∧ w' = w := by
  obtain ⟨i, hi, hcmp⟩ := Option.map_eq_some_iff.1 isComp
  obtain ⟨j, hj, hjs⟩ := Option.map_eq_some_iff.1 isSize
  have h8 := @run_callFunc_extern Tryd.prog 82 _ Extern.ReflectliteType.typeOf Tryd.func82 (by kernel_rfl) (by kernel_rfl) (by kernel_rfl) (by kernel_rfl)
  have h32 := @run_callFunc_extern Tryd.prog 116 _ cmpF Tryd.func116 (by kernel_rfl) (by kernel_rfl) (by kernel_rfl) (by kernel_rfl)
  have tT := isTypeOf
  have cT := isComparable
  have mR := isMethodComparable
  have nE := noIsE
  have uE := noUnwrapE
  have vE := noUnwrapsE
  have heq := run_eql_iface_ptr_other (P := Tryd.prog) w Tryd.underlying60 Tryd.underlying138 hi hcmp hj (by rw [hjs]; decide) hne ha hb
  go_enter Tryd.func60, Tryd.ntmps60
  go_wp2
  refine wp_loop_rounds 1 ?_
  rw [rounds_succ]
  go_wp2
  go_ret
  exact ⟨rfl, rfl⟩
end Go.Proofs.YtakdhmlegickmaaDoor
