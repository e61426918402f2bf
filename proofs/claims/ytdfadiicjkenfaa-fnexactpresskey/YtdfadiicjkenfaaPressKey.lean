/- For all ports, rows, keys and either way the law FnExactPressKey returns true: impl.PressKey answers as spec.PressKey. -/
import Derived.Test.YtdfadiicjkenfaaRows
import Derived.Test.YtdfadiicjkenfaaOa
import Derived.Test.YtdfadiicjkenfaaOb
import Derived.Test.YtdfadiicjkenfaaOd
import Derived.WalkKit
import Derived.ProofKit
import Derived.OpenShut
import Derived.ShutString
import Derived.ChangeOld
import Derived.Below
import Derived.Lib.SmallJoins
namespace Go.Proofs.Ytdfadiicjkenfaa.fnExactPressKey
open Go.ChangeShapes Go.WideShapes Go.ChangeAt Go.RowKit Go.Joins
open Go.ChangeMaps (open_string shut_string)
set_option linter.unusedVariables false

theorem own : ownKnob Try.prog.godebug = none := by kernel_rfl
theorem laidOut : laidOutB Try.prog = true := by kernel_rfl

set_option maxRecDepth 100000 in
set_option maxHeartbeats 4000000 in
theorem walk (c0 : Po) (a1 : Int) (a2 : Int) (a3 : Bool) (w : World) (w1 : (Lit.int .i64 a1).wf = true) (w2 : (Lit.int .i64 a2).wf = true) :
    Calls Try.prog 8 #[poV c0, .int .i64 a1, .int .i64 a2, .bool a3] w fun e w' => e = .returned (.bool true) ∧ Below w.heap.size w w' := by
  obtain ⟨R, k, hR⟩ : ∃ (R : Po) (k : Int), press2 c0 a1 a2 a3 = (R, k) := ⟨_, _, rfl⟩
  have h1 := hid (fun w1 => press_spec c0 a1 a2 a3 w1)
  have h2 := hid (fun w1 => press_impl c0 a1 a2 a3 w1)
  rw [hR] at h1 h2
  clear hR
  have q0 := hid (Blk.new w (poA c0) 39)
  have hb0 := hid ((Below.refl w.heap.size w).alloc (Nat.le_refl _) (.cells (poA c0) 39))
  have x0 := q0.out.cell
  go_enter Try.func8, Try.ntmps8
  go_upto_region 1 with fail
  obtain ⟨V, hV⟩ : ∃ V, w.alloc (Obj.cells (poA c0) 39) = V := ⟨_, rfl⟩
  rw [hV] at q0 hb0 x0 ⊢
  clear hV
  go_wp2_with fail
  refine (topo c0 _).mono ?_
  rintro e w1 ⟨rfl, hb⟩
  have q1 := hid (q0.out.below hb q0.out.lt)
  have hb1 := hid (new_trans hb0.out hb)
  have x1 := q1.out.cell
  clear hb q0 hb0 x0
  go_wp2_with fail
  refine (h1.out _).mono ?_
  rintro e w2 ⟨rfl, hb⟩
  have q2 := hid ((q1.out.below hb q1.out.lt).alloc (.cells (poA R) 26))
  have hb2 := hid ((new_trans hb1.out hb).alloc (new_trans hb1.out hb).size (.cells (poA R) 26))
  have r2 := hid (Blk.new w2 (poA R) 26)
  clear hb q1 hb1 x1
  go_upto_region 2 with fail
  obtain ⟨b2, hB2⟩ : ∃ b2, w2.heap.size = b2 := ⟨_, rfl⟩
  obtain ⟨W2, hW2⟩ : ∃ W2, w2.alloc (.cells (poA R) 26) = W2 := ⟨_, rfl⟩
  rw [hW2] at q2 hb2 r2 ⊢
  rw [hB2] at r2 ⊢
  clear hW2 hB2
  have x2 := q2.out.cell
  go_wp2_with fail
  refine (topo c0 _).mono ?_
  rintro e w3 ⟨rfl, hb⟩
  have hb3 := hid (new_trans hb2.out hb)
  have r3 := hid (r2.out.below hb r2.out.lt)
  clear hb q2 hb2 r2 x2
  go_wp2_with fail
  refine (h2.out _).mono ?_
  rintro e w4 ⟨rfl, hb⟩
  have r4 := hid ((r3.out.below hb r3.out.lt).alloc (.cells (poA R) 26))
  have hb4 := hid ((new_trans hb3.out hb).alloc (new_trans hb3.out hb).size (.cells (poA R) 26))
  have s4 := hid (Blk.new w4 (poA R) 26)
  clear hb r3 hb3
  go_upto_region 3 with fail
  obtain ⟨b4, hB4⟩ : ∃ b4, w4.heap.size = b4 := ⟨_, rfl⟩
  obtain ⟨W4, hW4⟩ : ∃ W4, w4.alloc (.cells (poA R) 26) = W4 := ⟨_, rfl⟩
  rw [hW4] at r4 hb4 s4 ⊢
  rw [hB4] at s4 ⊢
  clear hW4 hB4
  have x4 := r4.out.cell
  have y4 := s4.out.cell
  go_wp2_with fail
  refine (eqp_yes R _).mono ?_
  rintro e w5 ⟨rfl, hb⟩
  have hb5 := hid (new_trans hb4.out hb)
  clear hb r4 s4 hb4 x4 y4
  go_wp2
  go_ret
  exact ⟨rfl, hb5.out⟩

set_option maxRecDepth 100000 in
theorem lifted (os : Os) (started : os.Started) (H : Type) (enc : TypeId × Value → H) :
    ReturnsInHanded {} Try.checked os 8 .any (Rows.fnExactPressKeySpec.pre6 enc Try.prog Try.f8 Rows.fnExactPressKeyRow.domain false) (Rows.fnExactPressKeySpec.post enc Try.prog Try.f8 false true false false) := by
  refine returnsInHanded_of_change (C := Try.checked) own started (by kernel_rfl) Try.func8
    (ChangeSpec.witness6 (enc := enc) (C := Try.checked) false ⟨#[], #[poV zeP, .int .i64 0, .int .i64 0, .bool false], []⟩ 8 (by kernel_rfl) (by kernel_rfl) (by kernel_rfl) (by kernel_rfl)) ?_
  intro W base args ds gs before hval0 hW hcnd _
  have hval : ∀ (j : Nat) t v, Try.f8.params[j]? = some t → args[j]? = some v → Value.okWide Try.prog W .any base t v := hval0
  have hW' := hW
  obtain ⟨p, q, hA0, hV, rfl, hfz, hnd⟩ := hW
  have hA : DataW.TrodAll enc Try.prog W 0 (fun _ => true) true Try.f8.params.toList args.toList ds p := hA0
  rw [Try.params8] at hA hval
  obtain ⟨v0, vs0, d0, ds0, p0, q0, hargs, rfl, rfl, h0, r0⟩ := trodAll_cons hA
  obtain ⟨v1, vs1, d1, ds1, p1, q1, rfl, rfl, rfl, h1, r1⟩ := trodAll_cons r0
  obtain ⟨v2, vs2, d2, ds2, p2, q2, rfl, rfl, rfl, h2, r2⟩ := trodAll_cons r1
  obtain ⟨v3, vs3, d3, ds3, p3, q3, rfl, rfl, rfl, h3, r3⟩ := trodAll_cons r2
  obtain ⟨rfl, rfl, rfl⟩ := trodAll_nil r3
  obtain rfl : args = #[v0, v1, v2, v3] := by cases args; simp_all
  obtain ⟨rfl, rfl⟩ := trodVars_none hV
  have k0 := h0
  have lt0 : ∀ x ∈ p0, x.block < W.heap.size := by obtain ⟨m, hm⟩ := k0; exact DataW.trod_lt m _ _ _ hm
  obtain ⟨c0, rfl⟩ := ports_in (hval 0 39 v0 rfl rfl) h0
  obtain ⟨a1, rfl, rfl, rfl, w1⟩ := open_int Try.underlying3 (hval 1 3 v1 rfl rfl) h1
  obtain ⟨a2, rfl, rfl, rfl, w2⟩ := open_int Try.underlying3 (hval 2 3 v2 rfl rfl) h2
  obtain ⟨a3, rfl, rfl, rfl⟩ := open_bool Try.underlying4 (hval 3 4 v3 rfl rfl) h3
  clear hA0 hval0
  refine (walk c0 a1 a2 a3 W w1 w2).mono fun e W' ⟨he, bel⟩ => ?_
  subst he
  exact ⟨_, rfl, _, _, _, [], _, [], hW', (trodAll_cons_mk (shut_bool Try.underlying4 _) trodAll_mk0), (trodAll_cons_mk (Below.trod laidOut (by kernel_rfl) (of_decide_eq_true (by kernel_rfl)) k0 bel lt0) (trodAll_cons_mk (shut_int Try.underlying3 w1) (trodAll_cons_mk (shut_int Try.underlying3 w2) (trodAll_cons_mk (shut_bool Try.underlying4 a3) trodAll_mk0)))), rfl, bel.frame _, fun h => by cases h⟩

theorem said : Rows.FnExactPressKeySaid :=
  OpenClaim.holds_of_wide 8 Try.f8 rfl rfl rfl rfl rfl rfl rfl ⟨rfl, rfl, rfl, rfl, rfl⟩ rfl rfl rfl rfl rfl (by kernel_rfl) Try.func8 (by kernel_rfl)
    (of_decide_eq_true (by kernel_rfl)) (by unfold Func.isWrapper; first | (rw [if_pos (by decide +kernel)]; kernel_rfl) | (rw [if_neg (by decide +kernel)]; exact ⟨rfl, rfl⟩))
    (fun os started H enc _ => lifted os started H enc)
end Go.Proofs.Ytdfadiicjkenfaa.fnExactPressKey
namespace Go.Proofs.Ytdfadiicjkenfaa
theorem fnExactPressKey_holds : Rows.FnExactPressKeySaid := fnExactPressKey.said
#print axioms fnExactPressKey_holds
end Go.Proofs.Ytdfadiicjkenfaa
