/- For every act the law FnExactActOK returns true: impl.ActOK answers as spec.ActOK. -/
import Derived.Test.YtacghkidpbflkacRows
import Derived.Test.YtacghkidpbflkacWba
import Derived.Test.YtacghkidpbflkacWbb
import Derived.WalkKit
import Derived.ProofKit
import Derived.OpenShut
import Derived.ShutString
import Derived.ChangeOld
import Derived.Below
import Derived.Lib.SmallJoins
namespace Go.Proofs.Ytacghkidpbflkac.fnExactActOK
open Go.ChangeShapes Go.WideShapes Go.ChangeAt Go.RowKit Go.Joins
open Go.ChangeMaps (open_string shut_string)
set_option linter.unusedVariables false

theorem own : ownKnob Try.prog.godebug = none := by kernel_rfl
theorem laidOut : laidOutB Try.prog = true := by kernel_rfl

set_option maxRecDepth 100000 in
set_option maxHeartbeats 4000000 in
theorem walk (f0 f1 f2 : Int) (f3 : Bool) (w : World)  :
    Calls Try.prog 3 #[acV f0 f1 f2 f3] w fun e w' => e = .returned (.bool true) ∧ Below w.heap.size w w' := by
  have hB := hid ((Below.refl w.heap.size w).alloc (Nat.le_refl _) (.cells (acA f0 f1 f2 f3) 23))
  have hSp := hid (fun W => actok_spec f0 f1 f2 f3 W)
  have hIm := hid (fun W => actok_impl f0 f1 f2 f3 W)
  generalize okAc f0 f1 f2 f3 = b at *
  have q0 := hid (Blk.new w (acA f0 f1 f2 f3) 23)
  have x0 := q0.out.cell
  go_enter Try.func3, Try.ntmps3
  go_upto_region 1 with fail
  obtain ⟨V, hV⟩ : ∃ V, w.alloc (Obj.cells (acA f0 f1 f2 f3) 23) = V := ⟨_, rfl⟩
  rw [hV] at q0 hB x0 ⊢
  clear hV
  go_wp2_with fail
  refine (toac f0 f1 f2 f3 _).mono ?_
  rintro e w1 ⟨rfl, hb⟩
  have q1 := hid (q0.out.below hb q0.out.lt)
  have hB1 := hid (new_trans hB.out hb)
  have x1 := q1.out.cell
  clear hb q0 hB x0
  go_wp2_with fail
  refine (hSp.out _).mono ?_
  rintro e w2 ⟨rfl, hb⟩
  have q2 := hid (q1.out.below hb q1.out.lt)
  have hB2 := hid (new_trans hB1.out hb)
  have x2 := q2.out.cell
  clear hb q1 hB1 x1 hSp
  go_wp2_with fail
  refine (toac f0 f1 f2 f3 _).mono ?_
  rintro e w3 ⟨rfl, hb⟩
  have hB3 := hid (new_trans hB2.out hb)
  clear hb q2 hB2 x2
  go_wp2_with fail
  refine (hIm.out _).mono ?_
  rintro e w4 ⟨rfl, hb⟩
  have hB4 := hid (new_trans hB3.out hb)
  clear hb hB3 hIm
  go_wp2
  go_ret
  exact ⟨rfl, hB4.out⟩

set_option maxRecDepth 100000 in
theorem lifted (os : Os) (started : os.Started) (H : Type) (enc : TypeId × Value → H) :
    ReturnsInHanded {} Try.checked os 3 .any (Rows.fnExactActOKSpec.pre6 enc Try.prog Try.f3 Rows.fnExactActOKRow.domain false) (Rows.fnExactActOKSpec.post enc Try.prog Try.f3 false true false false) := by
  refine returnsInHanded_of_change (C := Try.checked) own started (by kernel_rfl) Try.func3
    (ChangeSpec.witness6 (enc := enc) (C := Try.checked) false ⟨#[], #[.agg #[.int .i64 0, .int .i64 0, .int .i64 0, .bool false]], []⟩ 8 (by kernel_rfl) (by kernel_rfl) (by kernel_rfl) (by kernel_rfl)) ?_
  intro W base args ds gs before hval0 hW hcnd _
  have hval : ∀ (j : Nat) t v, Try.f3.params[j]? = some t → args[j]? = some v → Value.okWide Try.prog W .any base t v := hval0
  have hW' := hW
  obtain ⟨p, q, hA0, hV, rfl, hfz, hnd⟩ := hW
  have hA : DataW.TrodAll enc Try.prog W 0 (fun _ => true) true Try.f3.params.toList args.toList ds p := hA0
  rw [Try.params3] at hA hval
  obtain ⟨v0, vs0, d0, ds0, p0, q0, hargs, rfl, rfl, h0, r0⟩ := trodAll_cons hA
  obtain ⟨rfl, rfl, rfl⟩ := trodAll_nil r0
  obtain rfl : args = #[v0] := by cases args; simp_all
  obtain ⟨rfl, rfl⟩ := trodVars_none hV
  have k0 := h0
  have lt0 : ∀ x ∈ p0, x.block < W.heap.size := by obtain ⟨m, hm⟩ := k0; exact DataW.trod_lt m _ _ _ hm
  obtain ⟨c0, c1, c2, c3, y0, y1, y2, y3, m, rfl, rfl, rfl, hy0, hy1, hy2, hy3⟩ := open_agg4 Try.underlying23 (by kernel_rfl) (by kernel_rfl) (hval 0 23 v0 rfl rfl) h0
  obtain ⟨f0, i0, rfl, _⟩ := DataW.trod_int Try.underlying3 hy0
  obtain ⟨f1, i1, rfl, _⟩ := DataW.trod_int Try.underlying3 hy1
  obtain ⟨f2, i2, rfl, _⟩ := DataW.trod_int Try.underlying3 hy2
  obtain ⟨f3, i3, rfl⟩ := DataW.trod_bool Try.underlying4 hy3
  simp at i0 i1 i2 i3
  subst i0 i1 i2 i3
  clear hA0 hval0
  refine (walk f0 f1 f2 f3 W ).mono fun e W' ⟨he, bel⟩ => ?_
  subst he
  exact ⟨_, rfl, _, _, _, [], _, [], hW', (trodAll_cons_mk (shut_bool Try.underlying4 _) trodAll_mk0), (trodAll_cons_mk (Below.trod laidOut (by kernel_rfl) (of_decide_eq_true (by kernel_rfl)) k0 bel lt0) trodAll_mk0), rfl, bel.frame _, fun h => by cases h⟩

theorem said : Rows.FnExactActOKSaid :=
  OpenClaim.holds_of_wide 3 Try.f3 rfl rfl rfl rfl rfl rfl rfl ⟨rfl, rfl, rfl, rfl, rfl⟩ rfl rfl rfl rfl rfl (by kernel_rfl) Try.func3 (by kernel_rfl)
    (of_decide_eq_true (by kernel_rfl)) (by unfold Func.isWrapper; first | (rw [if_pos (by decide +kernel)]; kernel_rfl) | (rw [if_neg (by decide +kernel)]; exact ⟨rfl, rfl⟩))
    (fun os started H enc _ => lifted os started H enc)
end Go.Proofs.Ytacghkidpbflkac.fnExactActOK
namespace Go.Proofs.Ytacghkidpbflkac
theorem fnExactActOK_holds : Rows.FnExactActOKSaid := fnExactActOK.said
#print axioms fnExactActOK_holds
end Go.Proofs.Ytacghkidpbflkac
