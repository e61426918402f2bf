/- For every block the law FnExactBlockText returns true: impl.BlockText answers as spec.BlockText. -/
import Derived.Test.YthffhfafnohndaaRows
import Derived.Test.YthffhfafnohndaaUa
import Derived.Test.YthffhfafnohndaaUb
import Derived.Test.YthffhfafnohndaaZa
import Derived.Test.YthffhfafnohndaaZh
import Derived.WalkKit
import Derived.ProofKit
import Derived.OpenShut
import Derived.ShutString
import Derived.ChangeOld
import Derived.Below
import Derived.Lib.SmallJoins
namespace Go.Proofs.Ythffhfafnohndaa.fnExactBlockText
open Go.ChangeShapes Go.WideShapes Go.ChangeAt Go.RowKit Go.Joins
open Go.ChangeMaps (open_string shut_string)
set_option linter.unusedVariables false

theorem own : ownKnob Try.prog.godebug = none := by kernel_rfl
theorem laidOut : laidOutB Try.prog = true := by kernel_rfl

set_option maxRecDepth 100000 in
set_option maxHeartbeats 4000000 in
theorem walk (f0 : Int) (s0 : ByteArray) (w : World) (w0 : s0.size ≤ maxLen) :
    Calls Try.prog 5 #[bkV f0 s0] w fun e w' => e = .returned (.bool true) ∧ Below w.heap.size w w' := by
  have hSp := hid (fun W => bktextof_spec f0 s0 W w0)
  have hIm := hid (fun W => textofP_impl f0 s0 W w0)
  generalize (txtB2 f0 s0).1 = a at *
  generalize (txtB2 f0 s0).2 = b at *
  have q0 := hid (Blk.new w (bkA f0 s0) 23)
  have hb0 := hid ((Below.refl w.heap.size w).alloc (Nat.le_refl _) (.cells (bkA f0 s0) 23))
  have x0 := q0.out.cell
  go_enter Try.func5, Try.ntmps5
  go_upto_region 1 with fail
  obtain ⟨V, hV⟩ : ∃ V, w.alloc (Obj.cells (bkA f0 s0) 23) = V := ⟨_, rfl⟩
  rw [hV] at q0 hb0 x0 ⊢
  clear hV
  go_wp2_with fail
  refine (szbk f0 s0 _ _ w0 (by omega) (by omega)).mono ?_
  rintro e w1 ⟨rfl, hb⟩
  obtain ⟨z, hz⟩ : ∃ z, szB s0 1048576 = z := ⟨_, rfl⟩
  rw [hz]
  clear hz
  have q1 := hid (q0.out.below hb q0.out.lt)
  have hb1 := hid (new_trans hb0.out hb)
  have x1 := q1.out.cell
  clear hb q0 hb0 x0
  by_cases hz : z < 0
  · go_wp2
    go_ret
    exact ⟨rfl, hb1.out⟩
  go_wp2_with fail
  refine (tobk f0 s0 _).mono ?_
  rintro e w2 ⟨rfl, hb⟩
  have q2 := hid (q1.out.below hb q1.out.lt)
  have hb2 := hid (new_trans hb1.out hb)
  clear hb q1 hb1 x1
  go_wp2_with fail
  refine (hSp.out _).mono ?_
  rintro e w3 ⟨rfl, hb⟩
  have q3 := hid (q2.out.below hb q2.out.lt)
  have hb3 := hid (new_trans hb2.out hb)
  have x3 := q3.out.cell
  clear hb q2 hb2
  go_wp2_with fail
  refine (tobk f0 s0 _).mono ?_
  rintro e w4 ⟨rfl, hb⟩
  have hb4 := hid (new_trans hb3.out hb)
  clear hb q3 hb3 x3
  go_wp2_with fail
  refine (hIm.out _).mono ?_
  rintro e w5 ⟨rfl, hb⟩
  have hb5 := hid (new_trans hb4.out hb)
  clear hb hb4
  go_wp2
  go_ret
  exact ⟨rfl, hb5.out⟩

set_option maxRecDepth 100000 in
theorem lifted (os : Os) (started : os.Started) (H : Type) (enc : TypeId × Value → H) :
    ReturnsInHanded {} Try.checked os 5 .any (Rows.fnExactBlockTextSpec.pre6 enc Try.prog Try.f5 Rows.fnExactBlockTextRow.domain false) (Rows.fnExactBlockTextSpec.post enc Try.prog Try.f5 false true false false) := by
  refine returnsInHanded_of_change (C := Try.checked) own started (by kernel_rfl) Try.func5
    (ChangeSpec.witness6 (enc := enc) (C := Try.checked) false ⟨#[], #[.agg #[.int .i64 0, .string ByteArray.empty]], []⟩ 8 (by kernel_rfl) (by kernel_rfl) (by kernel_rfl) (by kernel_rfl)) ?_
  intro W base args ds gs before hval0 hW hcnd _
  have hval : ∀ (j : Nat) t v, Try.f5.params[j]? = some t → args[j]? = some v → Value.okWide Try.prog W .any base t v := hval0
  have hW' := hW
  obtain ⟨p, q, hA0, hV, rfl, hfz, hnd⟩ := hW
  have hA : DataW.TrodAll enc Try.prog W 0 (fun _ => true) true Try.f5.params.toList args.toList ds p := hA0
  rw [Try.params5] at hA hval
  obtain ⟨v0, vs0, d0, ds0, p0, q0, hargs, rfl, rfl, h0, r0⟩ := trodAll_cons hA
  obtain ⟨rfl, rfl, rfl⟩ := trodAll_nil r0
  obtain rfl : args = #[v0] := by cases args; simp_all
  obtain ⟨rfl, rfl⟩ := trodVars_none hV
  have k0 := h0
  have lt0 : ∀ x ∈ p0, x.block < W.heap.size := by obtain ⟨m, hm⟩ := k0; exact DataW.trod_lt m _ _ _ hm
  obtain ⟨c0, c1, y0, y1, m, rfl, rfl, rfl, hy0, hy1⟩ := open_agg2 Try.underlying23 (by kernel_rfl) (by kernel_rfl) (hval 0 23 v0 rfl rfl) h0
  obtain ⟨f0, i0, rfl, _⟩ := DataW.trod_int Try.underlying3 hy0
  obtain ⟨s0, i1, rfl, w0⟩ := DataW.trod_string Try.underlying9 hy1
  simp at i0 i1
  subst i0 i1
  clear hA0 hval0
  refine (walk f0 s0 W w0).mono fun e W' ⟨he, bel⟩ => ?_
  subst he
  exact ⟨_, rfl, _, _, _, [], _, [], hW', (trodAll_cons_mk (shut_bool Try.underlying4 _) trodAll_mk0), (trodAll_cons_mk (Below.trod laidOut (by kernel_rfl) (of_decide_eq_true (by kernel_rfl)) k0 bel lt0) trodAll_mk0), rfl, bel.frame _, fun h => by cases h⟩

theorem said : Rows.FnExactBlockTextSaid :=
  OpenClaim.holds_of_wide 5 Try.f5 rfl rfl rfl rfl rfl rfl rfl ⟨rfl, rfl, rfl, rfl, rfl⟩ rfl rfl rfl rfl rfl (by kernel_rfl) Try.func5 (by kernel_rfl)
    (of_decide_eq_true (by kernel_rfl)) (by unfold Func.isWrapper; first | (rw [if_pos (by decide +kernel)]; kernel_rfl) | (rw [if_neg (by decide +kernel)]; exact ⟨rfl, rfl⟩))
    (fun os started H enc _ => lifted os started H enc)
end Go.Proofs.Ythffhfafnohndaa.fnExactBlockText
namespace Go.Proofs.Ythffhfafnohndaa
theorem fnExactBlockText_holds : Rows.FnExactBlockTextSaid := fnExactBlockText.said
#print axioms fnExactBlockText_holds
end Go.Proofs.Ythffhfafnohndaa
