/- For every snapshot the law FnExactSnapText returns true: impl.SnapText answers as spec.SnapText and changes nothing. -/
import Derived.Test.YtghcagibdcblnaaRows
import Derived.Test.YtghcagibdcblnaaEnt
import Derived.Test.YtghcagibdcblnaaNft
import Derived.WalkKit
import Derived.ProofKit
import Derived.OpenShut
import Derived.ShutString
import Derived.ChangeOld
import Derived.Below
import Derived.Lib.SmallJoins
namespace Go.Proofs.Ytghcagibdcblnaa.fnExactSnapText
open Go.ChangeShapes Go.WideShapes Go.ChangeAt Go.RowKit Go.Joins
open Go.ChangeMaps (open_string shut_string)
set_option linter.unusedVariables false

theorem own : ownKnob Try.prog.godebug = none := by kernel_rfl
theorem laidOut : laidOutB Try.prog = true := by kernel_rfl

set_option maxRecDepth 100000 in
set_option maxHeartbeats 8000000 in
theorem walk (v0 : Value) (s : Sn) (w : World) (m0 : SnB w v0 s) :
    Calls Try.prog 4 #[v0] w fun e w' => e = .returned (.bool true) ∧ Below w.heap.size w w' := by
  obtain ⟨vr, vm, rfl, m0, b0⟩ := m0
  have hmA : Hid (∀ W, Below w.heap.size w W → MemR W (memV vr vm s.m.page s.m.screen s.m.locked) s.m) := fun W hb => m0.below hb
  have hbig : Hid (Big s.m) := b0
  have qA := hid (Blk.new w (snA s vr vm) 32)
  have hB := hid ((Below.refl w.heap.size w).alloc (Nat.le_refl _) (.cells (snA s vr vm) 32))
  clear m0 b0
  go_enter Try.func4, Try.ntmps4
  go_upto_region 2 with fail
  obtain ⟨V, hV⟩ : ∃ V, w.alloc (.cells (snA s vr vm) 32) = V := ⟨_, rfl⟩
  rw [hV] at qA hB ⊢
  clear hV
  have x1 := hid (sn_all qA.out)
  go_wp2_with (refine wpList_load_mid rfl 32 _ rfl w.heap.size 0 rfl (snA s vr vm).toList _ x1.out Try.underlying32 rfl (szLS s vr vm) ?_)
  refine (szsn s vr vm 1048576 V (hmA.out _ hB.out) hbig.out (by omega) (by omega)).mono ?_
  rintro e w1 ⟨R, rfl, hR, hb⟩
  have qA1 := hid (qA.out.below hb qA.out.lt)
  have hB1 := hid (new_trans hB.out hb)
  clear hb qA hB x1
  rcases hR with hR | ⟨hR, hR2⟩
  · go_wp2
    go_ret
    exact ⟨rfl, hB1.out⟩
  have hs : Hid (Small s.m) := by
    unfold Hid Small
    refine ⟨by omega, by omega, by omega⟩
  clear hR2 hbig
  have hSp := hid (fun W u m (h : MemR W (memV u m s.m.page s.m.screen s.m.locked) s.m) => sntext_spec (.agg (snA s u m)) s W ⟨u, m, rfl, h⟩ hs.out.fitS.1 hs.out.fitS.2.1 hs.out.fitS.2.2)
  have hIm := hid (fun W u m (h : MemR W (memV u m s.m.page s.m.screen s.m.locked) s.m) => sntext_impl (.agg (snA s u m)) s W ⟨u, m, rfl, h⟩ hs.out.fitS)
  obtain ⟨Q0, hQ⟩ : ∃ Q, (sntext2 s).1 = Q := ⟨_, rfl⟩
  obtain ⟨Q1, hQ1⟩ : ∃ Q, (sntext2 s).2 = Q := ⟨_, rfl⟩
  rw [hQ, hQ1] at hSp hIm
  clear hQ hQ1
  have x1 := hid (sn_all qA1.out)
  go_wp2_with (refine wpList_load_mid rfl 32 _ rfl w.heap.size 0 rfl (snA s vr vm).toList _ x1.out Try.underlying32 rfl (szLS s vr vm) ?_)
  refine (tosn s vr vm w1 (hmA.out _ hB1.out) hs.out).mono ?_
  rintro e w2 ⟨u1, m1, rfl, hO, hb⟩
  have hm1 := hid hO.reads
  have qA2 := hid (qA1.out.below hb qA1.out.lt)
  have hB2 := hid (new_trans hB1.out hb)
  clear hb hO qA1 hB1 x1
  go_wp2_with fail
  refine (hSp.out _ _ _ hm1.out).mono ?_
  rintro e w3 ⟨rfl, hb⟩
  have qA3 := hid (qA2.out.below hb qA2.out.lt)
  have hB3 := hid (new_trans hB2.out hb)
  clear hb qA2 hB2 hm1 hSp
  have x1 := hid (sn_all qA3.out)
  go_wp2_with (refine wpList_load_mid rfl 32 _ rfl w.heap.size 0 rfl (snA s vr vm).toList _ x1.out Try.underlying32 rfl (szLS s vr vm) ?_)
  refine (tosn s vr vm w3 (hmA.out _ hB3.out) hs.out).mono ?_
  rintro e w4 ⟨ux, mx, rfl, hO, hb⟩
  have hone := hid (sn_one s (memO_form2 hO).1 (memO_form2 hO).2)
  have hm4 := hO.reads
  have qA4 := qA3.out.below hb qA3.out.lt
  have hB4 := new_trans hB3.out hb
  have qn := Blk.new w4 zS 39
  rw [zS_eq] at qn
  have hth := hid (blk_there qn (o := 0) (n := (snA s ux mx).size) (by show 0 + 31 ≤ 31; omega))
  have hbn : Below w4.heap.size w4 (w4.alloc (.cells (snA sn0 nl nl) 39)) := (Below.refl _ _).alloc (Nat.le_refl _) _
  obtain ⟨w5, hw5⟩ : ∃ W, (w4.alloc (.cells zS 39)).setCells w4.heap.size 0 (snA s ux mx).toList = W := ⟨_, rfl⟩
  have hb45 : Below w4.heap.size w4 w5 := by rw [← hw5, zS_eq]; exact layE_below _ 0 _ (Nat.le_refl _) hbn
  have qX5 : Hid (Blk w5 w4.heap.size (snA s ux mx)) := by
    rw [← hw5, zS_eq]
    have := layE_blk w4.heap.size (snA s ux mx).toList _ 0 _ qn
    rw [sn_layA] at this
    exact this
  have qA5 := hid (qA4.below hb45 qA4.lt)
  have hB5 := hid (new_trans hB4 hb45)
  have hmX5 := hid (hm4.below hb45)
  have hne : Hid (w.heap.size < w4.heap.size) := by have := qA4.lt; exact this
  replace hw5 := hid hw5
  clear hb hO hm4 qA4 hB4 qn hbn hb45 qA3 hB3 x1
  have x2 := hid (sn_all qX5.out)
  rw [zS_eq] at hw5
  rw [← zS_eq] at hw5
  go_wp2_with (first | (guard_target = wpList _ _ _ (Oper.mk _ (Op.store _ _ _) _ _ _ _ :: _) _ _; refine wpList_store_mid rfl 39 _ _ rfl w4.heap.size 0 (snA s ux mx) rfl rfl hth.out (szS2 s ux mx) hone.out ?_; rw [hw5.out]) | (refine wpList_load_mid rfl 39 _ rfl w4.heap.size 0 rfl (snA s ux mx).toList _ x2.out Try.underlying39 rfl (szS s ux mx) ?_))
  refine (hIm.out _ _ _ hmX5.out).mono ?_
  rintro e w6 ⟨rfl, hb⟩
  have qX6 := hid (qX5.out.below hb qX5.out.lt)
  have qA6 := hid (qA5.out.below hb qA5.out.lt)
  have hB6 := hid (new_trans hB5.out hb)
  have hmX6 := hid (hmX5.out.below hb)
  clear hb qX5 qA5 hB5 hmX5 hIm hw5 hth hone x2 hne
  go_wp2
  refine n2_reg _ w6 _ w4.heap.size w.heap.size s ux mx vr vm rfl rfl qX6.out qA6.out (fun W hb => (tosn s vr vm W (hmA.out _ (new_trans hB6.out hb)) hs.out).mono (by rintro e w' ⟨u, m, rfl, hO, hb'⟩; exact ⟨u, m, rfl, hO.reads, hb'⟩)) (fun W u m hb hm => eqsn_yes s ux mx u m W (hmX6.out.below hb) hm hs.out) (by simp) ?_
  intro w9 e9 hb9
  simp only [putsA, Act.put, List.setIfInBounds_toArray, List.set_cons_zero, List.set_cons_succ]
  have hB9 := hid (new_trans hB6.out hb9)
  clear hb9 hB6 qX6 qA6 hmX6 hmA
  go_wp2
  go_ret
  exact ⟨rfl, hB9.out⟩

set_option maxRecDepth 100000 in
theorem lifted (os : Os) (started : os.Started) (H : Type) (enc : TypeId × Value → H) :
    ReturnsInHanded {} Try.checked os 4 .any (Rows.fnExactSnapTextSpec.pre6 enc Try.prog Try.f4 Rows.fnExactSnapTextRow.domain false) (Rows.fnExactSnapTextSpec.post enc Try.prog Try.f4 false true false false) := by
  refine returnsInHanded_of_change (C := Try.checked) own started (by kernel_rfl) Try.func4
    (ChangeSpec.witness6 (enc := enc) (C := Try.checked) false ⟨#[], #[.agg zS], []⟩ 8 (by kernel_rfl) (by kernel_rfl) (by kernel_rfl) (by kernel_rfl)) ?_
  intro W base args ds gs before hval0 hW hcnd _
  have hval : ∀ (j : Nat) t v, Try.f4.params[j]? = some t → args[j]? = some v → Value.okWide Try.prog W .any base t v := hval0
  have hW' := hW
  obtain ⟨p, q, hA0, hV, rfl, hfz, hnd⟩ := hW
  have hA : DataW.TrodAll enc Try.prog W 0 (fun _ => true) true Try.f4.params.toList args.toList ds p := hA0
  rw [Try.params4] at hA hval
  obtain ⟨v0, vs0, d0, ds0, p0, q0, hargs, rfl, rfl, h0, r0⟩ := trodAll_cons hA
  obtain ⟨rfl, rfl, rfl⟩ := trodAll_nil r0
  obtain rfl : args = #[v0] := by cases args; simp_all
  obtain ⟨rfl, rfl⟩ := trodVars_none hV
  have k0 := h0
  have lt0 : ∀ x ∈ p0, x.block < W.heap.size := by obtain ⟨m, hm⟩ := k0; exact DataW.trod_lt m _ _ _ hm
  obtain ⟨s, m0⟩ := snapB_in (hval 0 32 v0 rfl rfl) h0
  clear hA0 hval0
  refine (walk v0 s W m0).mono fun e W' ⟨he, bel⟩ => ?_
  subst he
  exact ⟨_, rfl, _, _, _, [], _, [], hW', (trodAll_cons_mk (shut_bool Try.underlying4 _) trodAll_mk0), (trodAll_cons_mk (Below.trod laidOut (by kernel_rfl) (of_decide_eq_true (by kernel_rfl)) k0 bel lt0) trodAll_mk0), rfl, bel.frame _, fun h => by cases h⟩

theorem said : Rows.FnExactSnapTextSaid :=
  OpenClaim.holds_of_wide 4 Try.f4 rfl rfl rfl rfl rfl rfl rfl ⟨rfl, rfl, rfl, rfl, rfl⟩ rfl rfl rfl rfl rfl (by kernel_rfl) Try.func4 (by kernel_rfl)
    (of_decide_eq_true (by kernel_rfl)) (by unfold Func.isWrapper; first | (rw [if_pos (by decide +kernel)]; kernel_rfl) | (rw [if_neg (by decide +kernel)]; exact ⟨rfl, rfl⟩))
    (fun os started H enc _ => lifted os started H enc)
end Go.Proofs.Ytghcagibdcblnaa.fnExactSnapText
namespace Go.Proofs.Ytghcagibdcblnaa
theorem fnExactSnapText_holds : Rows.FnExactSnapTextSaid := fnExactSnapText.said
#print axioms fnExactSnapText_holds
end Go.Proofs.Ytghcagibdcblnaa
