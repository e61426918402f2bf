/- For all pairs of snapshots the law FnExactSameSnap returns true: impl.SameSnap answers as spec.SameSnap and changes nothing. -/
import Derived.Test.YtghcagibdcblnaaRows
import Derived.Test.YtghcagibdcblnaaEns
import Derived.Test.YtghcagibdcblnaaNgs
import Derived.WalkKit
import Derived.ProofKit
import Derived.OpenShut
import Derived.ShutString
import Derived.ChangeOld
import Derived.Below
import Derived.Lib.SmallJoins
namespace Go.Proofs.Ytghcagibdcblnaa.fnExactSameSnap
open Go.ChangeShapes Go.WideShapes Go.ChangeAt Go.RowKit Go.Joins
open Go.ChangeMaps (open_string shut_string)
set_option linter.unusedVariables false

theorem own : ownKnob Try.prog.godebug = none := by kernel_rfl
theorem laidOut : laidOutB Try.prog = true := by kernel_rfl

set_option maxRecDepth 100000 in
set_option maxHeartbeats 8000000 in
theorem walk (v0 : Value) (s : Sn) (v1 : Value) (s2 : Sn) (w : World) (m0 : SnB w v0 s) (m1 : SnB w v1 s2) :
    Calls Try.prog 5 #[v0, v1] w fun e w' => e = .returned (.bool true) ∧ Below w.heap.size w w' := by
  obtain ⟨vr, vm, rfl, m0, b0⟩ := m0
  obtain ⟨vr2, vm2, rfl, m1, b1⟩ := m1
  have hmA : Hid (∀ W, Below w.heap.size w W → MemR W (memV vr vm s.m.page s.m.screen s.m.locked) s.m) := fun W hb => m0.below hb
  have hmB : Hid (∀ W, Below w.heap.size w W → MemR W (memV vr2 vm2 s2.m.page s2.m.screen s2.m.locked) s2.m) := fun W hb => m1.below hb
  have hbig : Hid (Big s.m) := b0
  have hbig2 : Hid (Big s2.m) := b1
  have qA := hid ((Blk.new w (snA s vr vm) 32).alloc (.cells (snA s2 vr2 vm2) 32))
  have qB : Hid (Blk ((w.alloc (.cells (snA s vr vm) 32)).alloc (.cells (snA s2 vr2 vm2) 32)) (w.heap.size + 1) (snA s2 vr2 vm2)) := by
    have := Blk.new (w.alloc (.cells (snA s vr vm) 32)) (snA s2 vr2 vm2) 32
    rwa [World.size_alloc] at this
  have hB0 := (Below.refl w.heap.size w).alloc (Nat.le_refl _) (.cells (snA s vr vm) 32)
  have hB := hid (hB0.alloc hB0.size (.cells (snA s2 vr2 vm2) 32))
  clear m0 b0 m1 b1 hB0
  go_enter Try.func5, Try.ntmps5
  go_upto_region 2 with fail
  obtain ⟨V, hV⟩ : ∃ V, (w.alloc (.cells (snA s vr vm) 32)).alloc (.cells (snA s2 vr2 vm2) 32) = V := ⟨_, rfl⟩
  rw [hV] at qA qB hB ⊢
  clear hV
  have x1 := hid (sn_all qA.out)
  go_wp2_with (refine wpList_load_mid rfl 32 _ rfl w.heap.size 0 rfl (snA s vr vm).toList _ x1.out Try.underlying32 rfl (szLS s vr vm) ?_)
  refine (szsn s vr vm 1048576 V (hmA.out _ hB.out) hbig.out (by omega) (by omega)).mono ?_
  rintro e w1 ⟨R, rfl, hR, hb⟩
  replace qA := hid (qA.out.below hb qA.out.lt)
  replace qB := hid (qB.out.below hb qB.out.lt)
  replace hB := hid (new_trans hB.out hb)
  clear hb x1
  rcases hR with hR | ⟨hR, hR2⟩
  · go_wp2
    go_ret
    exact ⟨rfl, hB.out⟩
  have hs : Hid (Small s.m) := by
    unfold Hid Small
    refine ⟨by omega, by omega, by omega⟩
  have hRb : R ≤ 1048576 := by omega
  clear hR2 hbig
  have x1 := hid (sn_all qB.out)
  go_wp2_with (refine wpList_load_mid rfl 32 _ rfl (w.heap.size + 1) 0 rfl (snA s2 vr2 vm2).toList _ x1.out Try.underlying32 rfl (szLS s2 vr2 vm2) ?_)
  refine (szsn s2 vr2 vm2 R w1 (hmB.out _ hB.out) hbig2.out (by omega) (by omega)).mono ?_
  rintro e w2 ⟨R2, rfl, hR2, hb⟩
  replace qA := hid (qA.out.below hb qA.out.lt)
  replace qB := hid (qB.out.below hb qB.out.lt)
  replace hB := hid (new_trans hB.out hb)
  clear hb x1
  rcases hR2 with hR2 | ⟨hR2, hR3⟩
  · go_wp2
    go_ret
    exact ⟨rfl, hB.out⟩
  have hs2 : Hid (Small s2.m) := by
    unfold Hid Small
    refine ⟨by omega, by omega, by omega⟩
  clear hR3 hbig2 hRb
  obtain ⟨Q0, hQ⟩ : ∃ Q, sameSn s s2 = Q := ⟨_, rfl⟩
  have hSp := hid (fun W u m u2 m2 (h : MemR W (memV u m s.m.page s.m.screen s.m.locked) s.m) (h2 : MemR W (memV u2 m2 s2.m.page s2.m.screen s2.m.locked) s2.m) => samesn_spec (.agg (snA s u m)) (.agg (snA s2 u2 m2)) s s2 W ⟨u, m, rfl, h⟩ ⟨u2, m2, rfl, h2⟩ hs.out.fitS hs2.out.fitS)
  have hIm := hid (fun W u m u2 m2 (h : MemR W (memV u m s.m.page s.m.screen s.m.locked) s.m) (h2 : MemR W (memV u2 m2 s2.m.page s2.m.screen s2.m.locked) s2.m) => samesn_impl (.agg (snA s u m)) (.agg (snA s2 u2 m2)) s s2 W ⟨u, m, rfl, h⟩ ⟨u2, m2, rfl, h2⟩ hs.out.fitS hs2.out.fitS)
  rw [hQ] at hSp hIm
  clear hQ
  have hTA : Hid (∀ W, Below w.heap.size w W → Calls Try.prog 8 #[.agg (snA s vr vm)] W fun r w' => ∃ u m, r = .returned (.agg (snA s u m)) ∧ MemR w' (memV u m s.m.page s.m.screen s.m.locked) s.m ∧ Below W.heap.size W w') := fun W hb => (tosn s vr vm W (hmA.out _ hb) hs.out).mono (by rintro e w' ⟨u, m, rfl, hO, hb'⟩; exact ⟨u, m, rfl, hO.reads, hb'⟩)
  have hTB : Hid (∀ W, Below w.heap.size w W → Calls Try.prog 8 #[.agg (snA s2 vr2 vm2)] W fun r w' => ∃ u m, r = .returned (.agg (snA s2 u m)) ∧ MemR w' (memV u m s2.m.page s2.m.screen s2.m.locked) s2.m ∧ Below W.heap.size W w') := fun W hb => (tosn s2 vr2 vm2 W (hmB.out _ hb) hs2.out).mono (by rintro e w' ⟨u, m, rfl, hO, hb'⟩; exact ⟨u, m, rfl, hO.reads, hb'⟩)
  go_wp2
  refine n5_reg _ w2 _ w.heap.size (w.heap.size + 1) s s2 vr vm vr2 vm2 Q0 rfl rfl qA.out qB.out (fun W hb => hTA.out W (new_trans hB.out hb)) (fun W hb => hTB.out W (new_trans hB.out hb)) hSp.out (by simp) ?_
  intro w3 e3 hb
  simp only [putsA, Act.put, List.setIfInBounds_toArray, List.set_cons_zero, List.set_cons_succ]
  replace qA := hid (qA.out.below hb qA.out.lt)
  replace qB := hid (qB.out.below hb qB.out.lt)
  replace hB := hid (new_trans hB.out hb)
  clear hb hSp
  have x1 := hid (sn_all qA.out)
  go_wp2_with (refine wpList_load_mid rfl 32 _ rfl w.heap.size 0 rfl (snA s vr vm).toList _ x1.out Try.underlying32 rfl (szLS s vr vm) ?_)
  refine (tosn s vr vm w3 (hmA.out _ hB.out) hs.out).mono ?_
  rintro e wa4 ⟨ux, mx, rfl, hO, hb⟩
  have hone := hid (sn_one s (memO_form2 hO).1 (memO_form2 hO).2)
  have hm4 := hO.reads
  have hBn := new_trans hB.out hb
  have qn := Blk.new wa4 zS 39
  rw [zS_eq] at qn
  have hth := hid (blk_there qn (o := 0) (n := (snA s ux mx).size) (by show 0 + 31 ≤ 31; omega))
  have hbn : Below wa4.heap.size wa4 (wa4.alloc (.cells (snA sn0 nl nl) 39)) := (Below.refl _ _).alloc (Nat.le_refl _) _
  obtain ⟨wb4, hw4⟩ : ∃ W, (wa4.alloc (.cells zS 39)).setCells wa4.heap.size 0 (snA s ux mx).toList = W := ⟨_, rfl⟩
  have hbb : Below wa4.heap.size wa4 wb4 := by rw [← hw4, zS_eq]; exact layE_below _ 0 _ (Nat.le_refl _) hbn
  have hbt : Below w3.heap.size w3 wb4 := new_trans hb hbb
  have qX : Hid (Blk wb4 wa4.heap.size (snA s ux mx)) := by
    rw [← hw4, zS_eq]
    have := layE_blk wa4.heap.size (snA s ux mx).toList _ 0 _ qn
    rw [sn_layA] at this
    exact this
  have hmX := hid (hm4.below hbb)
  replace hw4 := hid hw4
  replace qA := hid (qA.out.below hbt qA.out.lt)
  replace qB := hid (qB.out.below hbt qB.out.lt)
  replace hB := hid (new_trans hB.out hbt)
  clear hb hO hm4 hBn qn hbn hbb hbt x1
  have x1 := hid (sn_all qB.out)
  go_wp2_with (first | (guard_target = wpList _ _ _ (Oper.mk _ (Op.store _ _ _) _ _ _ _ :: _) _ _; refine wpList_store_mid rfl 39 _ _ rfl wa4.heap.size 0 (snA s ux mx) rfl rfl hth.out (szS2 s ux mx) hone.out ?_; rw [hw4.out]) | (refine wpList_load_mid rfl 32 _ rfl (w.heap.size + 1) 0 rfl (snA s2 vr2 vm2).toList _ x1.out Try.underlying32 rfl (szLS s2 vr2 vm2) ?_))
  refine (tosn s2 vr2 vm2 wb4 (hmB.out _ hB.out) hs2.out).mono ?_
  clear hth hone hw4
  rintro e wa5 ⟨uy, my, rfl, hO, hb⟩
  have hone := hid (sn_one s2 (memO_form2 hO).1 (memO_form2 hO).2)
  have hm4 := hO.reads
  have hBn := new_trans hB.out hb
  have qn := Blk.new wa5 zS 39
  rw [zS_eq] at qn
  have hth := hid (blk_there qn (o := 0) (n := (snA s2 uy my).size) (by show 0 + 31 ≤ 31; omega))
  have hbn : Below wa5.heap.size wa5 (wa5.alloc (.cells (snA sn0 nl nl) 39)) := (Below.refl _ _).alloc (Nat.le_refl _) _
  obtain ⟨wb5, hw5⟩ : ∃ W, (wa5.alloc (.cells zS 39)).setCells wa5.heap.size 0 (snA s2 uy my).toList = W := ⟨_, rfl⟩
  have hbb : Below wa5.heap.size wa5 wb5 := by rw [← hw5, zS_eq]; exact layE_below _ 0 _ (Nat.le_refl _) hbn
  have hbt : Below wb4.heap.size wb4 wb5 := new_trans hb hbb
  have qY : Hid (Blk wb5 wa5.heap.size (snA s2 uy my)) := by
    rw [← hw5, zS_eq]
    have := layE_blk wa5.heap.size (snA s2 uy my).toList _ 0 _ qn
    rw [sn_layA] at this
    exact this
  have hmY := hid (hm4.below hbb)
  replace hw5 := hid hw5
  replace qA := hid (qA.out.below hbt qA.out.lt)
  replace qB := hid (qB.out.below hbt qB.out.lt)
  replace qX := hid (qX.out.below hbt qX.out.lt)
  replace hmX := hid (hmX.out.below hbt)
  replace hB := hid (new_trans hB.out hbt)
  clear hb hO hm4 hBn qn hbn hbb hbt x1
  have x1 := hid (sn_all qX.out)
  have x2 := hid (sn_all qY.out)
  go_wp2_with (first | (guard_target = wpList _ _ _ (Oper.mk _ (Op.store _ _ _) _ _ _ _ :: _) _ _; refine wpList_store_mid rfl 39 _ _ rfl wa5.heap.size 0 (snA s2 uy my) rfl rfl hth.out (szS2 s2 uy my) hone.out ?_; rw [hw5.out]) | (refine wpList_load_mid rfl 39 _ rfl wa4.heap.size 0 rfl (snA s ux mx).toList _ x1.out Try.underlying39 rfl (szS s ux mx) ?_) | (refine wpList_load_mid rfl 39 _ rfl wa5.heap.size 0 rfl (snA s2 uy my).toList _ x2.out Try.underlying39 rfl (szS s2 uy my) ?_))
  refine (hIm.out _ _ _ _ _ hmX.out hmY.out).mono ?_
  rintro e w6 ⟨rfl, hb⟩
  replace qA := hid (qA.out.below hb qA.out.lt)
  replace qB := hid (qB.out.below hb qB.out.lt)
  replace qX := hid (qX.out.below hb qX.out.lt)
  replace qY := hid (qY.out.below hb qY.out.lt)
  replace hmX := hid (hmX.out.below hb)
  replace hmY := hid (hmY.out.below hb)
  replace hB := hid (new_trans hB.out hb)
  clear hb x1 x2 hth hone hw5 hIm
  go_wp2
  refine n3_reg _ w6 _ wa4.heap.size w.heap.size s ux mx vr vm rfl rfl qX.out qA.out (fun W hb => hTA.out W (new_trans hB.out hb)) (fun W u m hb hm => eqsn_yes s ux mx u m W (hmX.out.below hb) hm hs.out) (by simp) ?_
  intro w7 e7 hb
  simp only [putsA, Act.put, List.setIfInBounds_toArray, List.set_cons_zero, List.set_cons_succ]
  replace qB := hid (qB.out.below hb qB.out.lt)
  replace qY := hid (qY.out.below hb qY.out.lt)
  replace hmY := hid (hmY.out.below hb)
  replace hB := hid (new_trans hB.out hb)
  clear hb qA qX hmX
  go_wp2
  refine n4_reg _ w7 _ wa5.heap.size (w.heap.size + 1) s2 uy my vr2 vm2 rfl rfl qY.out qB.out (fun W hb => hTB.out W (new_trans hB.out hb)) (fun W u m hb hm => eqsn_yes s2 uy my u m W (hmY.out.below hb) hm hs2.out) (by simp) ?_
  intro w8 e8 hb
  simp only [putsA, Act.put, List.setIfInBounds_toArray, List.set_cons_zero, List.set_cons_succ]
  replace hB := hid (new_trans hB.out hb)
  clear hb qB qY hmY hTA hTB hmA hmB
  go_wp2
  go_ret
  exact ⟨rfl, hB.out⟩

set_option maxRecDepth 100000 in
theorem lifted (os : Os) (started : os.Started) (H : Type) (enc : TypeId × Value → H) :
    ReturnsInHanded {} Try.checked os 5 .any (Rows.fnExactSameSnapSpec.pre6 enc Try.prog Try.f5 Rows.fnExactSameSnapRow.domain false) (Rows.fnExactSameSnapSpec.post enc Try.prog Try.f5 false true false false) := by
  refine returnsInHanded_of_change (C := Try.checked) own started (by kernel_rfl) Try.func5
    (ChangeSpec.witness6 (enc := enc) (C := Try.checked) false ⟨#[], #[.agg zS, .agg zS], []⟩ 8 (by kernel_rfl) (by kernel_rfl) (by kernel_rfl) (by kernel_rfl)) ?_
  intro W base args ds gs before hval0 hW hcnd _
  have hval : ∀ (j : Nat) t v, Try.f5.params[j]? = some t → args[j]? = some v → Value.okWide Try.prog W .any base t v := hval0
  have hW' := hW
  obtain ⟨p, q, hA0, hV, rfl, hfz, hnd⟩ := hW
  have hA : DataW.TrodAll enc Try.prog W 0 (fun _ => true) true Try.f5.params.toList args.toList ds p := hA0
  rw [Try.params5] at hA hval
  obtain ⟨v0, vs0, d0, ds0, p0, q0, hargs, rfl, rfl, h0, r0⟩ := trodAll_cons hA
  obtain ⟨v1, vs1, d1, ds1, p1, q1, rfl, rfl, rfl, h1, r1⟩ := trodAll_cons r0
  obtain ⟨rfl, rfl, rfl⟩ := trodAll_nil r1
  obtain rfl : args = #[v0, v1] := by cases args; simp_all
  obtain ⟨rfl, rfl⟩ := trodVars_none hV
  have k0 := h0
  have lt0 : ∀ x ∈ p0, x.block < W.heap.size := by obtain ⟨m, hm⟩ := k0; exact DataW.trod_lt m _ _ _ hm
  obtain ⟨s, m0⟩ := snapB_in (hval 0 32 v0 rfl rfl) h0
  have k1 := h1
  have lt1 : ∀ x ∈ p1, x.block < W.heap.size := by obtain ⟨m, hm⟩ := k1; exact DataW.trod_lt m _ _ _ hm
  obtain ⟨s2, m1⟩ := snapB_in (hval 1 32 v1 rfl rfl) h1
  clear hA0 hval0
  refine (walk v0 s v1 s2 W m0 m1).mono fun e W' ⟨he, bel⟩ => ?_
  subst he
  exact ⟨_, rfl, _, _, _, [], _, [], hW', (trodAll_cons_mk (shut_bool Try.underlying4 _) trodAll_mk0), (trodAll_cons_mk (Below.trod laidOut (by kernel_rfl) (of_decide_eq_true (by kernel_rfl)) k0 bel lt0) (trodAll_cons_mk (Below.trod laidOut (by kernel_rfl) (of_decide_eq_true (by kernel_rfl)) k1 bel lt1) trodAll_mk0)), rfl, bel.frame _, fun h => by cases h⟩

theorem said : Rows.FnExactSameSnapSaid :=
  OpenClaim.holds_of_wide 5 Try.f5 rfl rfl rfl rfl rfl rfl rfl ⟨rfl, rfl, rfl, rfl, rfl⟩ rfl rfl rfl rfl rfl (by kernel_rfl) Try.func5 (by kernel_rfl)
    (of_decide_eq_true (by kernel_rfl)) (by unfold Func.isWrapper; first | (rw [if_pos (by decide +kernel)]; kernel_rfl) | (rw [if_neg (by decide +kernel)]; exact ⟨rfl, rfl⟩))
    (fun os started H enc _ => lifted os started H enc)
end Go.Proofs.Ytghcagibdcblnaa.fnExactSameSnap
namespace Go.Proofs.Ytghcagibdcblnaa
theorem fnExactSameSnap_holds : Rows.FnExactSameSnapSaid := fnExactSameSnap.said
#print axioms fnExactSameSnap_holds
end Go.Proofs.Ytghcagibdcblnaa
