/- For every memory and number the law FnExactIsShared returns true: impl.IsShared answers as spec.IsShared and changes nothing. -/
import Derived.Test.YtpdngjjbhcfplalRows
import Derived.Test.YtpdngjjbhcfplalBase
import Derived.Test.YtpdngjjbhcfplalIn
import Derived.Test.YtpdngjjbhcfplalBt
import Derived.Test.YtpdngjjbhcfplalMa
import Derived.Test.YtpdngjjbhcfplalMb
import Derived.Test.YtpdngjjbhcfplalMc
import Derived.Test.YtpdngjjbhcfplalMd
import Derived.Test.YtpdngjjbhcfplalBl
import Derived.Test.YtpdngjjbhcfplalMe
import Derived.Test.YtpdngjjbhcfplalMf
import Derived.Test.YtpdngjjbhcfplalMg
import Derived.Test.YtpdngjjbhcfplalMh
import Derived.Test.YtpdngjjbhcfplalMi
import Derived.Test.YtpdngjjbhcfplalMj
import Derived.Test.YtpdngjjbhcfplalMk
import Derived.Test.YtpdngjjbhcfplalMl
import Derived.Test.YtpdngjjbhcfplalMn
import Derived.Test.YtpdngjjbhcfplalMo
import Derived.Test.YtpdngjjbhcfplalBa
import Derived.Test.YtpdngjjbhcfplalBb
import Derived.Test.YtpdngjjbhcfplalBc
import Derived.Test.YtpdngjjbhcfplalBd
import Derived.Test.YtpdngjjbhcfplalBe
import Derived.Test.YtpdngjjbhcfplalBf
import Derived.Test.YtpdngjjbhcfplalBg
import Derived.WalkKit
import Derived.ProofKit
import Derived.OpenShut
import Derived.ShutString
import Derived.ChangeOld
import Derived.Below
import Derived.Lib.SmallJoins
namespace Go.Proofs.Ytpdngjjbhcfplal.fnExactIsShared
open Go.ChangeShapes Go.WideShapes Go.ChangeAt Go.RowKit Go.Joins
open Go.ChangeMaps (open_string shut_string)
set_option linter.unusedVariables false

theorem own : ownKnob Try.prog.godebug = none := by kernel_rfl
theorem laidOut : laidOutB Try.prog = true := by kernel_rfl

set_option maxRecDepth 100000 in
set_option maxHeartbeats 4000000 in
theorem walk (v0 : Value) (M0 : Mem) (a1 : Int) (w : World) (m0 : MemR w v0 M0) (b0 : Big M0) (w1 : (Lit.int .i64 a1).wf = true) :
    Calls Try.prog 7 #[v0, .int .i64 a1] w fun e w' => e = .returned (.bool true) ∧ Below w.heap.size w w' := by
  obtain ⟨s1, t1, s2, t2, rfl, _, _⟩ := m0.form
  obtain ⟨X, Y, hv⟩ : ∃ (X : Bool) (Y : Int), shared2 M0 a1 = .tuple #[.bool X, .int .i64 Y] := by
    unfold shared2
    split <;> exact ⟨_, _, rfl⟩
  replace hv := hid hv
  have hB0 : Hid (∀ o, Below w.heap.size w (w.alloc o)) := fun o => (Below.refl _ _).alloc (Nat.le_refl _) _
  have K0 : Hid (∀ W', Below (w.alloc (.cells #[.slice s1 M0.rom.length t1, .slice s2 M0.ram.length t2, .int .i64 M0.page, .int .i64 M0.screen, .bool M0.locked] 25)).heap.size (w.alloc (.cells #[.slice s1 M0.rom.length t1, .slice s2 M0.ram.length t2, .int .i64 M0.page, .int .i64 M0.screen, .bool M0.locked] 25)) W' → Blk W' w.heap.size #[.slice s1 M0.rom.length t1, .slice s2 M0.ram.length t2, .int .i64 M0.page, .int .i64 M0.screen, .bool M0.locked] ∧ MemR W' (memV (.slice s1 M0.rom.length t1) (.slice s2 M0.ram.length t2) M0.page M0.screen M0.locked) M0 ∧ Below w.heap.size w W' ∧ w.heap.size < W'.heap.size) := by
    intro W' hb
    have hz := hb.size
    rw [World.size_alloc] at hz
    exact ⟨(Blk.new w _ _).below hb (by simp), (m0.below (hB0.out _)).below hb, (hB0.out _).trans (hb.mono (by simp)), by omega⟩
  have hbig : Hid (Big M0) := b0
  clear m0 b0
  go_enter Try.func7, Try.ntmps7
  go_wp2_with fail
  refine (szm _ M0 _ _ ?_ hbig.out (by omega) (by omega)).mono ?_
  · exact (K0.out _ (Below.refl _ _)).2.1
  rintro e w1 ⟨R, rfl, hR, hb1⟩
  obtain ⟨q1, m1, hB1, hz1⟩ := K0.out w1 hb1
  have K1 : Hid (∀ W', Below w1.heap.size w1 W' → Blk W' w.heap.size #[.slice s1 M0.rom.length t1, .slice s2 M0.ram.length t2, .int .i64 M0.page, .int .i64 M0.screen, .bool M0.locked] ∧ MemR W' (memV (.slice s1 M0.rom.length t1) (.slice s2 M0.ram.length t2) M0.page M0.screen M0.locked) M0 ∧ Below w.heap.size w W' ∧ w.heap.size < W'.heap.size) := fun W' hb => K0.out W' (new_trans hb1 hb)
  have x1 := q1.cell
  replace hB1 := hid hB1
  clear hb1 m1 q1 K0
  rcases hR with hR | ⟨hR, hR2⟩
  · go_wp2
    go_ret
    exact ⟨rfl, hB1.out⟩
  have hs : Hid (Small M0) := by
    unfold Hid Small
    refine ⟨by omega, by omega, by omega⟩
  have hf : Hid (Fit M0) := ⟨by have := hs.out.1; omega, by have := hs.out.2.1; omega, hs.out.rows⟩
  clear hR2 hB1 hbig
  go_wp2_with fail
  refine (tom _ M0 _ ?_ hs.out).mono ?_
  · exact (K1.out _ (Below.refl _ _)).2.1
  rintro e w2 ⟨u2, rfl, hm2, hb2⟩
  have m2 := hid hm2.reads
  obtain ⟨y1, y2, y3, y4, rfl, _, _⟩ := hm2.reads.form
  have K2 : Hid (∀ W', Below w2.heap.size w2 W' → Blk W' w.heap.size #[.slice s1 M0.rom.length t1, .slice s2 M0.ram.length t2, .int .i64 M0.page, .int .i64 M0.screen, .bool M0.locked] ∧ MemR W' (memV (.slice s1 M0.rom.length t1) (.slice s2 M0.ram.length t2) M0.page M0.screen M0.locked) M0 ∧ Below w.heap.size w W' ∧ w.heap.size < W'.heap.size) := fun W' hb => K1.out W' (new_trans hb2 hb)
  clear hm2 hb2 K1 x1
  go_wp2_with fail
  refine (shared_spec _ M0 a1 _ m2.out hf.out).mono ?_
  rintro e w3 ⟨rfl, hb3⟩
  rw [hv.out]
  have K3 : Hid (∀ W', Below w3.heap.size w3 W' → Blk W' w.heap.size #[.slice s1 M0.rom.length t1, .slice s2 M0.ram.length t2, .int .i64 M0.page, .int .i64 M0.screen, .bool M0.locked] ∧ MemR W' (memV (.slice s1 M0.rom.length t1) (.slice s2 M0.ram.length t2) M0.page M0.screen M0.locked) M0 ∧ Below w.heap.size w W' ∧ w.heap.size < W'.heap.size) := fun W' hb => K2.out W' (new_trans hb3 hb)
  have x3 := (K3.out _ (Below.refl _ _)).1.cell
  clear m2 hb3 K2
  go_wp2_with fail
  refine (tom _ M0 _ ?_ hs.out).mono ?_
  · exact (K3.out _ (Below.refl _ _)).2.1
  rintro e w4 ⟨u4, rfl, hm4, hb4⟩
  have m4 := hid hm4.reads
  obtain ⟨c1, d1, c2, d2, rfl, _, _⟩ := hm4.reads.form
  have K4 : Hid (∀ W', Below (w4.alloc (.cells #[.slice c1 M0.rom.length d1, .slice c2 M0.ram.length d2, .int .i64 M0.page, .int .i64 M0.screen, .bool M0.locked] 29)).heap.size (w4.alloc (.cells #[.slice c1 M0.rom.length d1, .slice c2 M0.ram.length d2, .int .i64 M0.page, .int .i64 M0.screen, .bool M0.locked] 29)) W' → Blk W' w.heap.size #[.slice s1 M0.rom.length t1, .slice s2 M0.ram.length t2, .int .i64 M0.page, .int .i64 M0.screen, .bool M0.locked] ∧ MemR W' (memV (.slice s1 M0.rom.length t1) (.slice s2 M0.ram.length t2) M0.page M0.screen M0.locked) M0 ∧ Below w.heap.size w W' ∧ w.heap.size < W'.heap.size ∧ Blk W' w4.heap.size #[.slice c1 M0.rom.length d1, .slice c2 M0.ram.length d2, .int .i64 M0.page, .int .i64 M0.screen, .bool M0.locked] ∧ MemR W' (memV (.slice c1 M0.rom.length d1) (.slice c2 M0.ram.length d2) M0.page M0.screen M0.locked) M0 ∧ w4.heap.size < W'.heap.size) := by
    intro W' hb
    have ha : Below w4.heap.size w4 (w4.alloc (.cells #[.slice c1 M0.rom.length d1, .slice c2 M0.ram.length d2, .int .i64 M0.page, .int .i64 M0.screen, .bool M0.locked] 29)) := (Below.refl _ _).alloc (Nat.le_refl _) _
    have hz := hb.size
    rw [World.size_alloc] at hz
    obtain ⟨j1, j2, j3, j4⟩ := K3.out W' (new_trans (new_trans hb4 ha) hb)
    exact ⟨j1, j2, j3, j4, (Blk.new w4 _ _).below hb (by simp), (m4.out.below ha).below hb, by omega⟩
  have hz4 := (K3.out _ hb4).2.2.2
  clear hm4 hb4 K3 x3
  go_wp2_with fail
  refine (shared_impl _ M0 a1 _ ?_ hf.out).mono ?_
  · exact (K4.out _ (Below.refl _ _)).2.2.2.2.2.1
  rintro e w5 ⟨rfl, hb5⟩
  rw [hv.out]
  have K5 : Hid (∀ W', Below w5.heap.size w5 W' → Blk W' w.heap.size #[.slice s1 M0.rom.length t1, .slice s2 M0.ram.length t2, .int .i64 M0.page, .int .i64 M0.screen, .bool M0.locked] ∧ MemR W' (memV (.slice s1 M0.rom.length t1) (.slice s2 M0.ram.length t2) M0.page M0.screen M0.locked) M0 ∧ Below w.heap.size w W' ∧ w.heap.size < W'.heap.size ∧ Blk W' w4.heap.size #[.slice c1 M0.rom.length d1, .slice c2 M0.ram.length d2, .int .i64 M0.page, .int .i64 M0.screen, .bool M0.locked] ∧ MemR W' (memV (.slice c1 M0.rom.length d1) (.slice c2 M0.ram.length d2) M0.page M0.screen M0.locked) M0 ∧ w4.heap.size < W'.heap.size) := fun W' hb => K4.out W' (new_trans hb5 hb)
  obtain ⟨q5, _, _, _, r5, _, _⟩ := K5.out _ (Below.refl _ _)
  have x5 := q5.cell
  have z5 := r5.cell
  clear q5 r5 K4 hb5 m4
  go_wp2_with fail
  go_region_with (first | (go_at_call 11; refine (tom _ M0 _ ?_ hs.out).mono ?_; exact (K5.out _ ((Below.refl _ _).drew)).2.1; rintro e w6 ⟨u6, rfl, hm6, hb6⟩; have m6 := hid hm6.reads; obtain ⟨e1, f1, e2, f2, rfl, _, _⟩ := hm6.reads.form; have hb6' := hid (new_trans ((Below.refl w5.heap.size w5).drew) hb6); have z6 := (K5.out _ hb6'.out).2.2.2.2.1.cell; clear hm6 hb6) | (go_at_call 13; refine (eqm_yes _ _ M0 _ ?_ m6.out hs.out).mono ?_; exact (K5.out _ hb6'.out).2.2.2.2.2.1; rintro e w7 ⟨rfl, hb7⟩; replace hb7 := hid hb7))
  all_goals
    have hBe := hid (K5.out _ (new_trans hb6'.out hb7.out)).2.2.1
    clear hb7 hb6' m6 K5
    go_wp2
    go_ret
    exact ⟨rfl, hBe.out⟩

set_option maxRecDepth 100000 in
theorem lifted (os : Os) (started : os.Started) (H : Type) (enc : TypeId × Value → H) :
    ReturnsInHanded {} Try.checked os 7 .any (Rows.fnExactIsSharedSpec.pre6 enc Try.prog Try.f7 Rows.fnExactIsSharedRow.domain false) (Rows.fnExactIsSharedSpec.post enc Try.prog Try.f7 false true false false) := by
  refine returnsInHanded_of_change (C := Try.checked) own started (by kernel_rfl) Try.func7
    (ChangeSpec.witness6 (enc := enc) (C := Try.checked) false ⟨#[], #[.agg #[.slice none 0 0, .slice none 0 0, .int .i64 0, .int .i64 0, .bool false], .int .i64 0], []⟩ 8 (by kernel_rfl) (by kernel_rfl) (by kernel_rfl) (by kernel_rfl)) ?_
  intro W base args ds gs before hval0 hW hcnd _
  have hval : ∀ (j : Nat) t v, Try.f7.params[j]? = some t → args[j]? = some v → Value.okWide Try.prog W .any base t v := hval0
  have hW' := hW
  obtain ⟨p, q, hA0, hV, rfl, hfz, hnd⟩ := hW
  have hA : DataW.TrodAll enc Try.prog W 0 (fun _ => true) true Try.f7.params.toList args.toList ds p := hA0
  rw [Try.params7] at hA hval
  obtain ⟨v0, vs0, d0, ds0, p0, q0, hargs, rfl, rfl, h0, r0⟩ := trodAll_cons hA
  obtain ⟨v1, vs1, d1, ds1, p1, q1, rfl, rfl, rfl, h1, r1⟩ := trodAll_cons r0
  obtain ⟨rfl, rfl, rfl⟩ := trodAll_nil r1
  obtain rfl : args = #[v0, v1] := by cases args; simp_all
  obtain ⟨rfl, rfl⟩ := trodVars_none hV
  have k0 := h0
  have lt0 : ∀ x ∈ p0, x.block < W.heap.size := by obtain ⟨m, hm⟩ := k0; exact DataW.trod_lt m _ _ _ hm
  obtain ⟨M0, m0, b0⟩ := mem_in (hval 0 25 v0 rfl rfl) h0
  obtain ⟨a1, rfl, rfl, rfl, w1⟩ := open_int Try.underlying3 (hval 1 3 v1 rfl rfl) h1
  clear hA0 hval0
  refine (walk v0 M0 a1 W m0 b0 w1).mono fun e W' ⟨he, bel⟩ => ?_
  subst he
  exact ⟨_, rfl, _, _, _, [], _, [], hW', (trodAll_cons_mk (shut_bool Try.underlying4 _) trodAll_mk0), (trodAll_cons_mk (Below.trod laidOut (by kernel_rfl) (of_decide_eq_true (by kernel_rfl)) k0 bel lt0) (trodAll_cons_mk (shut_int Try.underlying3 w1) trodAll_mk0)), rfl, bel.frame _, fun h => by cases h⟩

theorem said : Rows.FnExactIsSharedSaid :=
  OpenClaim.holds_of_wide 7 Try.f7 rfl rfl rfl rfl rfl rfl rfl ⟨rfl, rfl, rfl, rfl, rfl⟩ rfl rfl rfl rfl rfl (by kernel_rfl) Try.func7 (by kernel_rfl)
    (of_decide_eq_true (by kernel_rfl)) (by unfold Func.isWrapper; first | (rw [if_pos (by decide +kernel)]; kernel_rfl) | (rw [if_neg (by decide +kernel)]; exact ⟨rfl, rfl⟩))
    (fun os started H enc _ => lifted os started H enc)
end Go.Proofs.Ytpdngjjbhcfplal.fnExactIsShared
namespace Go.Proofs.Ytpdngjjbhcfplal
theorem fnExactIsShared_holds : Rows.FnExactIsSharedSaid := fnExactIsShared.said
#print axioms fnExactIsShared_holds
end Go.Proofs.Ytpdngjjbhcfplal
