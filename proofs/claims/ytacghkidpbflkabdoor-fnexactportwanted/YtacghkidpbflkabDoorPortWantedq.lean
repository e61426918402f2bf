/- For every processor and memory the law FnExactPortWanted returns true: impl.PortWanted answers as spec.PortWanted and does not change the memory, the table of kinds being as the program's text lays it. -/
import Derived.Test.YtacghkidpbflkabDoorCards
import Derived.Test.YtacghkidpbflkabDoorTie
import Derived.Test.YtacghkidpbflkabDoorHsq
import Derived.Test.YtacghkidpbflkabDoorHtq
import Derived.Test.YtacghkidpbflkabDoorKcq
import Derived.Test.YtacghkidpbflkabDoorMeq
import Derived.Test.YtacghkidpbflkabDoorMoq
import Derived.Test.YtacghkidpbflkabDoorClq
import Derived.Test.YtacghkidpbflkabDoorCiq
import Derived.Test.YtacghkidpbflkabDoorHiq
import Derived.WalkKit
import Derived.ProofKit
import Derived.OpenShut
import Derived.ShutString
import Derived.ChangeOld
import Derived.Below
import Derived.LaidMore
import Derived.OpenVars
import Derived.SevenTiedAt
import Derived.Stop.Joined
import Derived.Lib.SmallJoins
namespace Go.Proofs.YtacghkidpbflkabDoor.fnExactPortWanted
open Go.ChangeShapes Go.WideShapes Go.ChangeAt Go.RowKit Go.Joins
open Go.ChangeMaps (open_string shut_string)
set_option linter.unusedVariables false

theorem own : ownKnob Tryd.prog.godebug = none := by kernel_rfl
theorem laidOut : laidOutB Tryd.prog = true := by kernel_rfl

set_option maxRecDepth 100000 in
set_option maxHeartbeats 4000000 in
theorem walk (c0 : Cu) (v1 : Value) (M0 : Mem) (w : World) (m0 : MemR w v1 M0) (b0 : Big M0) (hL : Kinds w) :
    Calls Tryd.prog 3 #[cuV c0, v1] w fun e w' => e = .returned (.bool true) ∧ Below w.heap.size w w' := by
  obtain ⟨s1, t1, s2, t2, rfl, _, _⟩ := m0.form
  obtain ⟨Z, X, Y, hv⟩ : ∃ (Z : Int) (X : Bool) (Y : Int), pw3 c0 M0 = .tuple #[.int .i64 Z, .bool X, .int .i64 Y] := by
    unfold pw3
    split
    · split
      · split
        · exact ⟨_, _, _, rfl⟩
        · split <;> exact ⟨_, _, _, rfl⟩
      · exact ⟨_, _, _, rfl⟩
    · exact ⟨_, _, _, rfl⟩
  replace hv := hid hv
  have hs0 := hid (two_newC w (cuA c0) #[.slice s1 M0.rom.length t1, .slice s2 M0.ram.length t2, .int .i64 M0.page, .int .i64 M0.screen, .bool M0.locked] 24 28)
  have y0 := hs0.out.1.cell
  have x0 := hs0.out.2.1.cell
  have hm0 := hid m0
  have hbig : Hid (Big M0) := b0
  replace hL := hid hL
  clear m0 b0
  go_enter Tryd.func3, Tryd.ntmps3
  go_upto_region 1 with fail
  obtain ⟨V, hV⟩ : ∃ V, ((w.alloc (.cells (cuA c0) 24)).alloc (.cells #[.slice s1 M0.rom.length t1, .slice s2 M0.ram.length t2, .int .i64 M0.page, .int .i64 M0.screen, .bool M0.locked] 28)) = V := ⟨_, rfl⟩
  rw [hV] at hs0 y0 x0 ⊢
  clear hV
  have K0 : Hid (∀ W', Below V.heap.size V W' → Blk W' w.heap.size (cuA c0) ∧ Blk W' (w.heap.size + 1) #[.slice s1 M0.rom.length t1, .slice s2 M0.ram.length t2, .int .i64 M0.page, .int .i64 M0.screen, .bool M0.locked] ∧ MemR W' (memV (.slice s1 M0.rom.length t1) (.slice s2 M0.ram.length t2) M0.page M0.screen M0.locked) M0 ∧ Below w.heap.size w W' ∧ w.heap.size + 1 < W'.heap.size) := by
    intro W' hb
    have q := hs0.out.2.1.below hb hs0.out.2.1.lt
    exact ⟨hs0.out.1.below hb hs0.out.1.lt, q, (hm0.out.below hs0.out.2.2).below hb, new_trans hs0.out.2.2 hb, q.lt⟩
  clear hs0 hm0
  go_wp2_with fail
  refine (szm _ M0 _ _ ?_ hbig.out (by omega) (by omega)).mono ?_
  · exact (K0.out _ (Below.refl _ _)).2.2.1
  rintro e w1 ⟨R, rfl, hR, hb1⟩
  obtain ⟨p1, q1, m1, hB1, hz1⟩ := K0.out w1 hb1
  have K1 : Hid (∀ W', Below w1.heap.size w1 W' → Blk W' w.heap.size (cuA c0) ∧ Blk W' (w.heap.size + 1) #[.slice s1 M0.rom.length t1, .slice s2 M0.ram.length t2, .int .i64 M0.page, .int .i64 M0.screen, .bool M0.locked] ∧ MemR W' (memV (.slice s1 M0.rom.length t1) (.slice s2 M0.ram.length t2) M0.page M0.screen M0.locked) M0 ∧ Below w.heap.size w W' ∧ w.heap.size + 1 < W'.heap.size) := fun W' hb => K0.out W' (new_trans hb1 hb)
  have x1 := q1.cell
  have y1 := p1.cell
  replace hB1 := hid hB1
  clear hb1 m1 q1 p1 K0 x0 y0
  rcases hR with hR | ⟨hR, hR2⟩
  · go_wp2
    go_ret
    exact ⟨rfl, hB1.out⟩
  have hs : Hid (Small M0) := by
    unfold Hid Small
    refine ⟨by omega, by omega, by omega⟩
  have hf : Hid (Fit M0) := ⟨by have := hs.out.1; omega, by have := hs.out.2.1; omega, hs.out.rows⟩
  clear hR2 hB1 hbig
  go_upto_region 5 with fail
  have hD1 : Hid (Below w1.heap.size w1 w1.drew) := (Below.refl _ _).drew
  go_cut [6, 7, 8] (fun aa bb cc wx => aa = .int .i64 Z ∧ bb = .bool X ∧ cc = .int .i64 Y ∧ Below w1.heap.size w1 wx)
  case first =>
    go_region_with (first | (go_at_call 10; refine (toc c0 _).mono ?_; rintro e w2 ⟨rfl, hb2⟩; have hg2 := hid (new_trans hD1.out hb2); have x2 := (K1.out _ hg2.out).2.1.cell; clear hb2) | (go_at_call 11; refine (tom _ M0 _ ?_ hs.out).mono ?_; exact (K1.out _ hg2.out).2.2.1; rintro e w3 ⟨u3, rfl, hm3, hb3⟩; have m3 := hid hm3.reads; obtain ⟨y1, y2, y3, y4, rfl, _, _⟩ := hm3.reads.form; have hg3 := hid (new_trans hg2.out hb3); clear hm3 hb3) | (go_at_call 9; refine (pw_spec c0 _ M0 _ m3.out hf.out).mono ?_; rintro e w4 ⟨rfl, hb4⟩; rw [hv.out]; have hg4 := hid (new_trans hg3.out hb4); clear hb4))
    all_goals go_wp2_with fail
    all_goals go_meet
    all_goals exact ⟨rfl, rfl, rfl, hg4.out⟩
  case rest =>
  obtain ⟨rfl, rfl, rfl, hb3⟩ := hcut
  clear hD1
  have K3 : Hid (∀ W', Below wc.heap.size wc W' → Blk W' w.heap.size (cuA c0) ∧ Blk W' (w.heap.size + 1) #[.slice s1 M0.rom.length t1, .slice s2 M0.ram.length t2, .int .i64 M0.page, .int .i64 M0.screen, .bool M0.locked] ∧ MemR W' (memV (.slice s1 M0.rom.length t1) (.slice s2 M0.ram.length t2) M0.page M0.screen M0.locked) M0 ∧ Below w.heap.size w W' ∧ w.heap.size + 1 < W'.heap.size) := fun W' hb => K1.out W' (new_trans hb3 hb)
  have x3 := (K3.out _ (Below.refl _ _)).2.1.cell
  have y3 := (K3.out _ (Below.refl _ _)).1.cell
  clear hb3 K1 x1 y1
  go_wp2_with fail
  refine (tom _ M0 _ ?_ hs.out).mono ?_
  · exact (K3.out _ (Below.refl _ _)).2.2.1
  rintro e w4 ⟨u4, rfl, hm4, hb4⟩
  have m4 := hid hm4.reads
  obtain ⟨c1, d1, c2, d2, rfl, _, _⟩ := hm4.reads.form
  obtain ⟨V4, hV4⟩ : ∃ V4, w4.alloc (.cells #[.slice c1 M0.rom.length d1, .slice c2 M0.ram.length d2, .int .i64 M0.page, .int .i64 M0.screen, .bool M0.locked] 34) = V4 := ⟨_, rfl⟩
  have K4 : Hid (∀ W', Below V4.heap.size V4 W' → Blk W' w.heap.size (cuA c0) ∧ Blk W' (w.heap.size + 1) #[.slice s1 M0.rom.length t1, .slice s2 M0.ram.length t2, .int .i64 M0.page, .int .i64 M0.screen, .bool M0.locked] ∧ MemR W' (memV (.slice s1 M0.rom.length t1) (.slice s2 M0.ram.length t2) M0.page M0.screen M0.locked) M0 ∧ Below w.heap.size w W' ∧ w.heap.size + 1 < W'.heap.size ∧ Blk W' w4.heap.size #[.slice c1 M0.rom.length d1, .slice c2 M0.ram.length d2, .int .i64 M0.page, .int .i64 M0.screen, .bool M0.locked] ∧ MemR W' (memV (.slice c1 M0.rom.length d1) (.slice c2 M0.ram.length d2) M0.page M0.screen M0.locked) M0 ∧ w4.heap.size < W'.heap.size) := by
    intro W' hb
    rw [← hV4] at hb
    have ha : Below w4.heap.size w4 (w4.alloc (.cells #[.slice c1 M0.rom.length d1, .slice c2 M0.ram.length d2, .int .i64 M0.page, .int .i64 M0.screen, .bool M0.locked] 34)) := (Below.refl _ _).alloc (Nat.le_refl _) _
    have hz := hb.size
    rw [World.size_alloc] at hz
    obtain ⟨j0, j1, j2, j3, j4⟩ := K3.out W' (new_trans (new_trans hb4 ha) hb)
    exact ⟨j0, j1, j2, j3, j4, (Blk.new w4 _ _).below hb (by simp), (m4.out.below ha).below hb, by omega⟩
  have y4 := (K4.out _ (Below.refl _ _)).1.cell
  have x4 := (K4.out _ (Below.refl _ _)).2.2.2.2.2.1.cell
  clear hm4 hb4 K3 x3 y3
  go_upto_region 7 with fail
  try rw [hV4]
  clear hV4
  have hD4 : Hid (Below V4.heap.size V4 V4.drew) := (Below.refl _ _).drew
  go_cut [10, 11, 12] (fun aa bb cc wx => aa = .int .i64 Z ∧ bb = .bool X ∧ cc = .int .i64 Y ∧ Below V4.heap.size V4 wx)
  case first =>
    go_region_with (first | (go_at_call 10; refine (toc c0 _).mono ?_; rintro e w2 ⟨rfl, hb2⟩; have hg2 := hid (new_trans hD4.out hb2); have x2 := (K4.out _ hg2.out).2.2.2.2.2.1.cell; clear hb2) | (go_at_call 12; refine (pw_impl c0 _ M0 _ ?_ hf.out ?_).mono ?_; exact (K4.out _ hg2.out).2.2.2.2.2.2.1; exact hL.out.below (K4.out _ hg2.out).2.2.2.1; rintro e w4 ⟨rfl, hb4⟩; rw [hv.out]; have hg4 := hid (new_trans hg2.out hb4); clear hb4))
    all_goals go_wp2_with fail
    all_goals go_meet
    all_goals exact ⟨rfl, rfl, rfl, hg4.out⟩
  case rest =>
  obtain ⟨rfl, rfl, rfl, hb5⟩ := hcut
  clear hD4
  have K5 : Hid (∀ W', Below wc.heap.size wc W' → Blk W' w.heap.size (cuA c0) ∧ Blk W' (w.heap.size + 1) #[.slice s1 M0.rom.length t1, .slice s2 M0.ram.length t2, .int .i64 M0.page, .int .i64 M0.screen, .bool M0.locked] ∧ MemR W' (memV (.slice s1 M0.rom.length t1) (.slice s2 M0.ram.length t2) M0.page M0.screen M0.locked) M0 ∧ Below w.heap.size w W' ∧ w.heap.size + 1 < W'.heap.size ∧ Blk W' w4.heap.size #[.slice c1 M0.rom.length d1, .slice c2 M0.ram.length d2, .int .i64 M0.page, .int .i64 M0.screen, .bool M0.locked] ∧ MemR W' (memV (.slice c1 M0.rom.length d1) (.slice c2 M0.ram.length d2) M0.page M0.screen M0.locked) M0 ∧ w4.heap.size < W'.heap.size) := fun W' hb => K4.out W' (new_trans hb5 hb)
  obtain ⟨p5, q5, _, _, _, r5, _, _⟩ := K5.out _ (Below.refl _ _)
  have x5 := q5.cell
  have z5 := r5.cell
  clear p5 q5 r5 K4 hb5 m4 x4 y4
  go_wp2_with fail
  go_region_with (first | (go_at_call 11; refine (tom _ M0 _ ?_ hs.out).mono ?_; exact (K5.out _ ((Below.refl _ _).drew)).2.2.1; rintro e w6 ⟨u6, rfl, hm6, hb6⟩; have m6 := hid hm6.reads; obtain ⟨e1, f1, e2, f2, rfl, _, _⟩ := hm6.reads.form; have hb6' := hid (new_trans ((Below.refl wc.heap.size wc).drew) hb6); have z6 := (K5.out _ hb6'.out).2.2.2.2.2.1.cell; clear hm6 hb6) | (go_at_call 13; refine (eqm_yes _ _ M0 _ ?_ m6.out hs.out).mono ?_; exact (K5.out _ hb6'.out).2.2.2.2.2.2.1; rintro e w7 ⟨rfl, hb7⟩; replace hb7 := hid hb7))
  all_goals
    have hBe := hid (K5.out _ (new_trans hb6'.out hb7.out)).2.2.2.1
    clear hb7 hb6' m6 K5
    go_wp2
    go_ret
    exact ⟨rfl, hBe.out⟩

theorem door_met (os : Os) (args : Array Value) : laidMetH Tryd.prog Rows.fnExactPortWantedRow.laid ((World.doorLaid Tryd.prog 400 os).forCall (fun _ _ => 0) ⟨#[], args, []⟩).memory :=
  laidMetH_of_parts3 (fuel := 8) (laidMet_of_run' 8 (by kernel_rfl) (by kernel_rfl)) (by kernel_rfl) (by kernel_rfl)

set_option maxRecDepth 100000 in
theorem lifted (os : Os) (started : os.Started) (H : Type) (enc : TypeId × Value → H) :
    ReturnsInHanded {} Tryd.checked os 3 .any (fun w args => (Rows.fnExactPortWantedSpec.pre enc Tryd.prog Tryd.f3 [] false w args ∧ laidMetH Tryd.prog Rows.fnExactPortWantedRow.laid w) ∧ sizedMet enc Tryd.prog Tryd.f3 (OpenSpec.ofChange Rows.fnExactPortWantedSpec) false w args)
      (Rows.fnExactPortWantedSpec.post enc Tryd.prog Tryd.f3 false true false false) := by
  refine returnsInHanded_of_change_and (C := Tryd.checked) (X := fun w _ => laidMetH Tryd.prog Rows.fnExactPortWantedRow.laid w) (fun _ _ _ hh h => h.of_heap hh) own started (by kernel_rfl) Tryd.func3
    (ChangeSpec.witness_shaped (enc := enc) (C := Tryd.checked) (os := os) (X := fun w _ => laidMetH Tryd.prog Rows.fnExactPortWantedRow.laid w) false (World.doorLaid Tryd.prog 400 os) #[cuV ⟨0, 0, 0, 0, 0, 0, 0, 0, 0, 0, 0, false, false, false⟩, .agg #[.slice none 0 0, .slice none 0 0, .int .i64 0, .int .i64 0, .bool false]] 8 rfl (World.shaped_of_RefB (by kernel_rfl) (by kernel_rfl)) (by kernel_rfl) (by kernel_rfl) (by kernel_rfl) (door_met os _)) ?_
  intro W base args ds gs before hval0 hW _ _ hL _
  have hval : ∀ (j : Nat) t v, Tryd.f3.params[j]? = some t → args[j]? = some v → Value.okWide Tryd.prog W .any base t v := hval0
  have hW' := hW
  obtain ⟨p, q, hA0, hV, hbefore, hfz, hnd⟩ := hW
  have hA : DataW.TrodAll enc Tryd.prog W 0 (fun _ => true) true Tryd.f3.params.toList args.toList ds p := hA0
  rw [Tryd.params3] at hA hval
  obtain ⟨v0, vs0, d0, ds0, p0, q0, hargs, rfl, rfl, h0, r0⟩ := trodAll_cons hA
  obtain ⟨v1, vs1, d1, ds1, p1, q1, rfl, rfl, rfl, h1, r1⟩ := trodAll_cons r0
  obtain ⟨rfl, rfl, rfl⟩ := trodAll_nil r1
  obtain rfl : args = #[v0, v1] := by cases args; simp_all
  obtain ⟨g0, rfl⟩ := vars1_form hV
  have k0 := h0
  have lt0 : ∀ x ∈ p0, x.block < W.heap.size := by obtain ⟨m, hm⟩ := k0; exact DataW.trod_lt m _ _ _ hm
  obtain ⟨c0, rfl⟩ := cpu_in (hval 0 24 v0 rfl rfl) h0
  have k1 := h1
  have lt1 : ∀ x ∈ p1, x.block < W.heap.size := by obtain ⟨m, hm⟩ := k1; exact DataW.trod_lt m _ _ _ hm
  obtain ⟨M0, m0, b0⟩ := mem_in (hval 1 28 v1 rfl rfl) h1
  clear hA0 hval0
  refine (walk c0 v1 M0 W m0 b0 (kinds_of hL)).mono fun e W' ⟨he, bel⟩ => ?_
  subst he
  exact ⟨_, rfl, _, _, _, [], _, _, hW', trodAll_mk1 (shut_bool Tryd.underlying4 _), (trodAll_cons_mk (Below.trod laidOut (by kernel_rfl) (of_decide_eq_true (by kernel_rfl)) k0 bel lt0) (trodAll_cons_mk (Below.trod laidOut (by kernel_rfl) (of_decide_eq_true (by kernel_rfl)) k1 bel lt1) trodAll_mk0)), Below.trodVars laidOut bel (by kernel_rfl) hV, bel.frame _, fun h => by cases h⟩

theorem said : Rows.FnExactPortWantedSaid :=
  OpenClaim.holds_of_wide 3 Tryd.f3 rfl rfl rfl rfl rfl rfl rfl ⟨rfl, rfl, rfl, rfl, rfl⟩ rfl rfl rfl rfl rfl (by kernel_rfl) Tryd.func3 (by kernel_rfl)
    (of_decide_eq_true (by kernel_rfl)) (by unfold Func.isWrapper; first | (rw [if_pos (by decide +kernel)]; kernel_rfl) | (rw [if_neg (by decide +kernel)]; exact ⟨rfl, rfl⟩))
    (fun os started H enc _ => lifted os started H enc)

theorem card : Rows.FnExactPortWantedCardSaid :=
  Claim7.holds_tied_plain_at .later [] _ _ _ _ said (fun _ h => by cases h) (by kernel_rfl) (fun _ h => by cases h) fnExactPortWanted_row_tie rfl ⟨rfl, rfl⟩ (by kernel_rfl) rfl
    (fun f fn hf hfn => by
      obtain rfl : f = 3 := Option.some.inj ((show Tryd.prog.funcNamed "loop.example/g00644/laws.FnExactPortWanted" = some 3 by kernel_rfl).symm.trans hf) |>.symm
      obtain rfl : fn = Tryd.f3 := (Option.some.inj (Tryd.func3.symm.trans hfn)).symm
      exact ⟨by kernel_rfl, fun j t ht => by
        rw [Tryd.params3] at ht
        have hm : t ∈ [24, 28] := by simpa using Array.mem_of_getElem? ht
        have hall : ([24, 28].all fun u => !Tryd.prog.wantsStandIn u) = true := by kernel_rfl
        exact (show Tryd.prog.wantsStandIn t = false by simpa using List.all_eq_true.1 hall t hm)⟩)
    (by kernel_rfl)
end Go.Proofs.YtacghkidpbflkabDoor.fnExactPortWanted
namespace Go.Proofs.YtacghkidpbflkabDoor
theorem fnExactPortWanted_holds : Rows.FnExactPortWantedCardSaid := fnExactPortWanted.card
#print axioms fnExactPortWanted_holds
end Go.Proofs.YtacghkidpbflkabDoor
