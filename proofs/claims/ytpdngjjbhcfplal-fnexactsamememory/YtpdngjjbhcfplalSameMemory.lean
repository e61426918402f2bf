/- For any two memories the law FnExactSameMemory returns true: impl.SameMemory answers as spec.SameMemory and changes nothing. -/
import Derived.Test.YtpdngjjbhcfplalRows
import Derived.Test.YtpdngjjbhcfplalBase
import Derived.Test.YtpdngjjbhcfplalIn
import Derived.Test.YtpdngjjbhcfplalBt
import Derived.Test.YtpdngjjbhcfplalMa
import Derived.Test.YtpdngjjbhcfplalMb
import Derived.Test.YtpdngjjbhcfplalMc
import Derived.Test.YtpdngjjbhcfplalMd
import Derived.Test.YtpdngjjbhcfplalBl
import Derived.Test.YtpdngjjbhcfplalMe
import Derived.Test.YtpdngjjbhcfplalMf
import Derived.Test.YtpdngjjbhcfplalMg
import Derived.Test.YtpdngjjbhcfplalMh
import Derived.Test.YtpdngjjbhcfplalMi
import Derived.Test.YtpdngjjbhcfplalMj
import Derived.Test.YtpdngjjbhcfplalMk
import Derived.Test.YtpdngjjbhcfplalMl
import Derived.Test.YtpdngjjbhcfplalMn
import Derived.Test.YtpdngjjbhcfplalMo
import Derived.Test.YtpdngjjbhcfplalBa
import Derived.Test.YtpdngjjbhcfplalBb
import Derived.Test.YtpdngjjbhcfplalBi
import Derived.WalkKit
import Derived.ProofKit
import Derived.OpenShut
import Derived.ShutString
import Derived.ChangeOld
import Derived.Below
import Derived.Lib.SmallJoins
namespace Go.Proofs.Ytpdngjjbhcfplal.fnExactSameMemory
open Go.ChangeShapes Go.WideShapes Go.ChangeAt Go.RowKit Go.Joins
open Go.ChangeMaps (open_string shut_string)
set_option linter.unusedVariables false

theorem own : ownKnob Try.prog.godebug = none := by kernel_rfl
theorem laidOut : laidOutB Try.prog = true := by kernel_rfl

set_option maxRecDepth 100000 in
set_option maxHeartbeats 8000000 in
theorem walk (v0 : Value) (M0 : Mem) (v1 : Value) (M1 : Mem) (w : World) (m0 : MemR w v0 M0) (b0 : Big M0) (m1 : MemR w v1 M1) (b1 : Big M1) :
    Calls Try.prog 8 #[v0, v1] w fun e w' => e = .returned (.bool true) ∧ Below w.heap.size w w' := by
  obtain ⟨s1, t1, s2, t2, rfl, _, _⟩ := m0.form
  obtain ⟨p1, q1, p2, q2, rfl, _, _⟩ := m1.form
  have hB0 : Hid (∀ o o', Below w.heap.size w ((w.alloc o).alloc o')) := fun o o' => ((Below.refl _ _).alloc (Nat.le_refl _) _).alloc (by simp) _
  have K0 : Hid (∀ W', Below ((w.alloc (.cells #[.slice s1 M0.rom.length t1, .slice s2 M0.ram.length t2, .int .i64 M0.page, .int .i64 M0.screen, .bool M0.locked] 25)).alloc (.cells #[.slice p1 M1.rom.length q1, .slice p2 M1.ram.length q2, .int .i64 M1.page, .int .i64 M1.screen, .bool M1.locked] 25)).heap.size ((w.alloc (.cells #[.slice s1 M0.rom.length t1, .slice s2 M0.ram.length t2, .int .i64 M0.page, .int .i64 M0.screen, .bool M0.locked] 25)).alloc (.cells #[.slice p1 M1.rom.length q1, .slice p2 M1.ram.length q2, .int .i64 M1.page, .int .i64 M1.screen, .bool M1.locked] 25)) W' → Blk W' w.heap.size #[.slice s1 M0.rom.length t1, .slice s2 M0.ram.length t2, .int .i64 M0.page, .int .i64 M0.screen, .bool M0.locked] ∧ Blk W' (w.heap.size + 1) #[.slice p1 M1.rom.length q1, .slice p2 M1.ram.length q2, .int .i64 M1.page, .int .i64 M1.screen, .bool M1.locked] ∧ MemR W' (memV (.slice s1 M0.rom.length t1) (.slice s2 M0.ram.length t2) M0.page M0.screen M0.locked) M0 ∧ MemR W' (memV (.slice p1 M1.rom.length q1) (.slice p2 M1.ram.length q2) M1.page M1.screen M1.locked) M1 ∧ Below w.heap.size w W' ∧ w.heap.size + 1 < W'.heap.size) := by
    intro W' hb
    have hz := hb.size
    simp only [World.size_alloc] at hz
    have r := (Blk.new (w.alloc (.cells #[.slice s1 M0.rom.length t1, .slice s2 M0.ram.length t2, .int .i64 M0.page, .int .i64 M0.screen, .bool M0.locked] 25)) #[.slice p1 M1.rom.length q1, .slice p2 M1.ram.length q2, .int .i64 M1.page, .int .i64 M1.screen, .bool M1.locked] 25).below hb (by simp)
    rw [World.size_alloc] at r
    exact ⟨((Blk.new w _ _).alloc _).below hb (by simp; omega), r, (m0.below (hB0.out _ _)).below hb, (m1.below (hB0.out _ _)).below hb, (hB0.out _ _).trans (hb.mono (by simp; omega)), by omega⟩
  obtain ⟨sv, hv⟩ : ∃ sv, sameM M0 M1 = sv := ⟨_, rfl⟩
  replace hv := hid hv
  have hbig : Hid (Big M0) := b0
  have hbig1 : Hid (Big M1) := b1
  clear m0 b0 m1 b1
  go_enter Try.func8, Try.ntmps8
  go_wp2_with fail
  refine (szm _ M0 _ _ ?_ hbig.out (by omega) (by omega)).mono ?_
  · exact (K0.out _ (Below.refl _ _)).2.2.1
  rintro e w1 ⟨R, rfl, hR, hb1⟩
  have K1 : Hid (∀ W', Below w1.heap.size w1 W' → Blk W' w.heap.size #[.slice s1 M0.rom.length t1, .slice s2 M0.ram.length t2, .int .i64 M0.page, .int .i64 M0.screen, .bool M0.locked] ∧ Blk W' (w.heap.size + 1) #[.slice p1 M1.rom.length q1, .slice p2 M1.ram.length q2, .int .i64 M1.page, .int .i64 M1.screen, .bool M1.locked] ∧ MemR W' (memV (.slice s1 M0.rom.length t1) (.slice s2 M0.ram.length t2) M0.page M0.screen M0.locked) M0 ∧ MemR W' (memV (.slice p1 M1.rom.length q1) (.slice p2 M1.ram.length q2) M1.page M1.screen M1.locked) M1 ∧ Below w.heap.size w W' ∧ w.heap.size + 1 < W'.heap.size) := fun W' hb => K0.out W' (new_trans hb1 hb)
  have x0 := (K1.out _ (Below.refl _ _)).1.cell
  have x1 := (K1.out _ (Below.refl _ _)).2.1.cell
  have hB1 := hid (K1.out _ (Below.refl _ _)).2.2.2.2.1
  clear hb1 K0
  rcases hR with hR | ⟨hR, hR2⟩
  · go_wp2
    go_ret
    exact ⟨rfl, hB1.out⟩
  have hs : Hid (Small M0) := by
    unfold Hid Small
    refine ⟨by omega, by omega, by omega⟩
  have hf : Hid (Fit M0) := ⟨by have := hs.out.1; omega, by have := hs.out.2.1; omega, hs.out.rows⟩
  have hRl : R ≤ 1000000000 := by omega
  have hRm : R ≤ 1048576 := by omega
  clear hR2 hB1 hbig
  go_wp2_with fail
  refine (szm _ M1 _ _ ?_ hbig1.out hR hRl).mono ?_
  · exact (K1.out _ (Below.refl _ _)).2.2.2.1
  rintro e w2 ⟨R1, rfl, hR1, hb2⟩
  have K2 : Hid (∀ W', Below w2.heap.size w2 W' → Blk W' w.heap.size #[.slice s1 M0.rom.length t1, .slice s2 M0.ram.length t2, .int .i64 M0.page, .int .i64 M0.screen, .bool M0.locked] ∧ Blk W' (w.heap.size + 1) #[.slice p1 M1.rom.length q1, .slice p2 M1.ram.length q2, .int .i64 M1.page, .int .i64 M1.screen, .bool M1.locked] ∧ MemR W' (memV (.slice s1 M0.rom.length t1) (.slice s2 M0.ram.length t2) M0.page M0.screen M0.locked) M0 ∧ MemR W' (memV (.slice p1 M1.rom.length q1) (.slice p2 M1.ram.length q2) M1.page M1.screen M1.locked) M1 ∧ Below w.heap.size w W' ∧ w.heap.size + 1 < W'.heap.size) := fun W' hb => K1.out W' (new_trans hb2 hb)
  clear x0 x1
  have x0 := (K2.out _ (Below.refl _ _)).1.cell
  have x1 := (K2.out _ (Below.refl _ _)).2.1.cell
  have hB2 := hid (K2.out _ (Below.refl _ _)).2.2.2.2.1
  clear hb2 K1
  rcases hR1 with hR1 | ⟨hR1, hR2⟩
  · go_wp2
    go_ret
    exact ⟨rfl, hB2.out⟩
  have hs1 : Hid (Small M1) := by
    unfold Hid Small
    refine ⟨by omega, by omega, by omega⟩
  have hf1 : Hid (Fit M1) := ⟨by have := hs1.out.1; omega, by have := hs1.out.2.1; omega, hs1.out.rows⟩
  have T1 : Hid True := trivial
  clear hR2 hB2 hbig1
  go_wp2_with fail
  go_region_with (first | (clear T1; go_at_call 11; refine (tom _ M0 _ ?_ hs.out).mono ?_; exact (K2.out _ ((Below.refl _ _).drew)).2.2.1; rintro e w3 ⟨u3, rfl, hm3, hb3⟩; have m3 := hid hm3.reads; obtain ⟨e1, f1, e2, f2, rfl, _, _⟩ := hm3.reads.form; have hb3' := hid (new_trans ((Below.refl w2.heap.size w2).drew) hb3); have y1 := (K2.out _ hb3'.out).2.1.cell; clear hm3 hb3) | (go_at_call 11; refine (tom _ M1 _ ?_ hs1.out).mono ?_; exact (K2.out _ hb3'.out).2.2.2.1; rintro e w4 ⟨u4, rfl, hm4, hb4⟩; have m4 := hid hm4.reads; obtain ⟨e3, f3, e4, f4, rfl, _, _⟩ := hm4.reads.form; have m3' := hid (m3.out.below hb4); have hb4' := hid (new_trans hb3'.out hb4); clear hm4 hb4) | (go_at_call 24; refine (same_spec _ _ M0 M1 _ m3'.out m4.out hf.out hf1.out).mono ?_; rintro e w5 ⟨rfl, hb5⟩; rw [hv.out]; have hb5' := hid (new_trans hb4'.out hb5); clear hb5))
  all_goals
    have K5 : Hid (∀ W', Below w5.heap.size w5 W' → Blk W' w.heap.size #[.slice s1 M0.rom.length t1, .slice s2 M0.ram.length t2, .int .i64 M0.page, .int .i64 M0.screen, .bool M0.locked] ∧ Blk W' (w.heap.size + 1) #[.slice p1 M1.rom.length q1, .slice p2 M1.ram.length q2, .int .i64 M1.page, .int .i64 M1.screen, .bool M1.locked] ∧ MemR W' (memV (.slice s1 M0.rom.length t1) (.slice s2 M0.ram.length t2) M0.page M0.screen M0.locked) M0 ∧ MemR W' (memV (.slice p1 M1.rom.length q1) (.slice p2 M1.ram.length q2) M1.page M1.screen M1.locked) M1 ∧ Below w.heap.size w W' ∧ w.heap.size + 1 < W'.heap.size) := fun W' hb => K2.out W' (new_trans hb5'.out hb)
    clear hb5' hb4' hb3' m3 m3' m4 K2 x0 x1 y1
    have x0 := (K5.out _ (Below.refl _ _)).1.cell
    go_wp2_with fail
    refine (tom _ M0 _ ?_ hs.out).mono ?_
    · exact (K5.out _ (Below.refl _ _)).2.2.1
    rintro e w6 ⟨u6, rfl, hm6, hb6⟩
    have m6 := hid hm6.reads
    obtain ⟨i1, j1, i2, j2, rfl, _, _⟩ := hm6.reads.form
    have K6 : Hid (∀ W', Below (w6.alloc (.cells #[.slice i1 M0.rom.length j1, .slice i2 M0.ram.length j2, .int .i64 M0.page, .int .i64 M0.screen, .bool M0.locked] 29)).heap.size (w6.alloc (.cells #[.slice i1 M0.rom.length j1, .slice i2 M0.ram.length j2, .int .i64 M0.page, .int .i64 M0.screen, .bool M0.locked] 29)) W' → Blk W' w.heap.size #[.slice s1 M0.rom.length t1, .slice s2 M0.ram.length t2, .int .i64 M0.page, .int .i64 M0.screen, .bool M0.locked] ∧ Blk W' (w.heap.size + 1) #[.slice p1 M1.rom.length q1, .slice p2 M1.ram.length q2, .int .i64 M1.page, .int .i64 M1.screen, .bool M1.locked] ∧ MemR W' (memV (.slice s1 M0.rom.length t1) (.slice s2 M0.ram.length t2) M0.page M0.screen M0.locked) M0 ∧ MemR W' (memV (.slice p1 M1.rom.length q1) (.slice p2 M1.ram.length q2) M1.page M1.screen M1.locked) M1 ∧ Below w.heap.size w W' ∧ w.heap.size + 1 < W'.heap.size ∧ Blk W' w6.heap.size #[.slice i1 M0.rom.length j1, .slice i2 M0.ram.length j2, .int .i64 M0.page, .int .i64 M0.screen, .bool M0.locked] ∧ MemR W' (memV (.slice i1 M0.rom.length j1) (.slice i2 M0.ram.length j2) M0.page M0.screen M0.locked) M0 ∧ w6.heap.size < W'.heap.size) := by
      intro W' hb
      have ha : Below w6.heap.size w6 (w6.alloc (.cells #[.slice i1 M0.rom.length j1, .slice i2 M0.ram.length j2, .int .i64 M0.page, .int .i64 M0.screen, .bool M0.locked] 29)) := (Below.refl _ _).alloc (Nat.le_refl _) _
      have hz := hb.size
      rw [World.size_alloc] at hz
      obtain ⟨j1, j2, j3, j4, j5, j6⟩ := K5.out W' (new_trans (new_trans hb6 ha) hb)
      exact ⟨j1, j2, j3, j4, j5, j6, (Blk.new w6 _ _).below hb (by simp), (m6.out.below ha).below hb, by omega⟩
    have hz6 := (K5.out _ hb6).2.2.2.2.2
    clear x0 hm6 hb6 K5
    have x1 := (K6.out _ (Below.refl _ _)).2.1.cell
    have hz6' : w.heap.size < w6.heap.size := by omega
    go_wp2_with fail
    refine (tom _ M1 _ ?_ hs1.out).mono ?_
    · exact (K6.out _ (Below.refl _ _)).2.2.2.1
    rintro e w7 ⟨u7, rfl, hm7, hb7⟩
    have m7 := hid hm7.reads
    obtain ⟨k1, l1, k2, l2, rfl, _, _⟩ := hm7.reads.form
    have K7 : Hid (∀ W', Below (w7.alloc (.cells #[.slice k1 M1.rom.length l1, .slice k2 M1.ram.length l2, .int .i64 M1.page, .int .i64 M1.screen, .bool M1.locked] 29)).heap.size (w7.alloc (.cells #[.slice k1 M1.rom.length l1, .slice k2 M1.ram.length l2, .int .i64 M1.page, .int .i64 M1.screen, .bool M1.locked] 29)) W' → Blk W' w.heap.size #[.slice s1 M0.rom.length t1, .slice s2 M0.ram.length t2, .int .i64 M0.page, .int .i64 M0.screen, .bool M0.locked] ∧ Blk W' (w.heap.size + 1) #[.slice p1 M1.rom.length q1, .slice p2 M1.ram.length q2, .int .i64 M1.page, .int .i64 M1.screen, .bool M1.locked] ∧ MemR W' (memV (.slice s1 M0.rom.length t1) (.slice s2 M0.ram.length t2) M0.page M0.screen M0.locked) M0 ∧ MemR W' (memV (.slice p1 M1.rom.length q1) (.slice p2 M1.ram.length q2) M1.page M1.screen M1.locked) M1 ∧ Below w.heap.size w W' ∧ w.heap.size + 1 < W'.heap.size ∧ Blk W' w6.heap.size #[.slice i1 M0.rom.length j1, .slice i2 M0.ram.length j2, .int .i64 M0.page, .int .i64 M0.screen, .bool M0.locked] ∧ MemR W' (memV (.slice i1 M0.rom.length j1) (.slice i2 M0.ram.length j2) M0.page M0.screen M0.locked) M0 ∧ w6.heap.size < W'.heap.size ∧ Blk W' w7.heap.size #[.slice k1 M1.rom.length l1, .slice k2 M1.ram.length l2, .int .i64 M1.page, .int .i64 M1.screen, .bool M1.locked] ∧ MemR W' (memV (.slice k1 M1.rom.length l1) (.slice k2 M1.ram.length l2) M1.page M1.screen M1.locked) M1) := by
      intro W' hb
      have ha : Below w7.heap.size w7 (w7.alloc (.cells #[.slice k1 M1.rom.length l1, .slice k2 M1.ram.length l2, .int .i64 M1.page, .int .i64 M1.screen, .bool M1.locked] 29)) := (Below.refl _ _).alloc (Nat.le_refl _) _
      obtain ⟨j1, j2, j3, j4, j5, j6, j7, j8, j9⟩ := K6.out W' (new_trans (new_trans hb7 ha) hb)
      exact ⟨j1, j2, j3, j4, j5, j6, j7, j8, j9, (Blk.new w7 _ _).below hb (by simp), (m7.out.below ha).below hb⟩
    have hz7 := (K6.out _ hb7).2.2.2.2.2.2.2.2
    clear x1 hm7 hb7 K6 m6
    have x7 := (K7.out _ (Below.refl _ _)).2.2.2.2.2.2.1.cell
    have x8 := (K7.out _ (Below.refl _ _)).2.2.2.2.2.2.2.2.2.1.cell
    obtain ⟨B, hB⟩ : ∃ B, (w7.alloc (.cells #[.slice k1 M1.rom.length l1, .slice k2 M1.ram.length l2, .int .i64 M1.page, .int .i64 M1.screen, .bool M1.locked] 29)) = B := ⟨_, rfl⟩
    rw [hB] at K7 x7 x8
    obtain ⟨c6, hc6⟩ : ∃ c6, w6.heap.size = c6 := ⟨_, rfl⟩
    obtain ⟨c7, hc7⟩ : ∃ c7, w7.heap.size = c7 := ⟨_, rfl⟩
    rw [hc6, hc7] at K7
    rw [hc6] at x7
    rw [hc7] at x8
    go_wp2_with fail
    clear hB hc6 hc7
    refine (same_impl _ _ M0 M1 _ ?_ ?_ hf.out hf1.out).mono ?_
    · exact (K7.out _ (Below.refl _ _)).2.2.2.2.2.2.2.1
    · exact (K7.out _ (Below.refl _ _)).2.2.2.2.2.2.2.2.2.2
    rintro e w8 ⟨rfl, hb8⟩
    rw [hv.out]
    have K8 := hid (fun W' hb => K7.out W' (new_trans hb8 hb))
    clear K7 hb8 x7 x8 m7
    have hvv : (sv != sv) = false := by simp
    have x0 := (K8.out _ (Below.refl _ _)).1.cell
    have x1 := (K8.out _ (Below.refl _ _)).2.1.cell
    have x7 := (K8.out _ (Below.refl _ _)).2.2.2.2.2.2.1.cell
    go_wp2_with fail
    go_region_with (first | (go_at_call 11; refine (tom _ M0 _ ?_ hs.out).mono ?_; exact (K8.out _ ((Below.refl _ _).drew)).2.2.1; rintro e w9 ⟨u9, rfl, hm9, hb9⟩; have m9 := hid hm9.reads; obtain ⟨e1, f1, e2, f2, rfl, _, _⟩ := hm9.reads.form; have hb9' := hid (new_trans ((Below.refl w8.heap.size w8).drew) hb9); have z7 := (K8.out _ hb9'.out).2.2.2.2.2.2.1.cell; clear hm9 hb9) | (go_at_call 13; refine (eqm_yes _ _ M0 _ ?_ m9.out hs.out).mono ?_; exact (K8.out _ hb9'.out).2.2.2.2.2.2.2.1; rintro e w10 ⟨rfl, hb10⟩; replace hb10 := hid hb10))
    all_goals
      have K10 := hid (fun W' hb => K8.out W' (new_trans (new_trans hb9'.out hb10.out) hb))
      clear K8 hb10 hb9' m9 x0 x1 x7 z7
      have x1 := (K10.out _ (Below.refl _ _)).2.1.cell
      have x8 := (K10.out _ (Below.refl _ _)).2.2.2.2.2.2.2.2.2.1.cell
      go_wp2_with fail
      go_region_with (first | (go_at_call 11; refine (tom _ M1 _ ?_ hs1.out).mono ?_; exact (K10.out _ ((Below.refl _ _).drew)).2.2.2.1; rintro e w11 ⟨u11, rfl, hm11, hb11⟩; have m11 := hid hm11.reads; obtain ⟨e1, f1, e2, f2, rfl, _, _⟩ := hm11.reads.form; have hb11' := hid (new_trans ((Below.refl w10.heap.size w10).drew) hb11); have z8 := (K10.out _ hb11'.out).2.2.2.2.2.2.2.2.2.1.cell; clear hm11 hb11) | (go_at_call 13; refine (eqm_yes _ _ M1 _ ?_ m11.out hs1.out).mono ?_; exact (K10.out _ hb11'.out).2.2.2.2.2.2.2.2.2.2; rintro e w12 ⟨rfl, hb12⟩; replace hb12 := hid hb12))
      all_goals
        have hBe := hid (K10.out _ (new_trans hb11'.out hb12.out)).2.2.2.2.1
        clear K10 hb12 hb11' m11
        go_wp2
        go_ret
        exact ⟨rfl, hBe.out⟩

set_option maxRecDepth 100000 in
theorem lifted (os : Os) (started : os.Started) (H : Type) (enc : TypeId × Value → H) :
    ReturnsInHanded {} Try.checked os 8 .any (Rows.fnExactSameMemorySpec.pre6 enc Try.prog Try.f8 Rows.fnExactSameMemoryRow.domain false) (Rows.fnExactSameMemorySpec.post enc Try.prog Try.f8 false true false false) := by
  refine returnsInHanded_of_change (C := Try.checked) own started (by kernel_rfl) Try.func8
    (ChangeSpec.witness6 (enc := enc) (C := Try.checked) false ⟨#[], #[.agg #[.slice none 0 0, .slice none 0 0, .int .i64 0, .int .i64 0, .bool false], .agg #[.slice none 0 0, .slice none 0 0, .int .i64 0, .int .i64 0, .bool false]], []⟩ 8 (by kernel_rfl) (by kernel_rfl) (by kernel_rfl) (by kernel_rfl)) ?_
  intro W base args ds gs before hval0 hW hcnd _
  have hval : ∀ (j : Nat) t v, Try.f8.params[j]? = some t → args[j]? = some v → Value.okWide Try.prog W .any base t v := hval0
  have hW' := hW
  obtain ⟨p, q, hA0, hV, rfl, hfz, hnd⟩ := hW
  have hA : DataW.TrodAll enc Try.prog W 0 (fun _ => true) true Try.f8.params.toList args.toList ds p := hA0
  rw [Try.params8] at hA hval
  obtain ⟨v0, vs0, d0, ds0, p0, q0, hargs, rfl, rfl, h0, r0⟩ := trodAll_cons hA
  obtain ⟨v1, vs1, d1, ds1, p1, q1, rfl, rfl, rfl, h1, r1⟩ := trodAll_cons r0
  obtain ⟨rfl, rfl, rfl⟩ := trodAll_nil r1
  obtain rfl : args = #[v0, v1] := by cases args; simp_all
  obtain ⟨rfl, rfl⟩ := trodVars_none hV
  have k0 := h0
  have lt0 : ∀ x ∈ p0, x.block < W.heap.size := by obtain ⟨m, hm⟩ := k0; exact DataW.trod_lt m _ _ _ hm
  obtain ⟨M0, m0, b0⟩ := mem_in (hval 0 25 v0 rfl rfl) h0
  have k1 := h1
  have lt1 : ∀ x ∈ p1, x.block < W.heap.size := by obtain ⟨m, hm⟩ := k1; exact DataW.trod_lt m _ _ _ hm
  obtain ⟨M1, m1, b1⟩ := mem_in (hval 1 25 v1 rfl rfl) h1
  clear hA0 hval0
  refine (walk v0 M0 v1 M1 W m0 b0 m1 b1).mono fun e W' ⟨he, bel⟩ => ?_
  subst he
  exact ⟨_, rfl, _, _, _, [], _, [], hW', (trodAll_cons_mk (shut_bool Try.underlying4 _) trodAll_mk0), (trodAll_cons_mk (Below.trod laidOut (by kernel_rfl) (of_decide_eq_true (by kernel_rfl)) k0 bel lt0) (trodAll_cons_mk (Below.trod laidOut (by kernel_rfl) (of_decide_eq_true (by kernel_rfl)) k1 bel lt1) trodAll_mk0)), rfl, bel.frame _, fun h => by cases h⟩

theorem said : Rows.FnExactSameMemorySaid :=
  OpenClaim.holds_of_wide 8 Try.f8 rfl rfl rfl rfl rfl rfl rfl ⟨rfl, rfl, rfl, rfl, rfl⟩ rfl rfl rfl rfl rfl (by kernel_rfl) Try.func8 (by kernel_rfl)
    (of_decide_eq_true (by kernel_rfl)) (by unfold Func.isWrapper; first | (rw [if_pos (by decide +kernel)]; kernel_rfl) | (rw [if_neg (by decide +kernel)]; exact ⟨rfl, rfl⟩))
    (fun os started H enc _ => lifted os started H enc)
end Go.Proofs.Ytpdngjjbhcfplal.fnExactSameMemory
namespace Go.Proofs.Ytpdngjjbhcfplal
theorem fnExactSameMemory_holds : Rows.FnExactSameMemorySaid := fnExactSameMemory.said
#print axioms fnExactSameMemory_holds
end Go.Proofs.Ytpdngjjbhcfplal
