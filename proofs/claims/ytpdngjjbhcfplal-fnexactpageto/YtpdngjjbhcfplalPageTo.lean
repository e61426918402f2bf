/- For every memory and number the law FnExactPageTo returns true: impl.PageTo answers as spec.PageTo, in memory of its own, and changes nothing. -/
import Derived.Test.YtpdngjjbhcfplalRows
import Derived.Test.YtpdngjjbhcfplalBase
import Derived.Test.YtpdngjjbhcfplalIn
import Derived.Test.YtpdngjjbhcfplalBt
import Derived.Test.YtpdngjjbhcfplalMa
import Derived.Test.YtpdngjjbhcfplalMb
import Derived.Test.YtpdngjjbhcfplalMc
import Derived.Test.YtpdngjjbhcfplalMd
import Derived.Test.YtpdngjjbhcfplalBl
import Derived.Test.YtpdngjjbhcfplalMe
import Derived.Test.YtpdngjjbhcfplalMf
import Derived.Test.YtpdngjjbhcfplalMg
import Derived.Test.YtpdngjjbhcfplalMh
import Derived.Test.YtpdngjjbhcfplalMi
import Derived.Test.YtpdngjjbhcfplalMj
import Derived.Test.YtpdngjjbhcfplalMk
import Derived.Test.YtpdngjjbhcfplalMl
import Derived.Test.YtpdngjjbhcfplalMn
import Derived.Test.YtpdngjjbhcfplalMo
import Derived.Test.YtpdngjjbhcfplalMp
import Derived.Test.YtpdngjjbhcfplalBa
import Derived.Test.YtpdngjjbhcfplalBb
import Derived.Test.YtpdngjjbhcfplalBc
import Derived.Test.YtpdngjjbhcfplalBd
import Derived.Test.YtpdngjjbhcfplalBe
import Derived.Test.YtpdngjjbhcfplalBf
import Derived.Test.YtpdngjjbhcfplalBg
import Derived.Test.YtpdngjjbhcfplalBh
import Derived.WalkKit
import Derived.ProofKit
import Derived.OpenShut
import Derived.ShutString
import Derived.ChangeOld
import Derived.Below
import Derived.Lib.SmallJoins
namespace Go.Proofs.Ytpdngjjbhcfplal.fnExactPageTo
open Go.ChangeShapes Go.WideShapes Go.ChangeAt Go.RowKit Go.Joins
open Go.ChangeMaps (open_string shut_string)
set_option linter.unusedVariables false

theorem own : ownKnob Try.prog.godebug = none := by kernel_rfl
theorem laidOut : laidOutB Try.prog = true := by kernel_rfl

set_option maxRecDepth 100000 in
set_option maxHeartbeats 8000000 in
theorem walk (v0 : Value) (M0 : Mem) (a1 : Int) (w : World) (m0 : MemR w v0 M0) (b0 : Big M0) (w1 : (Lit.int .i64 a1).wf = true) :
    Calls Try.prog 6 #[v0, .int .i64 a1] w fun e w' => e = .returned (.bool true) ∧ Below w.heap.size w w' := by
  obtain ⟨s1, t1, s2, t2, rfl, _, _⟩ := m0.form
  have hB0 : Hid (∀ o, Below w.heap.size w (w.alloc o)) := fun o => (Below.refl _ _).alloc (Nat.le_refl _) _
  have hM0 : Hid (∀ W', Below w.heap.size w W' → MemR W' (memV (.slice s1 M0.rom.length t1) (.slice s2 M0.ram.length t2) M0.page M0.screen M0.locked) M0) := fun W' hb => m0.below hb
  have K0 : Hid (∀ W', Below (w.alloc (.cells #[.slice s1 M0.rom.length t1, .slice s2 M0.ram.length t2, .int .i64 M0.page, .int .i64 M0.screen, .bool M0.locked] 25)).heap.size (w.alloc (.cells #[.slice s1 M0.rom.length t1, .slice s2 M0.ram.length t2, .int .i64 M0.page, .int .i64 M0.screen, .bool M0.locked] 25)) W' → Blk W' w.heap.size #[.slice s1 M0.rom.length t1, .slice s2 M0.ram.length t2, .int .i64 M0.page, .int .i64 M0.screen, .bool M0.locked] ∧ MemR W' (memV (.slice s1 M0.rom.length t1) (.slice s2 M0.ram.length t2) M0.page M0.screen M0.locked) M0 ∧ Below w.heap.size w W' ∧ w.heap.size < W'.heap.size) := by
    intro W' hb
    have hz := hb.size
    rw [World.size_alloc] at hz
    exact ⟨(Blk.new w _ _).below hb (by simp), (m0.below (hB0.out _)).below hb, (hB0.out _).trans (hb.mono (by simp)), by omega⟩
  have hbig : Hid (Big M0) := b0
  obtain ⟨M8, hM8⟩ : ∃ M8, pageR M0 a1 = M8 := ⟨_, rfl⟩
  obtain ⟨C8, hC8⟩ : ∃ C8, pageC M0 a1 = C8 := ⟨_, rfl⟩
  have hsm := fun h => page_small (M := M0) h a1
  rw [hM8] at hsm
  replace hsm := hid hsm
  replace hM8 := hid hM8
  replace hC8 := hid hC8
  clear m0 b0
  go_enter Try.func6, Try.ntmps6
  go_wp2_with fail
  refine (szm _ M0 _ _ ?_ hbig.out (by omega) (by omega)).mono ?_
  · exact (K0.out _ (Below.refl _ _)).2.1
  rintro e w1 ⟨R, rfl, hR, hb1⟩
  obtain ⟨q1, m1, hB1, hz1⟩ := K0.out w1 hb1
  have K1 : Hid (∀ W', Below w1.heap.size w1 W' → Blk W' w.heap.size #[.slice s1 M0.rom.length t1, .slice s2 M0.ram.length t2, .int .i64 M0.page, .int .i64 M0.screen, .bool M0.locked] ∧ MemR W' (memV (.slice s1 M0.rom.length t1) (.slice s2 M0.ram.length t2) M0.page M0.screen M0.locked) M0 ∧ Below w.heap.size w W' ∧ w.heap.size < W'.heap.size) := fun W' hb => K0.out W' (new_trans hb1 hb)
  have x1 := q1.cell
  replace hB1 := hid hB1
  clear hb1 m1 q1 K0
  rcases hR with hR | ⟨hR, hR2⟩
  · go_wp2
    go_ret
    exact ⟨rfl, hB1.out⟩
  have hs : Hid (Small M0) := by
    unfold Hid Small
    refine ⟨by omega, by omega, by omega⟩
  have hf : Hid (Fit M0) := ⟨by have := hs.out.1; omega, by have := hs.out.2.1; omega, hs.out.rows⟩
  have hs8 : Hid (Small M8) := hsm.out hs.out
  clear hR2 hB1 hbig hsm
  -- the specification's answer
  go_wp2_with fail
  refine (tom _ M0 _ ?_ hs.out).mono ?_
  · exact (K1.out _ (Below.refl _ _)).2.1
  rintro e w2 ⟨u2, rfl, hm2, hb2⟩
  have m2 := hid hm2.reads
  obtain ⟨y1, y2, y3, y4, rfl, _, _⟩ := hm2.reads.form
  have K2 : Hid (∀ W', Below w2.heap.size w2 W' → Blk W' w.heap.size #[.slice s1 M0.rom.length t1, .slice s2 M0.ram.length t2, .int .i64 M0.page, .int .i64 M0.screen, .bool M0.locked] ∧ MemR W' (memV (.slice s1 M0.rom.length t1) (.slice s2 M0.ram.length t2) M0.page M0.screen M0.locked) M0 ∧ Below w.heap.size w W' ∧ w.heap.size < W'.heap.size) := fun W' hb => K1.out W' (new_trans hb2 hb)
  have hz2 := (K2.out _ (Below.refl _ _)).2.2.2
  clear hm2 hb2 K1 x1
  go_wp2_with fail
  refine (page_spec _ M0 a1 _ m2.out hf.out).mono ?_
  rintro e w3 ⟨u3, rfl, hm3, hb3⟩
  rw [hM8.out] at hm3
  rw [hC8.out]
  obtain ⟨l8, hl8⟩ : ∃ l8, w2.heap.size = l8 := ⟨_, rfl⟩
  rw [hl8] at hm3 hz2
  have hz3 := hb3.size
  rw [hl8] at hz3
  obtain ⟨g1, h1, g2, h2, rfl, _, _⟩ := hm3.reads.form
  have K3 : Hid (∀ W', Below (w3.alloc (.cells #[.slice g1 M8.rom.length h1, .slice g2 M8.ram.length h2, .int .i64 M8.page, .int .i64 M8.screen, .bool M8.locked] 29)).heap.size (w3.alloc (.cells #[.slice g1 M8.rom.length h1, .slice g2 M8.ram.length h2, .int .i64 M8.page, .int .i64 M8.screen, .bool M8.locked] 29)) W' → Blk W' w.heap.size #[.slice s1 M0.rom.length t1, .slice s2 M0.ram.length t2, .int .i64 M0.page, .int .i64 M0.screen, .bool M0.locked] ∧ MemR W' (memV (.slice s1 M0.rom.length t1) (.slice s2 M0.ram.length t2) M0.page M0.screen M0.locked) M0 ∧ Below w.heap.size w W' ∧ w.heap.size < W'.heap.size) := fun W' hb => K2.out W' (new_trans (new_trans hb3 ((Below.refl _ _).alloc (Nat.le_refl _) _)) hb)
  have x3 := (K3.out _ (Below.refl _ _)).1.cell
  replace hm3 := hid hm3
  clear m2 hb3 K2 hl8
  -- the program's argument
  go_wp2_with fail
  refine (tom _ M0 _ ?_ hs.out).mono ?_
  · exact (K3.out _ (Below.refl _ _)).2.1
  rintro e w4 ⟨u4, rfl, hm4, hb4⟩
  rw [World.size_alloc] at hm4
  obtain ⟨i1, j1, i2, j2, rfl, _, _⟩ := hm4.reads.form
  have hz4 := hb4.size
  rw [World.size_alloc] at hz4
  have L4 : Hid (Below (w3.heap.size + 1) (w3.alloc (.cells #[.slice g1 M8.rom.length h1, .slice g2 M8.ram.length h2, .int .i64 M8.page, .int .i64 M8.screen, .bool M8.locked] 29)) w4) := by
    have := hb4
    rw [World.size_alloc] at this
    exact this
  have q8 : Hid (Blk w4 w3.heap.size #[.slice g1 M8.rom.length h1, .slice g2 M8.ram.length h2, .int .i64 M8.page, .int .i64 M8.screen, .bool M8.locked]) := (Blk.new w3 _ _).below L4.out (by omega)
  have m8 : Hid (MemO w4 l8 w3.heap.size (memV (.slice g1 M8.rom.length h1) (.slice g2 M8.ram.length h2) M8.page M8.screen M8.locked) M8) := (hm3.out.kept (fun b _ hb => Below.heap_alloc w3 (.cells #[.slice g1 M8.rom.length h1, .slice g2 M8.ram.length h2, .int .i64 M8.page, .int .i64 M8.screen, .bool M8.locked] 29) b hb)).below L4.out (by omega)
  have K4 : Hid (∀ W', Below (w4.alloc (.cells #[.slice i1 M0.rom.length j1, .slice i2 M0.ram.length j2, .int .i64 M0.page, .int .i64 M0.screen, .bool M0.locked] 29)).heap.size (w4.alloc (.cells #[.slice i1 M0.rom.length j1, .slice i2 M0.ram.length j2, .int .i64 M0.page, .int .i64 M0.screen, .bool M0.locked] 29)) W' → Blk W' w.heap.size #[.slice s1 M0.rom.length t1, .slice s2 M0.ram.length t2, .int .i64 M0.page, .int .i64 M0.screen, .bool M0.locked] ∧ MemR W' (memV (.slice s1 M0.rom.length t1) (.slice s2 M0.ram.length t2) M0.page M0.screen M0.locked) M0 ∧ Below w.heap.size w W' ∧ w.heap.size < W'.heap.size) := fun W' hb => K3.out W' (new_trans (new_trans hb4 ((Below.refl _ _).alloc (Nat.le_refl _) _)) hb)
  have x4 := (Blk.new w4 #[.slice i1 M0.rom.length j1, .slice i2 M0.ram.length j2, .int .i64 M0.page, .int .i64 M0.screen, .bool M0.locked] 29).cell
  replace hm4 := hid hm4
  clear hb4 K3 x3 hm3 L4
  go_wp2_with fail
  refine (page_impl _ M0 a1 _ ?_ hf.out).mono ?_
  · exact MemR.below hm4.out.reads ((Below.refl _ _).alloc (Nat.le_refl _) _)
  rintro e w5 ⟨u5, rfl, hm5, hb5⟩
  rw [hM8.out] at hm5
  rw [hC8.out]
  rw [World.size_alloc] at hm5
  obtain ⟨k1, l1, k2, l2, rfl, _, _⟩ := hm5.reads.form
  have hz5 := hb5.size
  rw [World.size_alloc] at hz5
  have S0 : Hid (PSt w (w5.alloc (.cells #[.slice k1 M8.rom.length l1, .slice k2 M8.ram.length l2, .int .i64 M8.page, .int .i64 M8.screen, .bool M8.locked] 29)) #[.slice s1 M0.rom.length t1, .slice s2 M0.ram.length t2, .int .i64 M0.page, .int .i64 M0.screen, .bool M0.locked] #[.slice g1 M8.rom.length h1, .slice g2 M8.ram.length h2, .int .i64 M8.page, .int .i64 M8.screen, .bool M8.locked] #[.slice i1 M0.rom.length j1, .slice i2 M0.ram.length j2, .int .i64 M0.page, .int .i64 M0.screen, .bool M0.locked] #[.slice k1 M8.rom.length l1, .slice k2 M8.ram.length l2, .int .i64 M8.page, .int .i64 M8.screen, .bool M8.locked] l8 w3.heap.size (w3.heap.size + 1) w4.heap.size (w4.heap.size + 1) w5.heap.size (memV (.slice g1 M8.rom.length h1) (.slice g2 M8.ram.length h2) M8.page M8.screen M8.locked) (memV (.slice i1 M0.rom.length j1) (.slice i2 M0.ram.length j2) M0.page M0.screen M0.locked) (memV (.slice k1 M8.rom.length l1) (.slice k2 M8.ram.length l2) M8.page M8.screen M8.locked) M8 M0 M8) := by
    have hb5' : Below (w4.heap.size + 1) (w4.alloc (.cells #[.slice i1 M0.rom.length j1, .slice i2 M0.ram.length j2, .int .i64 M0.page, .int .i64 M0.screen, .bool M0.locked] 29)) w5 := by
      have := hb5
      rw [World.size_alloc] at this
      exact this
    have ha4 : Below w4.heap.size w4 (w4.alloc (.cells #[.slice i1 M0.rom.length j1, .slice i2 M0.ram.length j2, .int .i64 M0.page, .int .i64 M0.screen, .bool M0.locked] 29)) := (Below.refl _ _).alloc (Nat.le_refl _) _
    have ha5 : Below w5.heap.size w5 (w5.alloc (.cells #[.slice k1 M8.rom.length l1, .slice k2 M8.ram.length l2, .int .i64 M8.page, .int .i64 M8.screen, .bool M8.locked] 29)) := (Below.refl _ _).alloc (Nat.le_refl _) _
    have hK := K4.out (w5.alloc (.cells #[.slice k1 M8.rom.length l1, .slice k2 M8.ram.length l2, .int .i64 M8.page, .int .i64 M8.screen, .bool M8.locked] 29)) (new_trans hb5 ha5)
    refine ⟨⟨hz2, hz3, by omega, by omega, by omega, by omega, by simp⟩, hK.1, ?_, ?_, Blk.new w5 _ _, ?_, ?_, ?_, hK.2.2.1⟩
    · exact ((q8.out.below ha4 (by omega)).below hb5' (by omega)).below ha5 (by omega)
    · exact ((Blk.new w4 _ _).below hb5' (by omega)).below ha5 (by omega)
    · exact ((m8.out.below ha4 (by omega)).below hb5' (by omega)).below ha5 (by omega)
    · exact ((hm4.out.below ha4 (by omega)).below hb5' (by omega)).below ha5 (by omega)
    · exact hm5.below ha5 (by omega)
  have hA : Hid (∀ W Mx Mg, PSt w W #[.slice s1 M0.rom.length t1, .slice s2 M0.ram.length t2, .int .i64 M0.page, .int .i64 M0.screen, .bool M0.locked] #[.slice g1 M8.rom.length h1, .slice g2 M8.ram.length h2, .int .i64 M8.page, .int .i64 M8.screen, .bool M8.locked] #[.slice i1 M0.rom.length j1, .slice i2 M0.ram.length j2, .int .i64 M0.page, .int .i64 M0.screen, .bool M0.locked] #[.slice k1 M8.rom.length l1, .slice k2 M8.ram.length l2, .int .i64 M8.page, .int .i64 M8.screen, .bool M8.locked] l8 w3.heap.size (w3.heap.size + 1) w4.heap.size (w4.heap.size + 1) w5.heap.size (memV (.slice g1 M8.rom.length h1) (.slice g2 M8.ram.length h2) M8.page M8.screen M8.locked) (memV (.slice i1 M0.rom.length j1) (.slice i2 M0.ram.length j2) M0.page M0.screen M0.locked) (memV (.slice k1 M8.rom.length l1) (.slice k2 M8.ram.length l2) M8.page M8.screen M8.locked) M8 Mx Mg → MemR W (memV (.slice s1 M0.rom.length t1) (.slice s2 M0.ram.length t2) M0.page M0.screen M0.locked) M0) := fun W Mx Mg h => hM0.out W h.bel
  clear hb5 K4 x4 hm4 hm5 q8 m8 hz2 hM0
  obtain ⟨W5, hW5⟩ : ∃ W5, (w5.alloc (.cells #[.slice k1 M8.rom.length l1, .slice k2 M8.ram.length l2, .int .i64 M8.page, .int .i64 M8.screen, .bool M8.locked] 29)) = W5 := ⟨_, rfl⟩
  obtain ⟨b8, hb8⟩ : ∃ b8, w3.heap.size = b8 := ⟨_, rfl⟩
  obtain ⟨b10, hb10⟩ : ∃ b10, w4.heap.size = b10 := ⟨_, rfl⟩
  obtain ⟨b11, hb11⟩ : ∃ b11, w5.heap.size = b11 := ⟨_, rfl⟩
  rw [hW5] at S0
  rw [hb8, hb10, hb11] at S0 hA
  have x0 := S0.out.q0.cell
  have x8 := S0.out.q8.cell
  have x10 := S0.out.q10.cell
  have x11 := S0.out.q11.cell
  go_wp2_with fail
  clear hW5 hb8 hb10 hb11
  refine (eqm_yes _ _ M8 _ S0.out.m11.reads S0.out.m8.reads hs8.out).mono ?_
  rintro e w6 ⟨rfl, hb6⟩
  have S1 := hid (S0.out.below hb6)
  clear hb6 S0 x0 x8 x10 x11
  have x0 := S1.out.q0.cell
  have x8 := S1.out.q8.cell
  have x10 := S1.out.q10.cell
  have x11 := S1.out.q11.cell
  go_wp2_with fail
  go_region_with (first | (go_at_call 11; refine (tom _ M0 _ ?_ hs.out).mono ?_; exact hA.out _ _ _ (S1.out.below ((Below.refl _ _).drew)); rintro e w7 ⟨u7, rfl, hm7, hb7⟩; have m7 := hid hm7.reads; obtain ⟨e1, f1, e2, f2, rfl, _, _⟩ := hm7.reads.form; have S2 := hid (S1.out.below (new_trans ((Below.refl w6.heap.size w6).drew) hb7)); have z10 := S2.out.q10.cell; clear hm7 hb7) | (go_at_call 13; refine (eqm_yes _ _ M0 _ ?_ m7.out hs.out).mono ?_; exact S2.out.m10.reads; rintro e w8 ⟨rfl, hb8⟩; replace hb8 := hid hb8))
  all_goals
    have S3 := hid (S2.out.below hb8.out)
    clear hb8 S2 S1 x0 x8 x10 x11 z10 m7
    have x0 := S3.out.q0.cell
    have x8 := S3.out.q8.cell
    have x10 := S3.out.q10.cell
    have x11 := S3.out.q11.cell
    have hw3 := S3.out.ord.2.2.2.2
    go_wp2_with fail
    refine (markm _ M0 1 _ _ _ S3.out.m10 (by omega) hs.out (by omega) (by omega)).mono ?_
    rintro e w9 ⟨rfl, hm9, ht9⟩
    have S4 := hid (S3.out.markX ht9 hm9)
    clear hm9 ht9 S3 x0 x8 x10 x11
    have x0 := S4.out.q0.cell
    have x8 := S4.out.q8.cell
    have x10 := S4.out.q10.cell
    have x11 := S4.out.q11.cell
    obtain ⟨k1, hk1⟩ : ∃ k1 : Int, 1 + (cntM M0 : Nat) = k1 := ⟨_, rfl⟩
    rw [hk1]
    have hk0 : ¬ k1 < 0 := by omega
    clear hk1
    go_wp2_with fail
    refine (eqm_yes _ _ M8 _ S4.out.m11.reads S4.out.m8.reads hs8.out).mono ?_
    rintro e w10 ⟨rfl, hb10⟩
    have S5 := hid (S4.out.below hb10)
    clear hb10 S4 x0 x8 x10 x11 hw3
    have x0 := S5.out.q0.cell
    have x8 := S5.out.q8.cell
    have x10 := S5.out.q10.cell
    have x11 := S5.out.q11.cell
    have hw5 := S5.out.ord.2.2.2.2
    go_wp2_with fail
    refine (markm _ M8 1 _ _ _ S5.out.m11 (by omega) hs8.out (by omega) (by omega)).mono ?_
    rintro e w11 ⟨rfl, hm11, ht11⟩
    have S6 := hid (S5.out.markG ht11 hm11)
    clear hm11 ht11 S5 x0 x8 x10 x11 hw5
    have x0 := S6.out.q0.cell
    have x8 := S6.out.q8.cell
    have x10 := S6.out.q10.cell
    have x11 := S6.out.q11.cell
    obtain ⟨k2, hk2⟩ : ∃ k2 : Int, 1 + (cntM M8 : Nat) = k2 := ⟨_, rfl⟩
    rw [hk2]
    have hk3 : ¬ k2 < 0 := by omega
    replace hk2 := hid hk2
    go_wp2_with fail
    refine (heldm _ M8 1 _ S6.out.m11.reads hs8.out (by omega) (by omega)).mono ?_
    rintro e w12 ⟨rfl, hb12⟩
    rw [hk2.out]
    have S7 := hid (S6.out.below hb12)
    clear hb12 S6 x0 x8 x10 x11
    have x0 := S7.out.q0.cell
    have x8 := S7.out.q8.cell
    have x10 := S7.out.q10.cell
    have x11 := S7.out.q11.cell
    have hkk : (k2 != k2) = false := by simp
    go_wp2_with fail
    refine (tom _ M0 _ ?_ hs.out).mono ?_
    · exact hA.out _ _ _ S7.out
    rintro e w13 ⟨u13, rfl, hm13, hb13⟩
    have m13 := hid hm13.reads
    obtain ⟨e3, f3, e4, f4, rfl, _, _⟩ := hm13.reads.form
    have S8 := hid (S7.out.below hb13)
    clear hm13 hb13 S7 x0 x8 x10 x11
    go_wp2_with fail
    refine (page_impl _ M0 a1 _ m13.out hf.out).mono ?_
    rintro e w14 ⟨u14, rfl, hm14, hb14⟩
    rw [hM8.out] at hm14
    rw [hC8.out]
    have m14 := hid hm14.reads
    obtain ⟨e5, f5, e6, f6, rfl, _, _⟩ := hm14.reads.form
    have S9 := hid (S8.out.below hb14)
    have hw9 := S9.out.ord.2.2.2.2
    have S10 : Hid (∀ o, _) := fun o => S9.out.below ((Below.refl w14.heap.size w14).alloc (Nat.le_refl _) o)
    have m15 : Hid (∀ o, MemR (w14.alloc o) _ M8) := fun o => m14.out.below ((Below.refl w14.heap.size w14).alloc (Nat.le_refl _) o)
    have x0 := S9.out.q0.cell
    have x8 := S9.out.q8.cell
    have x10 := S9.out.q10.cell
    have x11 := S9.out.q11.cell
    have o8 : b8 < w14.heap.size := by have := S9.out.ord; omega
    have o11 : b11 < w14.heap.size := by have := S9.out.ord; omega
    clear hm14 hb14 S8 m13 m14 S9 hw9 x0 x10
    go_wp2_with fail
    refine (eqm_yes _ _ M8 _ (m15.out _) (S10.out _).m8.reads hs8.out).mono ?_
    rintro e w15 ⟨rfl, hb15⟩
    have S11 := hid ((S10.out _).below hb15)
    clear hb15 S10 m15 x8 x11 o8 o11
    have x0 := S11.out.q0.cell
    have x8 := S11.out.q8.cell
    have x10 := S11.out.q10.cell
    have x11 := S11.out.q11.cell
    go_wp2_with fail
    refine (heldm _ M8 1 _ S11.out.m11.reads hs8.out (by omega) (by omega)).mono ?_
    rintro e w16 ⟨rfl, hb16⟩
    rw [hk2.out]
    have hBe := hid (S11.out.below hb16).bel
    clear hb16 S11 x0 x8 x10 x11
    go_wp2
    go_ret
    exact ⟨rfl, hBe.out⟩

set_option maxRecDepth 100000 in
theorem lifted (os : Os) (started : os.Started) (H : Type) (enc : TypeId × Value → H) :
    ReturnsInHanded {} Try.checked os 6 .any (Rows.fnExactPageToSpec.pre6 enc Try.prog Try.f6 Rows.fnExactPageToRow.domain false) (Rows.fnExactPageToSpec.post enc Try.prog Try.f6 false true false false) := by
  refine returnsInHanded_of_change (C := Try.checked) own started (by kernel_rfl) Try.func6
    (ChangeSpec.witness6 (enc := enc) (C := Try.checked) false ⟨#[], #[.agg #[.slice none 0 0, .slice none 0 0, .int .i64 0, .int .i64 0, .bool false], .int .i64 0], []⟩ 8 (by kernel_rfl) (by kernel_rfl) (by kernel_rfl) (by kernel_rfl)) ?_
  intro W base args ds gs before hval0 hW hcnd _
  have hval : ∀ (j : Nat) t v, Try.f6.params[j]? = some t → args[j]? = some v → Value.okWide Try.prog W .any base t v := hval0
  have hW' := hW
  obtain ⟨p, q, hA0, hV, rfl, hfz, hnd⟩ := hW
  have hA : DataW.TrodAll enc Try.prog W 0 (fun _ => true) true Try.f6.params.toList args.toList ds p := hA0
  rw [Try.params6] at hA hval
  obtain ⟨v0, vs0, d0, ds0, p0, q0, hargs, rfl, rfl, h0, r0⟩ := trodAll_cons hA
  obtain ⟨v1, vs1, d1, ds1, p1, q1, rfl, rfl, rfl, h1, r1⟩ := trodAll_cons r0
  obtain ⟨rfl, rfl, rfl⟩ := trodAll_nil r1
  obtain rfl : args = #[v0, v1] := by cases args; simp_all
  obtain ⟨rfl, rfl⟩ := trodVars_none hV
  have k0 := h0
  have lt0 : ∀ x ∈ p0, x.block < W.heap.size := by obtain ⟨m, hm⟩ := k0; exact DataW.trod_lt m _ _ _ hm
  obtain ⟨M0, m0, b0⟩ := mem_in (hval 0 25 v0 rfl rfl) h0
  obtain ⟨a1, rfl, rfl, rfl, w1⟩ := open_int Try.underlying3 (hval 1 3 v1 rfl rfl) h1
  clear hA0 hval0
  refine (walk v0 M0 a1 W m0 b0 w1).mono fun e W' ⟨he, bel⟩ => ?_
  subst he
  exact ⟨_, rfl, _, _, _, [], _, [], hW', (trodAll_cons_mk (shut_bool Try.underlying4 _) trodAll_mk0), (trodAll_cons_mk (Below.trod laidOut (by kernel_rfl) (of_decide_eq_true (by kernel_rfl)) k0 bel lt0) (trodAll_cons_mk (shut_int Try.underlying3 w1) trodAll_mk0)), rfl, bel.frame _, fun h => by cases h⟩

theorem said : Rows.FnExactPageToSaid :=
  OpenClaim.holds_of_wide 6 Try.f6 rfl rfl rfl rfl rfl rfl rfl ⟨rfl, rfl, rfl, rfl, rfl⟩ rfl rfl rfl rfl rfl (by kernel_rfl) Try.func6 (by kernel_rfl)
    (of_decide_eq_true (by kernel_rfl)) (by unfold Func.isWrapper; first | (rw [if_pos (by decide +kernel)]; kernel_rfl) | (rw [if_neg (by decide +kernel)]; exact ⟨rfl, rfl⟩))
    (fun os started H enc _ => lifted os started H enc)
end Go.Proofs.Ytpdngjjbhcfplal.fnExactPageTo
namespace Go.Proofs.Ytpdngjjbhcfplal
theorem fnExactPageTo_holds : Rows.FnExactPageToSaid := fnExactPageTo.said
#print axioms fnExactPageTo_holds
end Go.Proofs.Ytpdngjjbhcfplal
