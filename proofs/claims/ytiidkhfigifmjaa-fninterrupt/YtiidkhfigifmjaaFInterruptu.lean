/- For all bytes the law FnInterrupt returns true: an interrupt comes only if it is let, and not just behind that; coming back all is as it was, but that none is let. -/
import Derived.Test.YtiidkhfigifmjaaRows
import Derived.Test.YtiidkhfigifmjaaJbu
import Derived.Test.YtiidkhfigifmjaaJcu
import Derived.Test.YtiidkhfigifmjaaJhu
import Derived.Test.YtiidkhfigifmjaaU41
import Derived.Test.YtiidkhfigifmjaaBiu
import Derived.Test.YtiidkhfigifmjaaU43
import Derived.Test.YtiidkhfigifmjaaMru
import Derived.Test.YtiidkhfigifmjaaJru
import Derived.Test.YtiidkhfigifmjaaU45
import Derived.WalkKit
import Derived.ProofKit
import Derived.OpenShut
import Derived.ShutString
import Derived.ChangeOld
import Derived.Below
import Derived.Lib.SmallJoins
namespace Go.Proofs.Ytiidkhfigifmjaa.fnInterrupt
open Go.ChangeShapes Go.WideShapes Go.ChangeAt Go.RowKit Go.Joins
open Go.ChangeMaps (open_string shut_string)
set_option linter.unusedVariables false

theorem own : ownKnob Try.prog.godebug = none := by kernel_rfl
theorem laidOut : laidOutB Try.prog = true := by kernel_rfl

def IsRow (k : IntKind) (w : World) (a : Option Addr) (len cap : Nat) (zs : List Int) : Prop :=
  (a = none ∧ len = 0 ∧ cap = 0 ∧ zs = []) ∨
  ∃ x, a = some x ∧ len ≤ cap ∧ cap ≤ maxLen ∧ zs.length = cap ∧ (∀ i, i < zs.length → w.cell? (x.add i) = some (.int k (zs.getD i 0))) ∧ ∀ n ∈ zs, (Lit.int k n).wf = true

set_option maxRecDepth 100000 in
set_option maxHeartbeats 6000000 in
theorem walk (a0 : Option Addr) (len0 cap0 : Nat) (z0 : List Int) (a1 : Option Addr) (len1 cap1 : Nat) (z1 : List Int) (w : World) (w0 : IsRow .u8 w a0 len0 cap0 z0) (w1 : IsRow .u8 w a1 len1 cap1 z1) :
    Calls Try.prog 3 #[.slice a0 len0 cap0, .slice a1 len1 cap1] w fun e w' => e = .returned (.bool true) ∧ Below w.heap.size w w' := by
  have hc0 := codeAt_of w0
  have hc1 := codeAt_of w1
  have hnn : ∀ (zs : List Int) (a : Option Addr) (len cap : Nat), IsRow .u8 w a len cap zs → len ≤ maxLen := by
    intro zs a len cap h
    rcases h with ⟨_, rfl, _, _⟩ | ⟨x, _, hl, hm, _⟩
    · exact Nat.zero_le _
    · omega
  have hl0 := hnn _ _ _ _ w0
  have hl1 := hnn _ _ _ _ w1
  clear hnn w0 w1
  unfold maxLen at hl0 hl1
  by_cases h1 : 1048576 < len0
  · go_enter Try.func3, Try.ntmps3
    go_wp2
    go_ret
    exact ⟨rfl, Below.refl _ _⟩
  by_cases h2 : 1048576 < len1
  · go_enter Try.func3, Try.ntmps3
    go_wp2
    go_ret
    exact ⟨rfl, Below.refl _ _⟩
  have hC : Hid (∀ W', Below w.heap.size w W' → CodeAt W' W'.heap.size a1 len1) := fun W' hb => hc1.below hb hb.size
  clear hc1
  go_enter Try.func3, Try.ntmps3
  go_wp2_with fail
  refine (cpudrawn_any _ _ _ _ hc0 (by omega)).mono ?_
  rintro e v1 ⟨c, rfl, hokc, hb1⟩
  obtain ⟨hce, hco⟩ := okC_cp hokc
  have hIX : intX c = fun M => if okM M then (if !c.cp.iff || c.cp.ei then ⟨c.cp, M, []⟩ else intM c.cp M) else mx0 := by
    funext M
    unfold intX
    rw [hokc, Bool.true_and]
    rfl
  have hIC : intC c = fun M => if okM M then (if !c.cp.iff || c.cp.ei then 19 else 0) else 1 := by
    funext M
    unfold intC
    rw [hokc, Bool.true_and]
    rfl
  have hI1 := fun v M W h hf => int_impl c v M W h hf
  have hI2 := fun v M W h hf => int_spec c v M W h hf
  rw [hIX, hIC, hce] at hI1 hI2
  rw [hce]
  clear hIX hIC hce hokc hc0
  generalize c.cp = d at *
  replace hI1 := hid hI1
  replace hI2 := hid hI2
  -- the processor in its box
  have q1 := Blk.new v1 (cpA d) 25
  have hB1 := new_trans hb1 ((Below.refl v1.heap.size v1).alloc (Nat.le_refl _) (.cells (cpA d) 25))
  obtain ⟨b5, hb5⟩ : ∃ b5, v1.heap.size = b5 := ⟨_, rfl⟩
  obtain ⟨W1, hW1⟩ : ∃ W1, v1.alloc (.cells (cpA d) 25) = W1 := ⟨_, rfl⟩
  rw [hW1] at q1 hB1
  rw [hb5] at q1
  have K1 : Hid (∀ W', Below W1.heap.size W1 W' → Blk W' b5 (cpA d) ∧ Below w.heap.size w W') := fun W' hb => ⟨q1.below hb q1.lt, new_trans hB1 hb⟩
  clear hb1 q1
  go_wp2_with fail
  clear hW1 hb5
  refine (memdrawn_any _ _ _ _ (hC.out _ hB1) (by omega)).mono ?_
  rintro e v2 ⟨u, M, rfl, hok, hm, hb2⟩
  obtain ⟨e1, f1, e2, f2, rfl, _, _⟩ := hm.form
  have ha2 := (Below.refl v2.heap.size v2).alloc (Nat.le_refl _) (.cells #[.slice e1 M.rom.length f1, .slice e2 M.ram.length f2, .int .i64 M.page, .int .i64 M.screen, .bool M.locked] 30)
  have q2 := Blk.new v2 #[.slice e1 M.rom.length f1, .slice e2 M.ram.length f2, .int .i64 M.page, .int .i64 M.screen, .bool M.locked] 30
  have hm2 := hm.below ha2
  have hB2 := new_trans hb2 ha2
  obtain ⟨b6, hb6⟩ : ∃ b6, v2.heap.size = b6 := ⟨_, rfl⟩
  obtain ⟨W2, hW2⟩ : ∃ W2, v2.alloc (.cells #[.slice e1 M.rom.length f1, .slice e2 M.ram.length f2, .int .i64 M.page, .int .i64 M.screen, .bool M.locked] 30) = W2 := ⟨_, rfl⟩
  rw [hW2] at q2 hm2 hB2
  rw [hb6] at q2
  have K2 : Hid (∀ W', Below W2.heap.size W2 W' → (Blk W' b5 (cpA d) ∧ Blk W' b6 #[.slice e1 M.rom.length f1, .slice e2 M.ram.length f2, .int .i64 M.page, .int .i64 M.screen, .bool M.locked]) ∧ MemR W' (memV (.slice e1 M.rom.length f1) (.slice e2 M.ram.length f2) M.page M.screen M.locked) M ∧ Below w.heap.size w W') := fun W' hb => by
    obtain ⟨k1, k2⟩ := K1.out W' (new_trans hB2 hb)
    exact ⟨⟨k1, q2.below hb q2.lt⟩, hm2.below hb, k2⟩
  have hf := ok_fit hok
  have q8a := eq8a
  have q8b := eq8b
  have hI3 := hid (hI1.out _ M W2 (K2.out _ (Below.refl _ _)).2.1 hf)
  rw [hok, if_pos rfl, if_pos rfl] at hI3
  have x5 := (K2.out _ (Below.refl _ _)).1.1.cell
  have x6 := (K2.out _ (Below.refl _ _)).1.2.cell
  clear K1 hb2 hm ha2 q2 hm2 hB2 hB1 hI1
  cases hi : (!d.iff || d.ei)
  · rw [hi, if_neg (by simp), if_neg (by simp)] at hI3
    have t3 : d.iff = true := by
      revert hi
      cases d.iff <;> simp
    have t4 : d.ei = false := by
      revert hi
      cases d.iff <;> cases d.ei <;> simp
    obtain ⟨s, hs⟩ : ∃ s, (d.sp + 255) % 256 = s := ⟨_, rfl⟩
    have hs256 : s < 256 := by rw [← hs]; exact Nat.mod_lt _ (by decide)
    obtain ⟨D, hD⟩ : ∃ D : Cp, D = ⟨d.b, d.c, d.d, d.e, d.h, d.l, d.a, d.f, s, 56, false, d.ei, false⟩ := ⟨_, rfl⟩
    have hXc : (intM d M).c = D := by rw [hD, ← hs]; rfl
    have hpc : d.pc < 256 := hco.2.2.2.2.2.2.2.2.2
    have hokX : okM (intM d M).m = true := poke_ok hok (in_yes (by omega) (by omega))
    have hfX := ok_fit hokX
    have hXl : (intM d M).cy.length ≤ 1000000 := Nat.le_trans (intM_len d M) (by decide)
    have hpk : ∃ v : Int, peek2 (intM d M).m (s : Int) = .tuple #[.int .i64 v, .int .i64 0] ∧ (v = d.pc ∨ s < 64) := by
      refine ⟨peekI (intM d M).m (s : Int), by unfold peek2; rw [if_pos (ask_ok hokX (by omega) (by omega))], ?_⟩
      by_cases h64 : s < 64
      · exact .inr h64
      · have e : (intM d M).m = pokeM M (s : Int) (d.pc : Int) := by
          rw [← hs]; rfl
        have hbk := (bank_bd (ok_parts hok).2.2.1 (a := (s : Int)) (by omega)).1
        rw [e, peek_poke hok (by omega) (by omega) (by omega) (by omega), if_pos ⟨rfl, rfl, hbk⟩]
        exact .inl rfl
    obtain ⟨v, hpk, hv⟩ := hpk
    obtain ⟨X, hX⟩ : ∃ X, intM d M = X := ⟨_, rfl⟩
    rw [hX] at hXc hokX hfX hXl hpk
    rw [hX, hXc] at hI3
    replace hX := hid hX
    replace hpk := hid hpk
    replace hD := hid hD
    replace t3 := hid t3
    replace t4 := hid t4
    have hsI : ((d.sp : Int) + 255) % 256 = (s : Int) := by rw [← hs]; omega
    replace hsI := hid hsI
    clear hs
    go_wp2_with fail
    clear hW2 hb6
    refine hI3.out.mono ?_
    rintro e v3 ⟨u3, cv3, rfl, hA3⟩
    obtain ⟨g1, j1, g2, j2, rfl⟩ := hA3.form
    have ha3 := two_newC v3 (cpA D) #[.slice g1 X.m.rom.length j1, .slice g2 X.m.ram.length j2, .int .i64 X.m.page, .int .i64 X.m.screen, .bool X.m.locked] 25 30
    obtain ⟨⟨_, _, hmo3, _⟩, hown3, hbl3⟩ := hA3
    have hm3 := hmo3.reads.below ha3.2.2
    have hcy3 : CyO _ cv3 X.cy := CyO.below (hown3.mono (Nat.zero_le _)) ha3.2.2
    obtain ⟨b7, hb7⟩ : ∃ x, v3.heap.size = x := ⟨_, rfl⟩
    obtain ⟨W3, hW3⟩ : ∃ x, (v3.alloc (.cells (cpA D) 25)).alloc (.cells #[.slice g1 X.m.rom.length j1, .slice g2 X.m.ram.length j2, .int .i64 X.m.page, .int .i64 X.m.screen, .bool X.m.locked] 30) = x := ⟨_, rfl⟩
    rw [hW3] at ha3 hm3 hcy3
    rw [hb7] at ha3
    have hBn3 := new_trans hbl3 (show Below v3.heap.size v3 W3 by rw [hb7]; exact ha3.2.2)
    have K3 : Hid (∀ W', Below W3.heap.size W3 W' → ((Blk W' b5 (cpA d) ∧ Blk W' b6 #[.slice e1 M.rom.length f1, .slice e2 M.ram.length f2, .int .i64 M.page, .int .i64 M.screen, .bool M.locked]) ∧ MemR W' (memV (.slice e1 M.rom.length f1) (.slice e2 M.ram.length f2) M.page M.screen M.locked) M ∧ Below w.heap.size w W') ∧ (Blk W' b7 (cpA D) ∧ Blk W' (b7 + 1) #[.slice g1 X.m.rom.length j1, .slice g2 X.m.ram.length j2, .int .i64 X.m.page, .int .i64 X.m.screen, .bool X.m.locked]) ∧ MemR W' (memV (.slice g1 X.m.rom.length j1) (.slice g2 X.m.ram.length j2) X.m.page X.m.screen X.m.locked) X.m ∧ CyO W' cv3 X.cy) := fun W' hb => ⟨K2.out W' (new_trans hBn3 hb), ⟨ha3.1.below hb ha3.1.lt, ha3.2.1.below hb ha3.2.1.lt⟩, hm3.below hb, hcy3.below hb⟩
    have hI4 := hid (hI2.out _ M W3 (K3.out _ (Below.refl _ _)).1.2.1 hf)
    rw [hok, if_pos rfl, if_pos rfl] at hI4
    rw [hi, if_neg (by simp), if_neg (by simp)] at hI4
    rw [hX.out, hXc] at hI4
    clear x5 x6
    have x5 := (K3.out _ (Below.refl _ _)).1.1.1.cell
    have x6 := (K3.out _ (Below.refl _ _)).1.1.2.cell
    clear K2 hmo3 hown3 hbl3 hm3 hcy3 ha3 hBn3 hI2
    go_wp2_with fail
    clear hW3 hb7
    refine hI4.out.mono ?_
    rintro e v4 ⟨u4, cv4, rfl, hA4⟩
    obtain ⟨m1, n1, m2, n2, rfl⟩ := hA4.form
    have ha4 := two_newC v4 (cpA D) #[.slice m1 X.m.rom.length n1, .slice m2 X.m.ram.length n2, .int .i64 X.m.page, .int .i64 X.m.screen, .bool X.m.locked] 25 30
    obtain ⟨⟨_, _, hmo4, _⟩, hown4, hbl4⟩ := hA4
    have hm4 := hmo4.reads.below ha4.2.2
    have hcy4 : CyO _ cv4 X.cy := CyO.below (hown4.mono (Nat.zero_le _)) ha4.2.2
    obtain ⟨b11, hb11⟩ : ∃ x, v4.heap.size = x := ⟨_, rfl⟩
    obtain ⟨W4, hW4⟩ : ∃ x, (v4.alloc (.cells (cpA D) 25)).alloc (.cells #[.slice m1 X.m.rom.length n1, .slice m2 X.m.ram.length n2, .int .i64 X.m.page, .int .i64 X.m.screen, .bool X.m.locked] 30) = x := ⟨_, rfl⟩
    rw [hW4] at ha4 hm4 hcy4
    rw [hb11] at ha4
    have hBn4 := new_trans hbl4 (show Below v4.heap.size v4 W4 by rw [hb11]; exact ha4.2.2)
    have K4 : Hid (∀ W', Below W4.heap.size W4 W' → (((Blk W' b5 (cpA d) ∧ Blk W' b6 #[.slice e1 M.rom.length f1, .slice e2 M.ram.length f2, .int .i64 M.page, .int .i64 M.screen, .bool M.locked]) ∧ MemR W' (memV (.slice e1 M.rom.length f1) (.slice e2 M.ram.length f2) M.page M.screen M.locked) M ∧ Below w.heap.size w W') ∧ (Blk W' b7 (cpA D) ∧ Blk W' (b7 + 1) #[.slice g1 X.m.rom.length j1, .slice g2 X.m.ram.length j2, .int .i64 X.m.page, .int .i64 X.m.screen, .bool X.m.locked]) ∧ MemR W' (memV (.slice g1 X.m.rom.length j1) (.slice g2 X.m.ram.length j2) X.m.page X.m.screen X.m.locked) X.m ∧ CyO W' cv3 X.cy) ∧ (Blk W' b11 (cpA D) ∧ Blk W' (b11 + 1) #[.slice m1 X.m.rom.length n1, .slice m2 X.m.ram.length n2, .int .i64 X.m.page, .int .i64 X.m.screen, .bool X.m.locked]) ∧ MemR W' (memV (.slice m1 X.m.rom.length n1) (.slice m2 X.m.ram.length n2) X.m.page X.m.screen X.m.locked) X.m ∧ CyO W' cv4 X.cy) := fun W' hb => ⟨K3.out W' (new_trans hBn4 hb), ⟨ha4.1.below hb ha4.1.lt, ha4.2.1.below hb ha4.2.1.lt⟩, hm4.below hb, hcy4.below hb⟩
    clear x5 x6 K3 hmo4 hown4 hbl4 hm4 hcy4 ha4 hBn4 hI3 hI4
    have x5 := (K4.out _ (Below.refl _ _)).1.1.1.1.cell
    have x6 := (K4.out _ (Below.refl _ _)).1.1.1.2.cell
    have x7 := (K4.out _ (Below.refl _ _)).1.2.1.1.cell
    have x8 := (K4.out _ (Below.refl _ _)).1.2.1.2.cell
    have x11 := (K4.out _ (Below.refl _ _)).2.1.1.cell
    have x12 := (K4.out _ (Below.refl _ _)).2.1.2.cell
    go_wp2_with fail
    clear hW4 hb11
    refine (same_impl _ _ X.m X.m _ (K4.out _ (Below.refl _ _)).1.2.2.1 (K4.out _ (Below.refl _ _)).2.2.1 hfX hfX).mono ?_
    rintro e v5 ⟨rfl, hb5⟩
    rw [same_self hokX]
    have K5 := hid (K4.out v5 hb5)
    have B5 := hid hb5
    clear x5 x6 x7 x8 x11 x12 hb5
    have x5 := K5.out.1.1.1.1.cell
    have x6 := K5.out.1.1.1.2.cell
    have x7 := K5.out.1.2.1.1.cell
    have x8 := K5.out.1.2.1.2.cell
    have x11 := K5.out.2.1.1.cell
    have x12 := K5.out.2.1.2.cell
    go_wp2_with fail
    refine (samec _ _ X.cy _ K5.out.1.2.2.2 K5.out.2.2.2 hXl).mono ?_
    rintro e v6 ⟨rfl, hb6⟩
    have B6 := hid (new_trans B5.out hb6)
    have K6 := hid (K4.out v6 B6.out)
    clear x5 x6 x7 x8 x11 x12 hb6 K5 B5
    have x5 := K6.out.1.1.1.1.cell
    have x6 := K6.out.1.1.1.2.cell
    have x7 := K6.out.1.2.1.1.cell
    have x8 := K6.out.1.2.1.2.cell
    have x11 := K6.out.2.1.1.cell
    have x12 := K6.out.2.1.2.cell
    have t5 := t3.out
    have t6 := t4.out
    rw [hD.out] at x7 x11
    go_wp2_with fail
    refine (peek_impl _ X.m (s : Int) _ K6.out.1.2.2.1 hfX).mono ?_
    rintro e v7 ⟨rfl, hb7⟩
    rw [hpk.out]
    have K7 := K4.out v7 (new_trans B6.out hb7)
    have B7 := hid K7.1.1.2.2
    clear x5 x6 x7 x8 x11 x12 hb7 K6 B6
    have x5 := K7.1.1.1.1.cell
    have x7 := K7.1.2.1.1.cell
    rw [hD.out] at x7
    clear K7
    have t7 := hsI.out
    have hspb : d.sp < 256 := hco.2.2.2.2.2.2.2.2.1
    rcases hv with rfl | h64
    all_goals
      go_wp2
      all_goals go_ret
      all_goals exact ⟨rfl, B7.out⟩
  · rw [hi, if_pos rfl, if_pos rfl] at hI3
    go_wp2_with fail
    clear hW2 hb6
    refine hI3.out.mono ?_
    rintro e v3 ⟨u3, cv3, rfl, hA3⟩
    obtain ⟨g1, j1, g2, j2, rfl⟩ := hA3.form
    have ha3 := two_newC v3 (cpA d) #[.slice g1 M.rom.length j1, .slice g2 M.ram.length j2, .int .i64 M.page, .int .i64 M.screen, .bool M.locked] 25 30
    obtain ⟨⟨_, _, hmo3, _⟩, hown3, hbl3⟩ := hA3
    have hm3 := hmo3.reads.below ha3.2.2
    have hcy3 : CyO _ cv3 [] := CyO.below (hown3.mono (Nat.zero_le _)) ha3.2.2
    obtain ⟨b7, hb7⟩ : ∃ x, v3.heap.size = x := ⟨_, rfl⟩
    obtain ⟨W3, hW3⟩ : ∃ x, (v3.alloc (.cells (cpA d) 25)).alloc (.cells #[.slice g1 M.rom.length j1, .slice g2 M.ram.length j2, .int .i64 M.page, .int .i64 M.screen, .bool M.locked] 30) = x := ⟨_, rfl⟩
    rw [hW3] at ha3 hm3 hcy3
    rw [hb7] at ha3
    have hBn3 := new_trans hbl3 (show Below v3.heap.size v3 W3 by rw [hb7]; exact ha3.2.2)
    have K3 : Hid (∀ W', Below W3.heap.size W3 W' → ((Blk W' b5 (cpA d) ∧ Blk W' b6 #[.slice e1 M.rom.length f1, .slice e2 M.ram.length f2, .int .i64 M.page, .int .i64 M.screen, .bool M.locked]) ∧ MemR W' (memV (.slice e1 M.rom.length f1) (.slice e2 M.ram.length f2) M.page M.screen M.locked) M ∧ Below w.heap.size w W') ∧ (Blk W' b7 (cpA d) ∧ Blk W' (b7 + 1) #[.slice g1 M.rom.length j1, .slice g2 M.ram.length j2, .int .i64 M.page, .int .i64 M.screen, .bool M.locked]) ∧ MemR W' (memV (.slice g1 M.rom.length j1) (.slice g2 M.ram.length j2) M.page M.screen M.locked) M ∧ CyO W' cv3 []) := fun W' hb => ⟨K2.out W' (new_trans hBn3 hb), ⟨ha3.1.below hb ha3.1.lt, ha3.2.1.below hb ha3.2.1.lt⟩, hm3.below hb, hcy3.below hb⟩
    have hI4 := hid (hI2.out _ M W3 (K3.out _ (Below.refl _ _)).1.2.1 hf)
    rw [hok, if_pos rfl, if_pos rfl] at hI4
    rw [hi, if_pos rfl, if_pos rfl] at hI4
    clear x5 x6
    have x5 := (K3.out _ (Below.refl _ _)).1.1.1.cell
    have x6 := (K3.out _ (Below.refl _ _)).1.1.2.cell
    clear K2 hmo3 hown3 hbl3 hm3 hcy3 ha3 hBn3 hI2
    go_wp2_with fail
    clear hW3 hb7
    refine hI4.out.mono ?_
    rintro e v4 ⟨u4, cv4, rfl, hA4⟩
    obtain ⟨m1, n1, m2, n2, rfl⟩ := hA4.form
    have ha4 := two_newC v4 (cpA d) #[.slice m1 M.rom.length n1, .slice m2 M.ram.length n2, .int .i64 M.page, .int .i64 M.screen, .bool M.locked] 25 30
    obtain ⟨⟨_, _, hmo4, _⟩, hown4, hbl4⟩ := hA4
    have hm4 := hmo4.reads.below ha4.2.2
    have hcy4 : CyO _ cv4 [] := CyO.below (hown4.mono (Nat.zero_le _)) ha4.2.2
    obtain ⟨b11, hb11⟩ : ∃ x, v4.heap.size = x := ⟨_, rfl⟩
    obtain ⟨W4, hW4⟩ : ∃ x, (v4.alloc (.cells (cpA d) 25)).alloc (.cells #[.slice m1 M.rom.length n1, .slice m2 M.ram.length n2, .int .i64 M.page, .int .i64 M.screen, .bool M.locked] 30) = x := ⟨_, rfl⟩
    rw [hW4] at ha4 hm4 hcy4
    rw [hb11] at ha4
    have hBn4 := new_trans hbl4 (show Below v4.heap.size v4 W4 by rw [hb11]; exact ha4.2.2)
    have K4 : Hid (∀ W', Below W4.heap.size W4 W' → (((Blk W' b5 (cpA d) ∧ Blk W' b6 #[.slice e1 M.rom.length f1, .slice e2 M.ram.length f2, .int .i64 M.page, .int .i64 M.screen, .bool M.locked]) ∧ MemR W' (memV (.slice e1 M.rom.length f1) (.slice e2 M.ram.length f2) M.page M.screen M.locked) M ∧ Below w.heap.size w W') ∧ (Blk W' b7 (cpA d) ∧ Blk W' (b7 + 1) #[.slice g1 M.rom.length j1, .slice g2 M.ram.length j2, .int .i64 M.page, .int .i64 M.screen, .bool M.locked]) ∧ MemR W' (memV (.slice g1 M.rom.length j1) (.slice g2 M.ram.length j2) M.page M.screen M.locked) M ∧ CyO W' cv3 []) ∧ (Blk W' b11 (cpA d) ∧ Blk W' (b11 + 1) #[.slice m1 M.rom.length n1, .slice m2 M.ram.length n2, .int .i64 M.page, .int .i64 M.screen, .bool M.locked]) ∧ MemR W' (memV (.slice m1 M.rom.length n1) (.slice m2 M.ram.length n2) M.page M.screen M.locked) M ∧ CyO W' cv4 []) := fun W' hb => ⟨K3.out W' (new_trans hBn4 hb), ⟨ha4.1.below hb ha4.1.lt, ha4.2.1.below hb ha4.2.1.lt⟩, hm4.below hb, hcy4.below hb⟩
    clear x5 x6 K3 hmo4 hown4 hbl4 hm4 hcy4 ha4 hBn4 hI3 hI4
    have x5 := (K4.out _ (Below.refl _ _)).1.1.1.1.cell
    have x6 := (K4.out _ (Below.refl _ _)).1.1.1.2.cell
    have x7 := (K4.out _ (Below.refl _ _)).1.2.1.1.cell
    have x8 := (K4.out _ (Below.refl _ _)).1.2.1.2.cell
    have x11 := (K4.out _ (Below.refl _ _)).2.1.1.cell
    have x12 := (K4.out _ (Below.refl _ _)).2.1.2.cell
    go_wp2_with fail
    clear hW4 hb11
    refine (same_impl _ _ M M _ (K4.out _ (Below.refl _ _)).1.2.2.1 (K4.out _ (Below.refl _ _)).2.2.1 hf hf).mono ?_
    rintro e v5 ⟨rfl, hb5⟩
    rw [same_self hok]
    have K5 := hid (K4.out v5 hb5)
    have B5 := hid hb5
    clear x5 x6 x7 x8 x11 x12 hb5
    have x5 := K5.out.1.1.1.1.cell
    have x6 := K5.out.1.1.1.2.cell
    have x7 := K5.out.1.2.1.1.cell
    have x8 := K5.out.1.2.1.2.cell
    have x11 := K5.out.2.1.1.cell
    have x12 := K5.out.2.1.2.cell
    go_wp2_with fail
    refine (samec _ _ [] _ K5.out.1.2.2.2 K5.out.2.2.2 (by simp)).mono ?_
    rintro e v6 ⟨rfl, hb6⟩
    have B6 := hid (new_trans B5.out hb6)
    have K6 := hid (K4.out v6 B6.out)
    clear x5 x6 x7 x8 x11 x12 hb6 K5 B5
    have x5 := K6.out.1.1.1.1.cell
    have x6 := K6.out.1.1.1.2.cell
    have x7 := K6.out.1.2.1.1.cell
    have x8 := K6.out.1.2.1.2.cell
    have x11 := K6.out.2.1.1.cell
    have x12 := K6.out.2.1.2.cell
    have t2 : d.iff = false ∨ (d.iff = true ∧ d.ei = true) := by
      revert hi
      cases d.iff <;> cases d.ei <;> simp
    clear hi
    rcases t2 with t3 | ⟨t3, t4⟩
    all_goals
      go_wp2_with fail
      refine (same_impl _ _ M M _ K6.out.1.2.2.1 K6.out.1.1.2.1 hf hf).mono ?_
      rintro e v7 ⟨rfl, hb7⟩
      rw [same_self hok]
      have B7 := hid (K4.out v7 (new_trans B6.out hb7)).1.1.2.2
      clear x5 x6 x7 x8 x11 x12 hb7 K6 B6
      go_wp2
      go_ret
      exact ⟨rfl, B7.out⟩

set_option maxRecDepth 100000 in
theorem lifted (os : Os) (started : os.Started) (H : Type) (enc : TypeId × Value → H) :
    ReturnsInHanded {} Try.checked os 3 .any (Rows.fnInterruptSpec.pre6 enc Try.prog Try.f3 Rows.fnInterruptRow.domain false) (Rows.fnInterruptSpec.post enc Try.prog Try.f3 false true false false) := by
  refine returnsInHanded_of_change (C := Try.checked) own started (by kernel_rfl) Try.func3
    (ChangeSpec.witness6 (enc := enc) (C := Try.checked) false ⟨#[], #[.slice none 0 0, .slice none 0 0], []⟩ 8 (by kernel_rfl) (by kernel_rfl) (by kernel_rfl) (by kernel_rfl)) ?_
  intro W base args ds gs before hval0 hW hcnd _
  have hval : ∀ (j : Nat) t v, Try.f3.params[j]? = some t → args[j]? = some v → Value.okWide Try.prog W .any base t v := hval0
  have hW' := hW
  obtain ⟨p, q, hA0, hV, rfl, hfz, hnd⟩ := hW
  have hA : DataW.TrodAll enc Try.prog W 0 (fun _ => true) true Try.f3.params.toList args.toList ds p := hA0
  rw [Try.params3] at hA hval
  obtain ⟨v0, vs0, d0, ds0, p0, q0, hargs, rfl, rfl, h0, r0⟩ := trodAll_cons hA
  obtain ⟨v1, vs1, d1, ds1, p1, q1, rfl, rfl, rfl, h1, r1⟩ := trodAll_cons r0
  obtain ⟨rfl, rfl, rfl⟩ := trodAll_nil r1
  obtain rfl : args = #[v0, v1] := by cases args; simp_all
  obtain ⟨rfl, rfl⟩ := trodVars_none hV
  obtain ⟨a0, len0, cap0, rfl⟩ := okWide_slice Try.underlying22 (hval 0 22 v0 rfl rfl)
  have k0 := h0
  have lt0 : ∀ x ∈ p0, x.block < W.heap.size := by obtain ⟨m, hm⟩ := k0; exact DataW.trod_lt m _ _ _ hm
  obtain ⟨z0, w0⟩ : ∃ zs, IsRow .u8 W a0 len0 cap0 zs := by
    obtain ⟨fuel, hf⟩ := h0
    rcases open_ints Try.underlying22 Try.underlying5 (by kernel_rfl) hf with ⟨hcs, _⟩ | ⟨x, l, c, zs, hcs, _, hl, hm, hz, _, hcell, hwz⟩
    · simp [Value.cells] at hcs
      obtain ⟨rfl, rfl, rfl⟩ := hcs
      exact ⟨[], .inl ⟨rfl, rfl, rfl, rfl⟩⟩
    · simp [Value.cells] at hcs
      obtain ⟨rfl, rfl, rfl⟩ := hcs
      exact ⟨zs, .inr ⟨_, rfl, hl, hm, by simpa using hz, hcell, hwz⟩⟩
  obtain ⟨a1, len1, cap1, rfl⟩ := okWide_slice Try.underlying22 (hval 1 22 v1 rfl rfl)
  have k1 := h1
  have lt1 : ∀ x ∈ p1, x.block < W.heap.size := by obtain ⟨m, hm⟩ := k1; exact DataW.trod_lt m _ _ _ hm
  obtain ⟨z1, w1⟩ : ∃ zs, IsRow .u8 W a1 len1 cap1 zs := by
    obtain ⟨fuel, hf⟩ := h1
    rcases open_ints Try.underlying22 Try.underlying5 (by kernel_rfl) hf with ⟨hcs, _⟩ | ⟨x, l, c, zs, hcs, _, hl, hm, hz, _, hcell, hwz⟩
    · simp [Value.cells] at hcs
      obtain ⟨rfl, rfl, rfl⟩ := hcs
      exact ⟨[], .inl ⟨rfl, rfl, rfl, rfl⟩⟩
    · simp [Value.cells] at hcs
      obtain ⟨rfl, rfl, rfl⟩ := hcs
      exact ⟨zs, .inr ⟨_, rfl, hl, hm, by simpa using hz, hcell, hwz⟩⟩
  clear hA0 hval0
  refine (walk a0 len0 cap0 z0 a1 len1 cap1 z1 W w0 w1).mono fun e W' ⟨he, bel⟩ => ?_
  subst he
  exact ⟨_, rfl, _, _, _, [], _, [], hW', (trodAll_cons_mk (shut_bool Try.underlying4 _) trodAll_mk0), (trodAll_cons_mk (Below.trod laidOut (by kernel_rfl) (of_decide_eq_true (by kernel_rfl)) k0 bel lt0) (trodAll_cons_mk (Below.trod laidOut (by kernel_rfl) (of_decide_eq_true (by kernel_rfl)) k1 bel lt1) trodAll_mk0)), rfl, bel.frame _, fun h => by cases h⟩

theorem said : Rows.FnInterruptSaid :=
  OpenClaim.holds_of_wide 3 Try.f3 rfl rfl rfl rfl rfl rfl rfl ⟨rfl, rfl, rfl, rfl, rfl⟩ rfl rfl rfl rfl rfl (by kernel_rfl) Try.func3 (by kernel_rfl)
    (of_decide_eq_true (by kernel_rfl)) (by unfold Func.isWrapper; first | (rw [if_pos (by decide +kernel)]; kernel_rfl) | (rw [if_neg (by decide +kernel)]; exact ⟨rfl, rfl⟩))
    (fun os started H enc _ => lifted os started H enc)
end Go.Proofs.Ytiidkhfigifmjaa.fnInterrupt
namespace Go.Proofs.Ytiidkhfigifmjaa
theorem fnInterrupt_holds : Rows.FnInterruptSaid := fnInterrupt.said
#print axioms fnInterrupt_holds
end Go.Proofs.Ytiidkhfigifmjaa
