/- For all bytes the law FnStep returns true: a step does what the specification says, and its cycles tell all that it read and wrote; the tables of flags, of kinds, of lengths and of conditions being as the program's text lays them. -/
import Derived.Test.YtgpmpfikeindfaaGreatDoorCards
import Derived.Test.YtgpmpfikeindfaaGreatDoorTie
import Derived.Test.YtgpmpfikeindfaaGreatDoorV18
import Derived.Test.YtgpmpfikeindfaaGreatDoorV36
import Derived.Test.YtgpmpfikeindfaaGreatDoorJhv
import Derived.Test.YtgpmpfikeindfaaGreatDoorV41
import Derived.Test.YtgpmpfikeindfaaGreatDoorV42
import Derived.Test.YtgpmpfikeindfaaGreatDoorV43
import Derived.Test.YtgpmpfikeindfaaGreatDoorV44
import Derived.Test.YtgpmpfikeindfaaGreatDoorKsv
import Derived.Test.YtgpmpfikeindfaaGreatDoorV46
import Derived.Test.YtgpmpfikeindfaaGreatDoorV49
import Derived.Test.YtgpmpfikeindfaaGreatDoorV39
import Derived.Test.YtgpmpfikeindfaaGreatDoorV12
import Derived.Test.YtgpmpfikeindfaaGreatDoorV50
import Derived.Test.YtgpmpfikeindfaaGreatDoorV23
import Derived.WalkKit
import Derived.ProofKit
import Derived.OpenShut
import Derived.ShutString
import Derived.ChangeOld
import Derived.Below
import Derived.LaidMore
import Derived.OpenVars
import Derived.SevenTiedAt
import Derived.Stop.Joined
import Derived.Lib.SmallJoins
import Derived.Deep.RegionHeld3
namespace Go.Proofs.YtgpmpfikeindfaaGreatDoor.fnStep
open Go.ChangeShapes Go.WideShapes Go.ChangeAt Go.RowKit Go.Joins
open Go.ChangeMaps (open_string shut_string)
set_option linter.unusedVariables false

theorem own : ownKnob Tryz.prog.godebug = none := by kernel_rfl
theorem laidOut : laidOutB Tryz.prog = true := by kernel_rfl

def IsRow (k : IntKind) (w : World) (a : Option Addr) (len cap : Nat) (zs : List Int) : Prop :=
  (a = none ∧ len = 0 ∧ cap = 0 ∧ zs = []) ∨
  ∃ x, a = some x ∧ len ≤ cap ∧ cap ≤ maxLen ∧ zs.length = cap ∧ (∀ i, i < zs.length → w.cell? (x.add i) = some (.int k (zs.getD i 0))) ∧ ∀ n ∈ zs, (Lit.int k n).wf = true

set_option maxRecDepth 100000 in
set_option maxHeartbeats 8000000 in
theorem walk (a0 : Option Addr) (len0 cap0 : Nat) (z0 : List Int) (a1 : Option Addr) (len1 cap1 : Nat) (z1 : List Int) (w : World) (w0 : IsRow .u8 w a0 len0 cap0 z0) (w1 : IsRow .u8 w a1 len1 cap1 z1) (hL : Flags w ∧ Kinds w ∧ Conds w ∧ Times w) :
    Calls Tryz.prog 3 #[.slice a0 len0 cap0, .slice a1 len1 cap1] w fun e w' => e = .returned (.bool true) ∧ Below w.heap.size w w' := by
  have hc0 := codeAt_of w0
  have hc1 := codeAt_of w1
  have hnn : ∀ (zs : List Int) (a : Option Addr) (len cap : Nat), IsRow .u8 w a len cap zs → len ≤ maxLen := by
    intro zs a len cap h
    rcases h with ⟨_, rfl, _, _⟩ | ⟨x, _, hl, hm, _⟩
    · exact Nat.zero_le _
    · omega
  have hl0 := hnn _ _ _ _ w0
  have hl1 := hnn _ _ _ _ w1
  clear hnn w0 w1
  unfold maxLen at hl0 hl1
  by_cases h1 : 1048576 < len0
  · go_enter Tryz.func3, Tryz.ntmps3
    go_wp2
    go_ret
    exact ⟨rfl, Below.refl _ _⟩
  by_cases h2 : 1048576 < len1
  · go_enter Tryz.func3, Tryz.ntmps3
    go_wp2
    go_ret
    exact ⟨rfl, Below.refl _ _⟩
  have hC : Hid (∀ W', Below w.heap.size w W' → CodeAt W' W'.heap.size a1 len1) := fun W' hb => hc1.below hb hb.size
  clear hc1
  replace hL := hid hL
  go_enter Tryz.func3, Tryz.ntmps3
  go_wp2_with fail
  refine (cpudrawn_any _ _ _ _ hc0 (by omega)).mono ?_
  rintro e v1 ⟨c, rfl, hokc, hb1⟩
  obtain ⟨hce, hco⟩ := okC_cp hokc
  clear hc0
  have S1 := ((StF.nil w).below hb1).box (cpA c.cp) 25
  rw [hce]
  have hcA : cuA c = cpA c.cp := by
    have := hce
    simp only [cuV, cpV, Value.agg.injEq] at this
    exact this
  obtain ⟨d, hd⟩ : ∃ d, c.cp = d := ⟨_, rfl⟩
  obtain ⟨b5, hb5⟩ : ∃ b5, v1.heap.size = b5 := ⟨_, rfl⟩
  obtain ⟨W1, hW1⟩ : ∃ W1, v1.alloc (.cells (cpA c.cp) 25) = W1 := ⟨_, rfl⟩
  rw [hW1, hb5] at S1
  rw [hd] at S1 hW1 hco ⊢
  replace hd := hid hd
  replace S1 := hid S1
  replace hokc := hid hokc
  replace hce := hid hce
  clear hb1 hcA
  go_wp2_with fail
  clear hW1 hb5
  refine (memdrawn_any _ _ _ _ (hC.out _ S1.out.bel) (by omega)).mono ?_
  rintro e v2 ⟨u, M, rfl, hok, hm, hb2⟩
  obtain ⟨e1, f1, e2, f2, rfl, _, _⟩ := hm.form
  have S2 := (S1.out.below hb2).box #[.slice e1 M.rom.length f1, .slice e2 M.ram.length f2, .int .i64 M.page, .int .i64 M.screen, .bool M.locked] 30
  have hM2 := hm.below ((Below.refl v2.heap.size v2).alloc (Nat.le_refl _) (.cells #[.slice e1 M.rom.length f1, .slice e2 M.ram.length f2, .int .i64 M.page, .int .i64 M.screen, .bool M.locked] 30))
  obtain ⟨b6, hb6⟩ : ∃ b6, v2.heap.size = b6 := ⟨_, rfl⟩
  obtain ⟨W2, hW2⟩ : ∃ W2, v2.alloc (.cells #[.slice e1 M.rom.length f1, .slice e2 M.ram.length f2, .int .i64 M.page, .int .i64 M.screen, .bool M.locked] 30) = W2 := ⟨_, rfl⟩
  rw [hW2, hb6] at S2
  rw [hW2] at hM2
  have hA : Hid (∀ W', Below W2.heap.size W2 W' → MemR W' (memV (.slice e1 M.rom.length f1) (.slice e2 M.ram.length f2) M.page M.screen M.locked) M) := fun W' hb => hM2.below hb
  replace S2 := hid S2
  clear hb2 hm hM2 S1
  go_wp2_with fail
  clear hW2 hb6
  refine (at_val _ _ _ 0 256 _ _ (hC.out _ S2.out.bel) (by omega) (by omega) (by omega)).mono ?_
  rintro e v3 ⟨rfl, hb3⟩
  obtain ⟨n, en, hn⟩ : ∃ n : Nat, atV W2 a1 len1 0 256 = (n : Int) ∧ n < 256 := by
    have := atV_bd (w := W2) (a := a1) (len := len1) (i := 0) (n := 256) (by omega)
    exact ⟨(atV W2 a1 len1 0 256).toNat, by omega, by omega⟩
  rw [en]
  have S3 := hid (S2.out.below hb3)
  have hA3 : Hid (∀ W', Below v3.heap.size v3 W' → MemR W' (memV (.slice e1 M.rom.length f1) (.slice e2 M.ram.length f2) M.page M.screen M.locked) M) := fun W' hb => hA.out W' (new_trans hb3 hb)
  clear en hb3 S2 hA hC
  have hf := ok_fit hok
  have hinv := step_inv hco hok hn
  obtain ⟨X, hX⟩ : ∃ X, stepM d M n = X := ⟨_, rfl⟩
  have hbb : (okC c && okM M) = true := by rw [hokc.out, hok]; rfl
  have hnB : inB ((n : Nat) : Int) 0 255 = true := in_yes (by omega) (by omega)
  have hIm : Hid (∀ W', Below v3.heap.size v3 W' → Calls Tryz.prog 7 #[cpV d, memV (.slice e1 M.rom.length f1) (.slice e2 M.ram.length f2) M.page M.screen M.locked, .int .i64 (n : Int)] W' fun e w' => ∃ u cv, e = .returned (.tuple #[cpV X.c, u, cv, .int .i64 0]) ∧ Ans W' w' X u cv) := fun W' hb => by
    have hbw := new_trans S3.out.bel hb
    have q := stp_impl c _ M (n : Int) W' (hA3.out W' hb) hf (flags_below hL.out.1 hbw) (hL.out.2.2.1.below hbw) (hL.out.2.1.below hbw)
    unfold stpX stpC at q
    rw [hbb, hnB, if_pos rfl, if_pos rfl, if_pos rfl, if_pos rfl, Int.toNat_natCast, hd.out, hX, hce.out, hd.out] at q
    exact q
  have hSp : Hid (∀ W', Below v3.heap.size v3 W' → Calls Tryz.prog 8 #[cpV d, memV (.slice e1 M.rom.length f1) (.slice e2 M.ram.length f2) M.page M.screen M.locked, .int .i64 (n : Int)] W' fun e w' => ∃ u cv, e = .returned (.tuple #[cpV X.c, u, cv, .int .i64 0]) ∧ Ans W' w' X u cv) := fun W' hb => by
    have q := stp_spec c _ M (n : Int) W' (hA3.out W' hb) hf
    unfold stpX stpC at q
    rw [hbb, hnB, if_pos rfl, if_pos rfl, if_pos rfl, if_pos rfl, Int.toNat_natCast, hd.out, hX, hce.out, hd.out] at q
    exact q
  obtain ⟨pz, pb, hpw⟩ : ∃ pz pb, pw3 c M = .tuple #[.int .i64 pz, .bool pb, .int .i64 0] := by
    unfold pw3
    rw [if_pos hokc.out, if_pos hok]
    split
    · exact ⟨_, _, rfl⟩
    · split <;> exact ⟨_, _, rfl⟩
  have hP1 : Hid (∀ W', Below v3.heap.size v3 W' → Calls Tryz.prog 9 #[cpV d, memV (.slice e1 M.rom.length f1) (.slice e2 M.ram.length f2) M.page M.screen M.locked] W' fun e w' => e = .returned (.tuple #[.int .i64 pz, .bool pb, .int .i64 0]) ∧ Below W'.heap.size W' w') := fun W' hb => by
    have hbw := new_trans S3.out.bel hb
    have q := pw_impl c _ M W' (hA3.out W' hb) hf (hL.out.2.1.below hbw)
    rw [hpw, hce.out, hd.out] at q
    exact q
  have hP2 : Hid (∀ W', Below v3.heap.size v3 W' → Calls Tryz.prog 10 #[cpV d, memV (.slice e1 M.rom.length f1) (.slice e2 M.ram.length f2) M.page M.screen M.locked] W' fun e w' => e = .returned (.tuple #[.int .i64 pz, .bool pb, .int .i64 0]) ∧ Below W'.heap.size W' w') := fun W' hb => by
    have q := pw_spec c _ M W' (hA3.out W' hb) hf
    rw [hpw, hce.out, hd.out] at q
    exact q
  rw [hX] at hinv
  replace hinv := hid hinv
  clear hX hbb hnB hpw hce hokc hd
  have x0 := (S3.out.at 1 rfl).cell
  have x1 := (S3.out.at 0 rfl).cell
  go_wp2_with fail
  refine (hIm.out _ (Below.refl _ _)).mono ?_
  rintro e v4 ⟨u4, cv4, rfl, hA4⟩
  obtain ⟨g1, j1, g2, j2, rfl⟩ := hA4.form
  obtain ⟨lo4, hi4, S4⟩ := hA4.stf S3.out
  have hB4 := hA4.bel
  have T4 := (S4.box (cpA X.c) 25).box #[.slice g1 X.m.rom.length j1, .slice g2 X.m.ram.length j2, .int .i64 X.m.page, .int .i64 X.m.screen, .bool X.m.locked] 30
  have E4 : Below v3.heap.size v3 ((v4.alloc (.cells (cpA X.c) 25)).alloc (.cells #[.slice g1 X.m.rom.length j1, .slice g2 X.m.ram.length j2, .int .i64 X.m.page, .int .i64 X.m.screen, .bool X.m.locked] 30)) := (hB4.alloc hB4.size _).alloc (by rw [World.size_alloc]; have := hB4.size; omega) _
  rw [World.size_alloc] at T4
  obtain ⟨b8, hb8⟩ : ∃ b, v4.heap.size = b := ⟨_, rfl⟩
  obtain ⟨W4, hW4⟩ : ∃ b, (v4.alloc (.cells (cpA X.c) 25)).alloc (.cells #[.slice g1 X.m.rom.length j1, .slice g2 X.m.ram.length j2, .int .i64 X.m.page, .int .i64 X.m.screen, .bool X.m.locked] 30) = b := ⟨_, rfl⟩
  rw [hW4, hb8] at T4
  rw [hW4] at E4
  replace T4 := hid T4
  replace E4 := hid E4
  clear hA4 S4 hB4 x0 x1 S3 hIm
  have x0 := (T4.out.at 5 rfl).cell
  have x1 := (T4.out.at 4 rfl).cell
  go_wp2_with fail
  clear hW4 hb8
  refine (hSp.out _ E4.out).mono ?_
  rintro e v5 ⟨u5, cv5, rfl, hA5⟩
  obtain ⟨k1, l1, k2, l2, rfl⟩ := hA5.form
  obtain ⟨lo5, hi5, S5⟩ := hA5.stf T4.out
  have hB5 := new_trans E4.out hA5.bel
  have T5 := (S5.box (cpA X.c) 25).box #[.slice k1 X.m.rom.length l1, .slice k2 X.m.ram.length l2, .int .i64 X.m.page, .int .i64 X.m.screen, .bool X.m.locked] 30
  have E5 : Below v3.heap.size v3 ((v5.alloc (.cells (cpA X.c) 25)).alloc (.cells #[.slice k1 X.m.rom.length l1, .slice k2 X.m.ram.length l2, .int .i64 X.m.page, .int .i64 X.m.screen, .bool X.m.locked] 30)) := (hB5.alloc hB5.size _).alloc (by rw [World.size_alloc]; have := hB5.size; omega) _
  rw [World.size_alloc] at T5
  obtain ⟨b12, hb12⟩ : ∃ b, v5.heap.size = b := ⟨_, rfl⟩
  obtain ⟨W5, hW5⟩ : ∃ b, (v5.alloc (.cells (cpA X.c) 25)).alloc (.cells #[.slice k1 X.m.rom.length l1, .slice k2 X.m.ram.length l2, .int .i64 X.m.page, .int .i64 X.m.screen, .bool X.m.locked] 30) = b := ⟨_, rfl⟩
  rw [hW5, hb12] at T5
  rw [hW5] at E5
  replace T5 := hid T5
  replace E5 := hid E5
  clear hA5 S5 hB5 x0 x1 T4 E4 hSp
  have x0 := (T5.out.at 9 rfl).cell
  have x1 := (T5.out.at 8 rfl).cell
  go_wp2_with fail
  clear hW5 hb12
  refine (hP1.out _ E5.out).mono ?_
  rintro e v6 ⟨rfl, hb⟩
  have T6 := hid (T5.out.below hb)
  have E6 := hid (new_trans E5.out hb)
  clear hb T5 E5 x0 x1 hP1
  have x0 := (T6.out.at 9 rfl).cell
  have x1 := (T6.out.at 8 rfl).cell
  go_wp2_with fail
  refine (hP2.out _ E6.out).mono ?_
  rintro e v7 ⟨rfl, hb⟩
  have T7 := hid (T6.out.below hb)
  have E7 := hid (new_trans E6.out hb)
  clear hb T6 E6 x0 x1 hP2
  -- what is compared
  have hokX := hinv.out.m
  have hfX := ok_fit hokX
  obtain ⟨tl, htl⟩ := hinv.out.pre
  have hpos : 0 < X.cy.length := by rw [htl]; simp
  obtain ⟨s4, c4, hcv4⟩ := (T7.out.at 6 rfl : CyO v7 cv4 X.cy).slice
  subst hcv4
  obtain ⟨g, hg, _, y1, y2, _⟩ := (T7.out.at 6 rfl : CyO v7 (.slice s4 X.cy.length c4) X.cy).some hpos
  subst hg
  have hh0 : X.cy.getD 0 cyz = (1, d.pc, peekN M d.pc) := by rw [htl]; rfl
  rw [hh0] at y1 y2
  replace y1 := hid y1
  replace y2 := hid y2
  clear htl hh0
  go_upto_region 10 with fail
  refine step_cmp _ _ _ _ _ _ _ _ _ _ _ _ _ _ _ _ _ _ _ _ _ _ _ _ _ _ _ _ _ _ _ _ _ _ _ _ _ _ _ _ _ _ _ _ _ _ _ _ _ _ _ _ _ _ _ _ _ _ _ _ _ _ _ _ _ _ _ _ _ _ _ _ _ _ _ _ _ _ _ _ _ _ _ _ _ _ _ _ _ _ _ _ _ _ _ _ _ _ _ _ _ _ _ _ _ _ _ _ _ _ _ _ _ _ _ _ _ _ _ _ _ _ _ _ _ _ _ _ _ _ _ _ _ _ _ _ _ _ _ _ _ _ _ _ _ _ _ _ _ _ _ _ _ _ _ _ _ _ _ _ _ _ _ _ _ _ _ _ _ _ _ _ _ w v7 X d M e1 e2 g1 g2 k1 k2 f1 f2 j1 j2 l1 l2 lo4 hi4 lo5 hi5 b5 b6 b8 b12 g c4 cv5 pz pb _ _ T7.out hinv.out y1.out y2.out hpos ?_
  intro y74 y75 y76 y77 y78 y79 y80 y81 y82 y83 y84 y85 y86 y87 y88 y89 y90 y91 y92 y93 y94 y95 y96 y97 y98 y99 y100 y101 y102 y103 y104 y105 y106 y107 y108 y109 y110 y111 y112 y113 y114 y115 y116 y117 y118 y119 y120 y121 y122 y123 y124 y125 y126 y127 y128 y129 y130 y131 wc hb
  clear y1 y2
  have T8 := hid (T7.out.below hb)
  have E8 := hid (new_trans E7.out hb)
  clear hb T7 E7
  have x1 := (T8.out.at 8 rfl).cell
  have lb6 := (T8.out.sts.has 8 rfl).lt b6 rfl
  have T9 := T8.out.box #[.slice e1 M.rom.length f1, .slice e2 M.ram.length f2, .int .i64 M.page, .int .i64 M.screen, .bool M.locked] 30
  have E9 := E8.out.alloc E8.out.size (.cells #[.slice e1 M.rom.length f1, .slice e2 M.ram.length f2, .int .i64 M.page, .int .i64 M.screen, .bool M.locked] 30)
  have hv3 : v3.heap.size ≤ wc.heap.size := E8.out.size
  obtain ⟨b22, hb22⟩ : ∃ b, wc.heap.size = b := ⟨_, rfl⟩
  obtain ⟨W9, hW9⟩ : ∃ b, wc.alloc (.cells #[.slice e1 M.rom.length f1, .slice e2 M.ram.length f2, .int .i64 M.page, .int .i64 M.screen, .bool M.locked] 30) = b := ⟨_, rfl⟩
  rw [hW9, hb22] at T9
  rw [hW9] at E9
  rw [hb22] at hv3
  obtain ⟨L, hLe⟩ : ∃ L, L = [tBox (b12 + 1) #[.slice k1 X.m.rom.length l1, .slice k2 X.m.ram.length l2, .int .i64 X.m.page, .int .i64 X.m.screen, .bool X.m.locked], tBox b12 (cpA X.c), tCyc cv5 X.cy, tMem lo5 hi5 (memV (.slice k1 X.m.rom.length l1) (.slice k2 X.m.ram.length l2) X.m.page X.m.screen X.m.locked) X.m, tBox (b8 + 1) #[.slice g1 X.m.rom.length j1, .slice g2 X.m.ram.length j2, .int .i64 X.m.page, .int .i64 X.m.screen, .bool X.m.locked], tBox b8 (cpA X.c), tCyc (.slice (some ⟨g, 0, none⟩) X.cy.length c4) X.cy, tMem lo4 hi4 (memV (.slice g1 X.m.rom.length j1) (.slice g2 X.m.ram.length j2) X.m.page X.m.screen X.m.locked) X.m, tBox b6 #[.slice e1 M.rom.length f1, .slice e2 M.ram.length f2, .int .i64 M.page, .int .i64 M.screen, .bool M.locked], tBox b5 (cpA d)] := ⟨_, rfl⟩
  have i4 : Hid (L[4]? = some (tBox (b8 + 1) #[.slice g1 X.m.rom.length j1, .slice g2 X.m.ram.length j2, .int .i64 X.m.page, .int .i64 X.m.screen, .bool X.m.locked])) := by rw [hLe]; rfl
  have i6 : Hid (L[6]? = some (tCyc (.slice (some ⟨g, 0, none⟩) X.cy.length c4) X.cy)) := by rw [hLe]; rfl
  have i7 : Hid (L[7]? = some (tMem lo4 hi4 (memV (.slice g1 X.m.rom.length j1) (.slice g2 X.m.ram.length j2) X.m.page X.m.screen X.m.locked) X.m)) := by rw [hLe]; rfl
  rw [← hLe] at T9
  replace T9 := hid T9
  have hT9 : Hid (∀ W', Exc b22 W9 W' → MemR W' (memV (.slice e1 M.rom.length f1) (.slice e2 M.ram.length f2) M.page M.screen M.locked) M) := fun W' hx => (hA3.out v3 (Below.refl _ _)).exc E9 hv3 hx
  clear T8 E8 hLe E9
  go_upto_region 13 with fail
  (try rw [hb22, hW9])
  clear hb22 hW9 x1 lb6
  have hcyB := hid hinv.out.cy
  have hrep := hid hinv.out.rep
  have hln : X.cy.length ≤ 1000000 := Nat.le_trans hinv.out.len (by decide)
  go_wp2
  go_loopw [23] (fun i wr => ∃ (k : Nat) (T : Mem) (r1 r2 : Option Addr) (q1 q2 : Nat), k ≤ X.cy.length ∧ i = .int .i64 k ∧ Hid (replay M (X.cy.take k) = T) ∧ Hid (okM T = true) ∧ StF w wr (tBox b22 #[.slice r1 T.rom.length q1, .slice r2 T.ram.length q2, .int .i64 T.page, .int .i64 T.screen, .bool T.locked] :: L) ∧ Hid (∀ W', Exc b22 wr W' → MemR W' (memV (.slice r1 T.rom.length q1) (.slice r2 T.ram.length q2) T.page T.screen T.locked) T)) (fun i _ => X.cy.length - (intOf i).toNat)
  case atStart => exact ⟨0, M, e1, e2, f1, f2, by omega, rfl, rfl, hok, T9.out, hT9.out⟩
  case round =>
    obtain ⟨k, T, r1, r2, q1, q2, hk, rfl, hTr, hTo, hSt, hTm⟩ := hrel
    clear T9 hT9
    by_cases hlt : k < X.cy.length
    · have hS := hid hSt
      obtain ⟨g', hg', _, y1, y2, y3⟩ := (hSt.at 7 i6.out : CyO wr (.slice (some ⟨g, 0, none⟩) X.cy.length c4) X.cy).some hlt
      cases hg'
      have hmem : X.cy.getD k cyz ∈ X.cy := by
        rw [List.getD_eq_getElem?_getD, List.getElem?_eq_getElem hlt]
        exact List.getElem_mem hlt
      obtain ⟨b1, b5', b2, b3⟩ := hcyB.out _ hmem
      have hsucc := take_succ_replay (M := M) hlt
      rw [hTr.out] at hsucc
      obtain ⟨t, ht⟩ : ∃ t, X.cy.getD k cyz = t := ⟨_, rfl⟩
      rw [ht] at y1 y2 y3 b1 b5' b2 b3
      have ht2 : X.cy.getD k (0, 0, 0) = t := ht
      rw [ht2] at hsucc
      obtain ⟨tk, ta, tv⟩ := t
      simp only at y1 y2 y3 b1 b5' b2 b3
      have hTi := hid (hL.out.2.2.2.below hSt.bel)
      have hlen : lenK2 ((tk : Nat) : Int) = .tuple #[.int .i64 (lenI (tk : Int)), .int .i64 0] ∧ 3 ≤ lenI (tk : Int) ∧ lenI (tk : Int) ≤ 4 := by
        have hk5 : tk = 1 ∨ tk = 2 ∨ tk = 3 ∨ tk = 4 ∨ tk = 5 := by omega
        rcases hk5 with rfl | rfl | rfl | rfl | rfl <;> exact ⟨rfl, by decide, by decide⟩
      obtain ⟨hl2, hl3, hl4⟩ := hlen
      obtain ⟨ln, hln9⟩ : ∃ ln, lenI (tk : Int) = ln := ⟨_, rfl⟩
      rw [hln9] at hl2 hl3 hl4
      replace hl2 := hid hl2
      have hgl : g < wr.heap.size := World.block_lt_of_cell? wr _ y1
      have x22 := (hSt.at 0 rfl).cell
      replace hsucc := hid hsucc
      clear hSt hmem ht ht2 hln9 hTr
      by_cases h3 : tk = 3
      · subst h3
        have hTf := ok_fit hTo.out
        have hpC : pokeC T (ta : Int) (tv : Int) = 0 := by
          unfold pokeC
          rw [ask_ok hTo.out (by omega) (by omega), if_pos rfl, in_yes (by omega) (by omega), if_pos rfl]
        have hpR : pokeR T (ta : Int) (tv : Int) = pokeM T (ta : Int) (tv : Int) := by
          unfold pokeR
          rw [hpC, if_pos rfl]
        have hokP : Hid (okM (pokeM T (ta : Int) (tv : Int)) = true) := poke_ok hTo.out (in_yes (by omega) (by omega))
        have hnew : Hid (replay M (X.cy.take (k + 1)) = pokeM T (ta : Int) (tv : Int)) := hsucc.out.trans (again_yes rfl)
        have hpo : Hid (∀ W', Below wr.heap.size wr W' → Calls Tryz.prog 15 #[memV (.slice r1 T.rom.length q1) (.slice r2 T.ram.length q2) T.page T.screen T.locked, .int .i64 (ta : Int), .int .i64 (tv : Int)] W' fun e w' => ∃ u, e = .returned (.tuple #[u, .int .i64 0]) ∧ MemO w' W'.heap.size w'.heap.size u (pokeM T (ta : Int) (tv : Int)) ∧ Below W'.heap.size W' w') := fun W' hb => by
          have q := poke_impl _ T (ta : Int) (tv : Int) W' (hTm.out W' ⟨hb.size, fun j hj _ => hb.block j hj⟩) hTf
          rw [hpC, hpR] at q
          exact q
        obtain ⟨T', hT'⟩ : ∃ T', pokeM T (ta : Int) (tv : Int) = T' := ⟨_, rfl⟩
        rw [hT'] at hokP hnew hpo
        have y1' : wr.cell? ⟨g, k * 3, none⟩ = some (.int .i64 3) := y1
        have hSS : Hid (∀ W', Below wr.heap.size wr W' → (∀ i, W'.cell? ⟨b22, i, none⟩ = (#[.slice r1 T.rom.length q1, .slice r2 T.ram.length q2, .int .i64 T.page, .int .i64 T.screen, .bool T.locked] : Array Value)[i]?) ∧ W'.cell? ⟨g, k * 3 + 1, none⟩ = some (.int .i64 (ta : Int)) ∧ W'.cell? ⟨g, k * 3 + 2, none⟩ = some (.int .i64 (tv : Int))) := fun W' hb => ⟨((hS.out.below hb).at 0 rfl).cell, by rw [hb.cell (p := ⟨g, k * 3 + 1, none⟩) hgl]; exact y2, by rw [hb.cell (p := ⟨g, k * 3 + 2, none⟩) hgl]; exact y3⟩
        have hl9 : Hid (lenK2 (3 : Int) = .tuple #[.int .i64 ln, .int .i64 0]) := hl2.out
        clear hpC hpR hT' hsucc y1 hTm
        go_wp2_with fail
        refine (length_impl _ _ hTi.out).mono ?_
        rintro e w' ⟨rfl, hww⟩
        obtain rfl := hww.symm
        rw [hl9.out]
        go_upto_region 20 with fail
        clear y2 y3 x22 y1'
        have hD : Hid (Below wr.heap.size wr wr.drew) := (Below.refl _ _).drew
        have hX9 : Hid (Below wr.heap.size wr (wr.alloc (.cells zM 30)).drew) := ((Below.refl _ _).alloc (Nat.le_refl _) _).drew
        have hXq : Hid (Blk (wr.alloc (.cells zM 30)).drew wr.heap.size zM) := Blk.new wr zM _
        go_cut [26, 27] (fun aa bb wx => ∃ b26 lo hi vr vm, aa = .pointer (some ⟨b26, 0, none⟩) ∧ bb = .int .i64 0 ∧ Hid (Laid wr wx b22 b26 lo hi vr vm T'))
        case first =>
          go_region_held3 (fun w' => (∀ i, w'.cell? ⟨b22, i, none⟩ = (#[.slice r1 T.rom.length q1, .slice r2 T.ram.length q2, .int .i64 T.page, .int .i64 T.screen, .bool T.locked] : Array Value)[i]?) ∧ w'.cell? ⟨g, k * 3 + 1, none⟩ = some (.int .i64 (ta : Int)) ∧ w'.cell? ⟨g, k * 3 + 2, none⟩ = some (.int .i64 (tv : Int))) (first | exact hSS.out _ hD.out | exact hSS.out _ hX9.out | exact hSS.out _ hB9.out | exact hSS.out _ hLd.out.bel | exact hSS.out _ (hB9.out.alloc hB9.out.size _) | exact hSS.out _ hLe.out.bel) ((go_at_call 15; first | (refine (hpo.out _ hD.out).mono ?_; rintro e v9 ⟨u9, rfl, hm9, hb9⟩; obtain ⟨z1, a9, z2, c9, rfl, _, _⟩ := hm9.reads.form; have hB9 := hid (new_trans hD.out hb9); have hLe := hid (Laid.last (b22 := b22) 30 hD.out hm9 hb9); clear hm9 hb9) | (refine (hpo.out _ hX9.out).mono ?_; rintro e v9 ⟨u9, rfl, hm9, hb9⟩; obtain ⟨z1, a9, z2, c9, rfl, _, _⟩ := hm9.reads.form; have hB9 := hid (new_trans hX9.out hb9); have hLd := hid (Laid.first (b22 := b22) hX9.out hXq.out hm9 hb9); have q9 := hXq.out.below hb9 hXq.out.lt; have y9 := q9.cell; have f9 := q9.frozen; have k9 := q9.lt; clear q9 hm9 hb9)))
          all_goals go_wp2_with fail
          all_goals go_meet
          all_goals first
            | exact ⟨_, _, _, _, _, rfl, rfl, hLe⟩
            | exact ⟨_, _, _, _, _, rfl, rfl, hLd⟩
        case rest =>
        obtain ⟨b26, lo, hi, vr, vm, rfl, rfl, hLa⟩ := hcut
        obtain ⟨z1, a9, z2, c9, hzz, _, _⟩ := hLa.out.mem.reads.form
        have S9 := hS.out.below hLa.out.bel
        have hx := hLa.out
        simp only [memV, Value.agg.injEq, Array.mk.injEq, List.cons.injEq, and_true] at hzz
        obtain ⟨rfl, rfl⟩ := hzz
        have x26 := hx.blk.cell
        have x22 := (S9.at 0 rfl).cell
        have f22 := (S9.at 0 rfl : Blk wc b22 _).frozen
        have l22 := (S9.at 0 rfl : Blk wc b22 _).lt
        have l22r := (hS.out.at 0 rfl : Blk wr b22 _).lt
        have S10 := hid (S9.reset (meL (.slice z1 T'.rom.length a9) (.slice z2 T'.ram.length c9) T') (setsM2 _ _ _ _ _ _ _ _))
        have hM10 : Hid (∀ W', Exc b22 (sets wc b22 0 (meL (.slice z1 T'.rom.length a9) (.slice z2 T'.ram.length c9) T')) W' → MemR W' (memV (.slice z1 T'.rom.length a9) (.slice z2 T'.ram.length c9) T'.page T'.screen T'.locked) T') := fun W' hxx => (MemO.exc (b := b22) hx.mem hx.ord.2 (by have := hx.ord.1; omega) ((Exc.sets b22 wc 0 _).trans hxx)).reads
        replace hS := S10
        clear hx S9 hLa S10
        obtain ⟨WF, hWF⟩ : ∃ WF, sets wc b22 0 (meL (.slice z1 T'.rom.length a9) (.slice z2 T'.ram.length c9) T') = WF := ⟨_, rfl⟩
        rw [hWF] at hS hM10
        simp only [sets, Nat.zero_add, Nat.reduceAdd] at hWF
        replace hWF := hid hWF
        go_wp2
        (try rw [hWF.out])
        go_roundw
        case rel => exact ⟨k + 1, T', z1, z2, a9, c9, by omega, by go_num, hnew, hokP, by (try rw [hWF.out]); exact hS.out, by (try rw [hWF.out]); exact hM10⟩
        case measure => simp [intOf]; omega
      · have h3b : ((tk : Int) != 3) = true := by
          simp
          omega
        have hsame := hid ((again_no (M := T) (t := (tk, ta, tv)) h3).symm.trans hsucc.out.symm).symm
        go_wp2_with fail
        refine (length_impl _ _ hTi.out).mono ?_
        rintro e w' ⟨rfl, hww⟩
        obtain rfl := hww.symm
        rw [hl2.out]
        go_wp2
        go_roundw
        case rel => exact ⟨k + 1, T, r1, r2, q1, q2, by omega, by go_num, hsame.out, hTo, hS.out, hTm⟩
        case measure => simp [intOf]; omega
    · obtain rfl : k = X.cy.length := by omega
      have hTX : T = X.m := by
        have := hTr.out
        rw [List.take_length, hrep.out] at this
        exact this.symm
      have hS := hid hSt
      have x22 := (hSt.at 0 rfl).cell
      have x9 := (hSt.at 5 i4.out : Blk wr (b8 + 1) _).cell
      have hfT := ok_fit hTo.out
      have hsm : Hid (sameM T X.m = true) := by
        unfold Hid
        rw [hTX]
        exact same_self hokX
      clear hSt hTX
      go_wp2_with fail
      refine (same_impl _ _ T X.m _ (hTm.out _ (Exc.refl _ _)) (MemO.reads (hS.out.at 8 i7.out)) hfT hfX).mono ?_
      rintro e w8 ⟨rfl, hb⟩
      rw [hsm.out]
      have hBe := hid (new_trans hS.out.bel hb)
      clear hb
      go_wp2
      go_ret
      exact ⟨rfl, hBe.out⟩

theorem door_met (os : Os) (args : Array Value) : laidMetH Tryz.prog Rows.fnStepRow.laid ((World.doorLaid Tryz.prog 400 os).forCall (fun _ _ => 0) ⟨#[], args, []⟩).memory :=
  laidMetH_of_parts3 (fuel := 8) (laidMet_of_run' 8 (by kernel_rfl) (by kernel_rfl)) (by kernel_rfl) (by kernel_rfl)

set_option maxRecDepth 100000 in
theorem lifted (os : Os) (started : os.Started) (H : Type) (enc : TypeId × Value → H) :
    ReturnsInHanded {} Tryz.checked os 3 .any (fun w args => (Rows.fnStepSpec.pre enc Tryz.prog Tryz.f3 [] false w args ∧ laidMetH Tryz.prog Rows.fnStepRow.laid w) ∧ sizedMet enc Tryz.prog Tryz.f3 (OpenSpec.ofChange Rows.fnStepSpec) false w args)
      (Rows.fnStepSpec.post enc Tryz.prog Tryz.f3 false true false false) := by
  refine returnsInHanded_of_change_and (C := Tryz.checked) (X := fun w _ => laidMetH Tryz.prog Rows.fnStepRow.laid w) (fun _ _ _ hh h => h.of_heap hh) own started (by kernel_rfl) Tryz.func3
    (ChangeSpec.witness_shaped (enc := enc) (C := Tryz.checked) (os := os) (X := fun w _ => laidMetH Tryz.prog Rows.fnStepRow.laid w) false (World.doorLaid Tryz.prog 400 os) #[.slice none 0 0, .slice none 0 0] 8 rfl (World.shaped_of_RefB (by kernel_rfl) (by kernel_rfl)) (by kernel_rfl) (by kernel_rfl) (by kernel_rfl) (door_met os _)) ?_
  intro W base args ds gs before hval0 hW _ _ hL _
  have hval : ∀ (j : Nat) t v, Tryz.f3.params[j]? = some t → args[j]? = some v → Value.okWide Tryz.prog W .any base t v := hval0
  have hW' := hW
  obtain ⟨p, q, hA0, hV, hbefore, hfz, hnd⟩ := hW
  have hA : DataW.TrodAll enc Tryz.prog W 0 (fun _ => true) true Tryz.f3.params.toList args.toList ds p := hA0
  rw [Tryz.params3] at hA hval
  obtain ⟨v0, vs0, d0, ds0, p0, q0, hargs, rfl, rfl, h0, r0⟩ := trodAll_cons hA
  obtain ⟨v1, vs1, d1, ds1, p1, q1, rfl, rfl, rfl, h1, r1⟩ := trodAll_cons r0
  obtain ⟨rfl, rfl, rfl⟩ := trodAll_nil r1
  obtain rfl : args = #[v0, v1] := by cases args; simp_all
  obtain ⟨g0, g1, g2, g3, rfl⟩ := vars4_form hV
  obtain ⟨a0, len0, cap0, rfl⟩ := okWide_slice Tryz.underlying22 (hval 0 22 v0 rfl rfl)
  have k0 := h0
  have lt0 : ∀ x ∈ p0, x.block < W.heap.size := by obtain ⟨m, hm⟩ := k0; exact DataW.trod_lt m _ _ _ hm
  obtain ⟨z0, w0⟩ : ∃ zs, IsRow .u8 W a0 len0 cap0 zs := by
    obtain ⟨fuel, hf⟩ := h0
    rcases open_ints Tryz.underlying22 Tryz.underlying5 (by kernel_rfl) hf with ⟨hcs, _⟩ | ⟨x, l, c, zs, hcs, _, hl, hm, hz, _, hcell, hwz⟩
    · simp [Value.cells] at hcs
      obtain ⟨rfl, rfl, rfl⟩ := hcs
      exact ⟨[], .inl ⟨rfl, rfl, rfl, rfl⟩⟩
    · simp [Value.cells] at hcs
      obtain ⟨rfl, rfl, rfl⟩ := hcs
      exact ⟨zs, .inr ⟨_, rfl, hl, hm, by simpa using hz, hcell, hwz⟩⟩
  obtain ⟨a1, len1, cap1, rfl⟩ := okWide_slice Tryz.underlying22 (hval 1 22 v1 rfl rfl)
  have k1 := h1
  have lt1 : ∀ x ∈ p1, x.block < W.heap.size := by obtain ⟨m, hm⟩ := k1; exact DataW.trod_lt m _ _ _ hm
  obtain ⟨z1, w1⟩ : ∃ zs, IsRow .u8 W a1 len1 cap1 zs := by
    obtain ⟨fuel, hf⟩ := h1
    rcases open_ints Tryz.underlying22 Tryz.underlying5 (by kernel_rfl) hf with ⟨hcs, _⟩ | ⟨x, l, c, zs, hcs, _, hl, hm, hz, _, hcell, hwz⟩
    · simp [Value.cells] at hcs
      obtain ⟨rfl, rfl, rfl⟩ := hcs
      exact ⟨[], .inl ⟨rfl, rfl, rfl, rfl⟩⟩
    · simp [Value.cells] at hcs
      obtain ⟨rfl, rfl, rfl⟩ := hcs
      exact ⟨zs, .inr ⟨_, rfl, hl, hm, by simpa using hz, hcell, hwz⟩⟩
  clear hA0 hval0
  refine (walk a0 len0 cap0 z0 a1 len1 cap1 z1 W w0 w1 (step4_of hL)).mono fun e W' ⟨he, bel⟩ => ?_
  subst he
  exact ⟨_, rfl, _, _, _, [], _, _, hW', trodAll_mk1 (shut_bool Tryz.underlying4 _), (trodAll_cons_mk (Below.trod laidOut (by kernel_rfl) (of_decide_eq_true (by kernel_rfl)) k0 bel lt0) (trodAll_cons_mk (Below.trod laidOut (by kernel_rfl) (of_decide_eq_true (by kernel_rfl)) k1 bel lt1) trodAll_mk0)), Below.trodVars laidOut bel (by kernel_rfl) hV, bel.frame _, fun h => by cases h⟩

theorem said : Rows.FnStepSaid :=
  OpenClaim.holds_of_wide 3 Tryz.f3 rfl rfl rfl rfl rfl rfl rfl ⟨rfl, rfl, rfl, rfl, rfl⟩ rfl rfl rfl rfl rfl (by kernel_rfl) Tryz.func3 (by kernel_rfl)
    (of_decide_eq_true (by kernel_rfl)) (by unfold Func.isWrapper; first | (rw [if_pos (by decide +kernel)]; kernel_rfl) | (rw [if_neg (by decide +kernel)]; exact ⟨rfl, rfl⟩))
    (fun os started H enc _ => lifted os started H enc)

theorem card : Rows.FnStepCardSaid :=
  Claim7.holds_tied_plain_at .later [] _ _ _ _ said (fun _ h => by cases h) (by kernel_rfl) (fun _ h => by cases h) fnStep_row_tie rfl ⟨rfl, rfl⟩ (by kernel_rfl) rfl
    (fun f fn hf hfn => by
      obtain rfl : f = 3 := Option.some.inj ((show Tryz.prog.funcNamed "loop.example/g00644/laws.FnStep" = some 3 by kernel_rfl).symm.trans hf) |>.symm
      obtain rfl : fn = Tryz.f3 := (Option.some.inj (Tryz.func3.symm.trans hfn)).symm
      exact ⟨by kernel_rfl, fun j t ht => by
        rw [Tryz.params3] at ht
        have hm : t ∈ [22, 22] := by simpa using Array.mem_of_getElem? ht
        have hall : ([22, 22].all fun u => !Tryz.prog.wantsStandIn u) = true := by kernel_rfl
        exact (show Tryz.prog.wantsStandIn t = false by simpa using List.all_eq_true.1 hall t hm)⟩)
    (by kernel_rfl)
end Go.Proofs.YtgpmpfikeindfaaGreatDoor.fnStep
namespace Go.Proofs.YtgpmpfikeindfaaGreatDoor
theorem fnStep_holds : Rows.FnStepCardSaid := fnStep.card
#print axioms fnStep_holds
end Go.Proofs.YtgpmpfikeindfaaGreatDoor
