/- For all bytes the law FnTone returns true: a tone turns about each so many ticks, and is as it was after twice as many; the program's table of registers' bits being as its text lays it. -/
import Derived.Test.YtjdgfbaioafjcaaDoorCards
import Derived.Test.YtjdgfbaioafjcaaDoorTie
import Derived.Test.YtjdgfbaioafjcaaDoorYa
import Derived.Test.YtjdgfbaioafjcaaDoorYb
import Derived.Test.YtjdgfbaioafjcaaDoorYc
import Derived.Test.YtjdgfbaioafjcaaDoorYd
import Derived.Test.YtjdgfbaioafjcaaDoorYp
import Derived.Test.YtjdgfbaioafjcaaDoorYq
import Derived.Test.YtjdgfbaioafjcaaDoorYs
import Derived.Test.YtjdgfbaioafjcaaDoorYl
import Derived.Test.YtjdgfbaioafjcaaDoorYo
import Derived.Test.YtjdgfbaioafjcaaDoorYy
import Derived.Test.YtjdgfbaioafjcaaDoorYw
import Derived.Test.YtjdgfbaioafjcaaDoorYz
import Derived.Test.YtjdgfbaioafjcaaDoorYct
import Derived.Test.YtjdgfbaioafjcaaDoorYta
import Derived.Test.YtjdgfbaioafjcaaDoorYtb
import Derived.Test.YtjdgfbaioafjcaaDoorAx
import Derived.WalkKit
import Derived.ProofKit
import Derived.OpenShut
import Derived.ShutString
import Derived.ChangeOld
import Derived.Below
import Derived.LaidMore
import Derived.OpenVars
import Derived.SevenTiedAt
import Derived.Stop.Joined
import Derived.Lib.SmallJoins
import Derived.Deep.MidRow
import Derived.Deep.DeepCutAuto
namespace Go.Proofs.YtjdgfbaioafjcaaDoor.fnTone
open Go.ChangeShapes Go.WideShapes Go.ChangeAt Go.RowKit Go.Joins
open Go.ChangeMaps (open_string shut_string)
set_option linter.unusedVariables false

theorem own : ownKnob Tryd.prog.godebug = none := by kernel_rfl
theorem laidOut : laidOutB Tryd.prog = true := by kernel_rfl

def IsRow (k : IntKind) (w : World) (a : Option Addr) (len cap : Nat) (zs : List Int) : Prop :=
  (a = none ∧ len = 0 ∧ cap = 0 ∧ zs = []) ∨
  ∃ x, a = some x ∧ len ≤ cap ∧ cap ≤ maxLen ∧ zs.length = cap ∧ (∀ i, i < zs.length → w.cell? (x.add i) = some (.int k (zs.getD i 0))) ∧ ∀ n ∈ zs, (Lit.int k n).wf = true

set_option maxRecDepth 100000 in
set_option maxHeartbeats 8000000 in
theorem walk (a0 : Option Addr) (len0 cap0 : Nat) (z0 : List Int) (a1 : Option Addr) (len1 cap1 : Nat) (z1 : List Int) (w : World) (w0 : IsRow .u8 w a0 len0 cap0 z0) (w1 : IsRow .u8 w a1 len1 cap1 z1) (hL : PBit w) :
    Calls Tryd.prog 4 #[.slice a0 len0 cap0, .slice a1 len1 cap1] w fun e w' => e = .returned (.bool true) ∧ Below w.heap.size w w' := by
  have hc0 := codeAt_of w0
  have hc1 := codeAt_of w1
  have hnn : ∀ (zs : List Int) (a : Option Addr) (len cap : Nat), IsRow .u8 w a len cap zs → len ≤ maxLen := by
    intro zs a len cap h
    rcases h with ⟨_, rfl, _, _⟩ | ⟨x, _, hl, hm, _⟩
    · exact Nat.zero_le _
    · omega
  have hl0 := hnn _ _ _ _ w0
  have hl1 := hnn _ _ _ _ w1
  clear hnn w0 w1
  unfold maxLen at hl0 hl1
  by_cases h1 : 1048576 < len0
  · go_enter Tryd.func4, Tryd.ntmps4
    go_wp2
    go_ret
    exact ⟨rfl, Below.refl _ _⟩
  by_cases h2 : 1048576 < len1
  · go_enter Tryd.func4, Tryd.ntmps4
    go_wp2
    go_ret
    exact ⟨rfl, Below.refl _ _⟩
  have hb0 := hid (Below.refl w.heap.size w)
  have hP0 := hid hL
  replace hL := hid hL
  obtain ⟨kk, ekk, lkk⟩ : ∃ a : Nat, atV w a1 len1 1 60 = (a : Int) ∧ a < 60 := by
    have := atV_bd (w := w) (a := a1) (len := len1) (i := 1) (n := 60) (by omega)
    exact ⟨(atV w a1 len1 1 60).toNat, by omega, by omega⟩
  have hat : Hid (∀ W, Below w.heap.size w W → Calls Tryd.prog 10 #[.slice a1 len1 cap1, .int .i64 1, .int .i64 60] W fun r w' => r = .returned (.int .i64 (kk : Int)) ∧ Below W.heap.size W w') := fun W hb => by
    refine (at_val a1 len1 cap1 1 60 W.heap.size W (hc1.below hb hb.size) (by omega) (by omega) (by omega)).mono ?_
    rintro r w' ⟨rfl, hb'⟩
    rw [atV_below hc1 hb, ekk]
    exact ⟨rfl, hb'⟩
  obtain ⟨C0, hC0⟩ : ∃ C0, neS = C0 := ⟨_, rfl⟩
  have ok0 : okS C0 = true := by rw [← hC0]; exact okS_new
  have hne := hid (fun w1 (h : PBit w1) => newsg_impl w1 h)
  rw [hC0] at hne
  have hsel := hid (fun w1 (h : PBit w1) => sel_impl C0 ((0 : Nat) : Int) w1 h)
  rw [sel2_ok ok0 (by omega), show ({ C0 with sel := ((0 : Nat) : Int) } : Sg) = C0 by rw [← hC0]; rfl] at hsel
  replace hsel : Hid (∀ w1, PBit w1 → Calls Tryd.prog 11 #[sgV C0, .int .i64 0] w1 fun e w' => e = .returned (ansS (C0, 0)) ∧ Below w1.heap.size w1 w') := hsel
  clear ekk
  go_enter Tryd.func4, Tryd.ntmps4
  go_wp2_with fail
  refine (at_val _ _ _ 0 100 _ _ (hc1.below hb0.out hb0.out.size) (by omega) (by omega) (by omega)).mono ?_
  rintro e w1 ⟨rfl, hb⟩
  obtain ⟨m, em, lm⟩ : ∃ a : Nat, atV w a1 len1 0 100 = (a : Int) ∧ a < 100 := by
    have := atV_bd (w := w) (a := a1) (len := len1) (i := 0) (n := 100) (by omega)
    exact ⟨(atV w a1 len1 0 100).toNat, by omega, by omega⟩
  rw [em]
  clear em
  have hb1 := hid (new_trans hb0.out hb)
  have hP1 := hid (hP0.out.below hb)
  clear hb hb0 hP0
  obtain ⟨n, hn⟩ : ∃ n, n = m + 1 := ⟨_, rfl⟩
  have hN1 : (1 : Int) + (m : Int) = (n : Int) := by omega
  have hN2 : Hid ((n : Int) - 1 = (m : Int)) := by show (n : Int) - 1 = (m : Int); omega
  obtain ⟨P, hP⟩ : ∃ P, C0.write n = P := ⟨_, rfl⟩
  have okP : okS P = true := by rw [← hP]; exact okS_write ok0 n
  have fP : P.r0 = n ∧ P.c0 = 0 ∧ P.o0 = false := by
    rw [← hP, ← hC0, write_eq neS 0 n rfl, if_neg (by omega)]
    exact ⟨by show ((Nat.land n 255 : Nat) : Int) = n; rw [land255 n (by omega)], rfl, rfl⟩
  obtain ⟨X, hX⟩ : ∃ X, P.steps m = X := ⟨_, rfl⟩
  obtain ⟨Y, hY⟩ : ∃ Y, P.steps n = Y := ⟨_, rfl⟩
  obtain ⟨Z, hZ⟩ : ∃ Z, Y.steps n = Z := ⟨_, rfl⟩
  have okY : okS Y = true := by rw [← hY]; exact okS_steps okP n
  have fX : Hid (X.o0 = false) := by
    show X.o0 = false
    rw [← hX, (tone_run P n fP.1 fP.2.1 m (by omega)).2.1]
    exact fP.2.2
  have fY := tone_turn P n (by omega) fP.1 fP.2.1
  rw [hY, fP.2.2] at fY
  have fZ := tone_turn Y n (by omega) fY.2.2 fY.1
  rw [hZ, fY.2.1] at fZ
  have gY : Hid (Y.o0 = true) := fY.2.1
  have gZ : Hid (Z.o0 = false ∧ Z.c0 = 0) := ⟨fZ.2.1, fZ.1⟩
  have s1 := hid (fun w1 (h : PBit w1) => wreg_impl C0 (n : Int) w1 h)
  rw [write2_ok ok0 (by omega), hP] at s1
  have s2 := hid (fun w1 (h : PBit w1) => stepp_impl P (m : Int) w1 h)
  rw [step2_ok okP (by omega), hX] at s2
  have s3 := hid (fun w1 (h : PBit w1) => stepp_impl P (n : Int) w1 h)
  rw [step2_ok okP (by omega), hY] at s3
  have s5 := hid (fun w1 (h : PBit w1) => stepp_impl Y (n : Int) w1 h)
  rw [step2_ok okY (by omega), hZ] at s5
  clear hC0 hP okP fP hX hY hZ okY fY fZ ok0 hn hc1
  go_wp2_with fail
  refine (hne.out _ hP1.out).mono ?_
  rintro e w2 ⟨rfl, hb⟩
  have hb2 := hid (new_trans hb1.out hb)
  have hP2 := hid (hP1.out.below hb)
  clear hb hb1 hP1
  go_wp2_with fail
  refine (hsel.out _ hP2.out).mono ?_
  rintro e w3 ⟨rfl, hb⟩
  have hb3 := hid (new_trans hb2.out hb)
  have hP3 := hid (hP2.out.below hb)
  clear hb hb2 hP2
  obtain ⟨W4, eW⟩ : ∃ W, (w3.alloc (.cells (sgA zeS) 27)).setCells w3.heap.size 0 (sgA C0).toList = W := ⟨_, rfl⟩
  have hth := hid (sg_there (Blk.new w3 (sgA zeS) 27) C0)
  have hal : Below w3.heap.size w3 W4 := by rw [← eW]; exact lay_below _ _ _ (Nat.le_refl _) ((Below.refl w3.heap.size w3).alloc (Nat.le_refl _) (.cells (sgA zeS) 27))
  have b6q4 : Blk W4 w3.heap.size (sgA C0) := by rw [← eW]; exact sg_laid (Blk.new w3 (sgA zeS) 27) C0
  replace b6q4 := hid b6q4
  have hb4 := hid (new_trans hb3.out hal)
  have hP4 := hid (hP3.out.below hal)
  have lb6 := hid hb3.out.size
  replace eW := hid eW
  clear hal hb3 hP3
  go_upto_region 5 with (guard_target = wpList _ _ _ (Oper.mk _ (Op.store _ _ _) _ _ _ _ :: _) _ _; refine wpList_store_mid rfl 27 _ _ rfl w3.heap.size 0 (sgA C0) rfl rfl hth.out (sg_size C0) (sg_one C0) ?_; rw [eW.out])
  obtain ⟨b6, eb6⟩ : ∃ b, w3.heap.size = b := ⟨_, rfl⟩
  rw [eb6] at b6q4 lb6
  rw [eb6]
  clear eW eb6 hth
  have gr := hid (sg_range b6q4.out)
  go_wp2_with (guard_target = wpList _ _ _ (Oper.mk _ (Op.load _ _) _ _ _ _ :: _) _ _; refine wpList_load_mid rfl 27 _ rfl b6 0 rfl (sgA C0).toList _ gr.out Tryd.underlying27 rfl (sg_size C0) ?_)
  refine (s1.out _ hP4.out).mono ?_
  rintro e w5 ⟨rfl, hb⟩
  have hb5 := hid (new_trans hb4.out hb)
  have hP5 := hid (hP4.out.below hb)
  have b6q5 := hid (b6q4.out.below hb b6q4.out.lt)
  clear hb hb4 hP4 b6q4 gr
  obtain ⟨W6, eW⟩ : ∃ W, w5.setCells b6 0 (sgA P).toList = W := ⟨_, rfl⟩
  have hth := hid (sg_there b6q5.out P)
  have hb6 : Below w.heap.size w W6 := by rw [← eW]; exact lay_below _ _ _ lb6.out hb5.out
  have b6q6 : Blk W6 b6 (sgA P) := by rw [← eW]; exact sg_laid b6q5.out P
  replace b6q6 := hid b6q6
  replace hb6 := hid hb6
  have hP6 := hid (hL.out.below hb6.out)
  replace eW := hid eW
  clear hb5 hP5 b6q5
  go_upto_region 6 with (guard_target = wpList _ _ _ (Oper.mk _ (Op.store _ _ _) _ _ _ _ :: _) _ _; refine wpList_store_mid rfl 27 _ _ rfl b6 0 (sgA P) rfl rfl hth.out (sg_size P) (sg_one P) ?_; rw [eW.out])
  clear eW hth
  have hN3 := hN2.out
  have gr := hid (sg_range b6q6.out)
  go_wp2_with (guard_target = wpList _ _ _ (Oper.mk _ (Op.load _ _) _ _ _ _ :: _) _ _; refine wpList_load_mid rfl 27 _ rfl b6 0 rfl (sgA P).toList _ gr.out Tryd.underlying27 rfl (sg_size P) ?_)
  refine (s2.out _ hP6.out).mono ?_
  rintro e w7 ⟨rfl, hb⟩
  have hb7 := hid (new_trans hb6.out hb)
  have hP7 := hid (hP6.out.below hb)
  have b6q7 := hid (b6q6.out.below hb b6q6.out.lt)
  clear hb hb6 hP6 b6q6 gr
  clear hN3
  obtain ⟨W8, eW⟩ : ∃ W, (w7.alloc (.cells (sgA zeS) 27)).setCells w7.heap.size 0 (sgA X).toList = W := ⟨_, rfl⟩
  have hth := hid (sg_there (Blk.new w7 (sgA zeS) 27) X)
  have hal : Below w7.heap.size w7 W8 := by rw [← eW]; exact lay_below _ _ _ (Nat.le_refl _) ((Below.refl w7.heap.size w7).alloc (Nat.le_refl _) (.cells (sgA zeS) 27))
  have b9q8 : Blk W8 w7.heap.size (sgA X) := by rw [← eW]; exact sg_laid (Blk.new w7 (sgA zeS) 27) X
  replace b9q8 := hid b9q8
  have hb8 := hid (new_trans hb7.out hal)
  have hP8 := hid (hP7.out.below hal)
  have lb9 := hid hb7.out.size
  have b6q8 := hid (b6q7.out.below hal b6q7.out.lt)
  replace eW := hid eW
  clear hal hb7 hP7 b6q7
  go_upto_region 7 with (guard_target = wpList _ _ _ (Oper.mk _ (Op.store _ _ _) _ _ _ _ :: _) _ _; refine wpList_store_mid rfl 27 _ _ rfl w7.heap.size 0 (sgA X) rfl rfl hth.out (sg_size X) (sg_one X) ?_; rw [eW.out])
  obtain ⟨b9, eb9⟩ : ∃ b, w7.heap.size = b := ⟨_, rfl⟩
  rw [eb9] at b9q8 lb9
  rw [eb9]
  clear eW eb9 hth
  have gr := hid (sg_range b6q8.out)
  go_wp2_with (guard_target = wpList _ _ _ (Oper.mk _ (Op.load _ _) _ _ _ _ :: _) _ _; refine wpList_load_mid rfl 27 _ rfl b6 0 rfl (sgA P).toList _ gr.out Tryd.underlying27 rfl (sg_size P) ?_)
  refine (s3.out _ hP8.out).mono ?_
  rintro e w9 ⟨rfl, hb⟩
  have hb9 := hid (new_trans hb8.out hb)
  have hP9 := hid (hP8.out.below hb)
  have b6q9 := hid (b6q8.out.below hb b6q8.out.lt)
  have b9q9 := hid (b9q8.out.below hb b9q8.out.lt)
  clear hb hb8 hP8 b6q8 b9q8 gr
  obtain ⟨W10, eW⟩ : ∃ W, (w9.alloc (.cells (sgA zeS) 27)).setCells w9.heap.size 0 (sgA Y).toList = W := ⟨_, rfl⟩
  have hth := hid (sg_there (Blk.new w9 (sgA zeS) 27) Y)
  have hal : Below w9.heap.size w9 W10 := by rw [← eW]; exact lay_below _ _ _ (Nat.le_refl _) ((Below.refl w9.heap.size w9).alloc (Nat.le_refl _) (.cells (sgA zeS) 27))
  have b11q10 : Blk W10 w9.heap.size (sgA Y) := by rw [← eW]; exact sg_laid (Blk.new w9 (sgA zeS) 27) Y
  replace b11q10 := hid b11q10
  have hb10 := hid (new_trans hb9.out hal)
  have hP10 := hid (hP9.out.below hal)
  have lb11 := hid hb9.out.size
  have b6q10 := hid (b6q9.out.below hal b6q9.out.lt)
  have b9q10 := hid (b9q9.out.below hal b9q9.out.lt)
  replace eW := hid eW
  clear hal hb9 hP9 b6q9 b9q9
  go_upto_region 8 with (guard_target = wpList _ _ _ (Oper.mk _ (Op.store _ _ _) _ _ _ _ :: _) _ _; refine wpList_store_mid rfl 27 _ _ rfl w9.heap.size 0 (sgA Y) rfl rfl hth.out (sg_size Y) (sg_one Y) ?_; rw [eW.out])
  obtain ⟨b11, eb11⟩ : ∃ b, w9.heap.size = b := ⟨_, rfl⟩
  rw [eb11] at b11q10 lb11
  rw [eb11]
  clear eW eb11 hth
  have gr := hid (sg_range b11q10.out)
  go_wp2_with (guard_target = wpList _ _ _ (Oper.mk _ (Op.load _ _) _ _ _ _ :: _) _ _; refine wpList_load_mid rfl 27 _ rfl b11 0 rfl (sgA Y).toList _ gr.out Tryd.underlying27 rfl (sg_size Y) ?_)
  refine (s5.out _ hP10.out).mono ?_
  rintro e w11 ⟨rfl, hb⟩
  have hb11 := hid (new_trans hb10.out hb)
  have hP11 := hid (hP10.out.below hb)
  have b6q11 := hid (b6q10.out.below hb b6q10.out.lt)
  have b9q11 := hid (b9q10.out.below hb b9q10.out.lt)
  have b11q11 := hid (b11q10.out.below hb b11q10.out.lt)
  clear hb hb10 hP10 b6q10 b9q10 b11q10 gr
  obtain ⟨W12, eW⟩ : ∃ W, (w11.alloc (.cells (sgA zeS) 27)).setCells w11.heap.size 0 (sgA Z).toList = W := ⟨_, rfl⟩
  have hth := hid (sg_there (Blk.new w11 (sgA zeS) 27) Z)
  have hal : Below w11.heap.size w11 W12 := by rw [← eW]; exact lay_below _ _ _ (Nat.le_refl _) ((Below.refl w11.heap.size w11).alloc (Nat.le_refl _) (.cells (sgA zeS) 27))
  have b13q12 : Blk W12 w11.heap.size (sgA Z) := by rw [← eW]; exact sg_laid (Blk.new w11 (sgA zeS) 27) Z
  replace b13q12 := hid b13q12
  have hb12 := hid (new_trans hb11.out hal)
  have hP12 := hid (hP11.out.below hal)
  have lb13 := hid hb11.out.size
  have b6q12 := hid (b6q11.out.below hal b6q11.out.lt)
  have b9q12 := hid (b9q11.out.below hal b9q11.out.lt)
  have b11q12 := hid (b11q11.out.below hal b11q11.out.lt)
  replace eW := hid eW
  clear hal hb11 hP11 b6q11 b9q11 b11q11
  go_upto_region 9 with (guard_target = wpList _ _ _ (Oper.mk _ (Op.store _ _ _) _ _ _ _ :: _) _ _; refine wpList_store_mid rfl 27 _ _ rfl w11.heap.size 0 (sgA Z) rfl rfl hth.out (sg_size Z) (sg_one Z) ?_; rw [eW.out])
  obtain ⟨b13, eb13⟩ : ∃ b, w11.heap.size = b := ⟨_, rfl⟩
  rw [eb13] at b13q12 lb13
  rw [eb13]
  clear eW eb13 hth
  go_wp2_with fail
  refine (psgdrawn_any _ _ _ _ (hc0.below hb12.out hb12.out.size) (by omega)).mono ?_
  rintro e w13 ⟨q, rfl, hok, hb⟩
  have hb13 := hid (new_trans hb12.out hb)
  have hP13 := hid (hP12.out.below hb)
  have b6q13 := hid (b6q12.out.below hb b6q12.out.lt)
  have b9q13 := hid (b9q12.out.below hb b9q12.out.lt)
  have b11q13 := hid (b11q12.out.below hb b11q12.out.lt)
  have b13q13 := hid (b13q12.out.below hb b13q12.out.lt)
  clear hb hb12 hP12 b6q12 b9q12 b11q12 b13q12
  obtain ⟨D, hD⟩ : ∃ D, q.steps kk = D := ⟨_, rfl⟩
  have okD : okS D = true := by rw [← hD]; exact okS_steps hok kk
  have s6 := hid (fun w1 (h : PBit w1) => stepp_impl q (kk : Int) w1 h)
  rw [step2_ok hok (by omega), hD] at s6
  have s7 := hid (fun w1 => stepp_spec q (kk : Int) w1)
  rw [step2_ok hok (by omega), hD] at s7
  have s8 := hid (fun w1 (h : PBit w1) => lev_impl D w1 h)
  rw [lev2_ok okD] at s8
  have s9 := hid (fun w1 => lev_spec D w1)
  rw [lev2_ok okD] at s9
  have hl := levN_le okD
  generalize levN D = l at *
  replace hl := hid hl
  clear hD okD hok hc0
  obtain ⟨W14, eW⟩ : ∃ W, (w13.alloc (.cells (sgA zeS) 27)).setCells w13.heap.size 0 (sgA q).toList = W := ⟨_, rfl⟩
  have hth := hid (sg_there (Blk.new w13 (sgA zeS) 27) q)
  have hal : Below w13.heap.size w13 W14 := by rw [← eW]; exact lay_below _ _ _ (Nat.le_refl _) ((Below.refl w13.heap.size w13).alloc (Nat.le_refl _) (.cells (sgA zeS) 27))
  have b15q14 : Blk W14 w13.heap.size (sgA q) := by rw [← eW]; exact sg_laid (Blk.new w13 (sgA zeS) 27) q
  replace b15q14 := hid b15q14
  have hb14 := hid (new_trans hb13.out hal)
  have hP14 := hid (hP13.out.below hal)
  have lb15 := hid hb13.out.size
  have b6q14 := hid (b6q13.out.below hal b6q13.out.lt)
  have b9q14 := hid (b9q13.out.below hal b9q13.out.lt)
  have b11q14 := hid (b11q13.out.below hal b11q13.out.lt)
  have b13q14 := hid (b13q13.out.below hal b13q13.out.lt)
  replace eW := hid eW
  clear hal hb13 hP13 b6q13 b9q13 b11q13 b13q13
  go_upto_region 10 with (guard_target = wpList _ _ _ (Oper.mk _ (Op.store _ _ _) _ _ _ _ :: _) _ _; refine wpList_store_mid rfl 27 _ _ rfl w13.heap.size 0 (sgA q) rfl rfl hth.out (sg_size q) (sg_one q) ?_; rw [eW.out])
  obtain ⟨b15, eb15⟩ : ∃ b, w13.heap.size = b := ⟨_, rfl⟩
  rw [eb15] at b15q14 lb15
  rw [eb15]
  clear eW eb15 hth
  refine yta_reg _ W14 _ q D a1 len1 cap1 kk b15 rfl rfl b15q14.out (fun W hb => hat.out W (new_trans hb14.out hb)) (fun W hb => s6.out W (hP14.out.below hb)) (Nat.le_of_ble_eq_true rfl) ?_
  intro W15 b16 hb hq
  simp only [putsA, Act.put, List.setIfInBounds_toArray, List.set_cons_zero, List.set_cons_succ]
  have b16q15 := hid hq
  have hb15 := hid (new_trans hb14.out hb)
  have hP15 := hid (hP14.out.below hb)
  have b6q15 := hid (b6q14.out.below hb b6q14.out.lt)
  have b9q15 := hid (b9q14.out.below hb b9q14.out.lt)
  have b11q15 := hid (b11q14.out.below hb b11q14.out.lt)
  have b13q15 := hid (b13q14.out.below hb b13q14.out.lt)
  have b15q15 := hid (b15q14.out.below hb b15q14.out.lt)
  clear hb hq hb14 hP14 b6q14 b9q14 b11q14 b13q14 b15q14
  go_upto_region 11 with fail
  refine ytb_reg _ W15 _ q D a1 len1 cap1 kk b15 rfl rfl b15q15.out (fun W hb => hat.out W (new_trans hb15.out hb)) (fun W hb => s7.out W) (Nat.le_of_ble_eq_true rfl) ?_
  intro W16 b18 hb hq
  simp only [putsA, Act.put, List.setIfInBounds_toArray, List.set_cons_zero, List.set_cons_succ]
  have b18q16 := hid hq
  have hb16 := hid (new_trans hb15.out hb)
  have hP16 := hid (hP15.out.below hb)
  have b6q16 := hid (b6q15.out.below hb b6q15.out.lt)
  have b9q16 := hid (b9q15.out.below hb b9q15.out.lt)
  have b11q16 := hid (b11q15.out.below hb b11q15.out.lt)
  have b13q16 := hid (b13q15.out.below hb b13q15.out.lt)
  have b15q16 := hid (b15q15.out.below hb b15q15.out.lt)
  have b16q16 := hid (b16q15.out.below hb b16q15.out.lt)
  clear hb hq hb15 hP15 b6q15 b9q15 b11q15 b13q15 b15q15 b16q15
  have gr := hid (sg_range b16q16.out)
  go_wp2_with (guard_target = wpList _ _ _ (Oper.mk _ (Op.load _ _) _ _ _ _ :: _) _ _; refine wpList_load_mid rfl 27 _ rfl b16 0 rfl (sgA D).toList _ gr.out Tryd.underlying27 rfl (sg_size D) ?_)
  refine (s8.out _ hP16.out).mono ?_
  rintro e w17 ⟨rfl, hb⟩
  have hb17 := hid (new_trans hb16.out hb)
  have hP17 := hid (hP16.out.below hb)
  have b6q17 := hid (b6q16.out.below hb b6q16.out.lt)
  have b9q17 := hid (b9q16.out.below hb b9q16.out.lt)
  have b11q17 := hid (b11q16.out.below hb b11q16.out.lt)
  have b13q17 := hid (b13q16.out.below hb b13q16.out.lt)
  have b15q17 := hid (b15q16.out.below hb b15q16.out.lt)
  have b16q17 := hid (b16q16.out.below hb b16q16.out.lt)
  have b18q17 := hid (b18q16.out.below hb b18q16.out.lt)
  clear hb hb16 hP16 b6q16 b9q16 b11q16 b13q16 b15q16 b16q16 b18q16 gr
  have gr := hid (sg_range b16q17.out)
  go_wp2_with (guard_target = wpList _ _ _ (Oper.mk _ (Op.load _ _) _ _ _ _ :: _) _ _; refine wpList_load_mid rfl 27 _ rfl b16 0 rfl (sgA D).toList _ gr.out Tryd.underlying27 rfl (sg_size D) ?_)
  refine (s9.out _).mono ?_
  rintro e w18 ⟨rfl, hb⟩
  have hb18 := hid (new_trans hb17.out hb)
  have hP18 := hid (hP17.out.below hb)
  have b6q18 := hid (b6q17.out.below hb b6q17.out.lt)
  have b9q18 := hid (b9q17.out.below hb b9q17.out.lt)
  have b11q18 := hid (b11q17.out.below hb b11q17.out.lt)
  have b13q18 := hid (b13q17.out.below hb b13q17.out.lt)
  have b15q18 := hid (b15q17.out.below hb b15q17.out.lt)
  have b16q18 := hid (b16q17.out.below hb b16q17.out.lt)
  have b18q18 := hid (b18q17.out.below hb b18q17.out.lt)
  clear hb hb17 hP17 b6q17 b9q17 b11q17 b13q17 b15q17 b16q17 b18q17 gr
  have x9 : Hid (w18.cell? ⟨b9, 11, none⟩ = some (.bool false)) := by have := b9q18.out.cell 11; rw [show (sgA X)[11]? = some (.bool X.o0) from rfl, fX.out] at this; exact this
  have x11 : Hid (w18.cell? ⟨b11, 11, none⟩ = some (.bool true)) := by have := b11q18.out.cell 11; rw [show (sgA Y)[11]? = some (.bool Y.o0) from rfl, gY.out] at this; exact this
  have x13 : Hid (w18.cell? ⟨b13, 11, none⟩ = some (.bool false)) := by have := b13q18.out.cell 11; rw [show (sgA Z)[11]? = some (.bool Z.o0) from rfl, gZ.out.1] at this; exact this
  have z13 : Hid (w18.cell? ⟨b13, 9, none⟩ = some (.int .i64 0)) := by have := b13q18.out.cell 9; rw [show (sgA Z)[9]? = some (.int .i64 Z.c0) from rfl, gZ.out.2] at this; exact this
  go_upto_region 14 with fail
  refine tone_cmp x9.out x11.out x13.out z13.out b16q18.out b18q18.out hl.out ?_
  intro y91 y92 y93 y94 y95 y96 y97 y98 y99 y100 y101 y102 y103 y104 y105 y106 y107 y108 y109 y110 y111 y112 y113 y114 y115 y116 y117 y118 y119 y120 y121 y122 y123 y124 y125 y126 y127 y128 y129 y130 y131 y132 y133 y134 y135 y136 y137 y138 y139 y140 y141 y142 y143 y144 y145 y146 y147 y148 y149 y150 y151 y152 y153 y154 y155 y156 y157 WF hWF
  obtain rfl := hWF.symm
  clear b6q18 b9q18 b11q18 b13q18 b15q18 b16q18 b18q18 x9 x11 x13 z13 s1 s2 s3 s5 s6 s7 s8 s9 hP18 hat hne hsel
  go_wp2_with fail
  go_ret
  exact ⟨rfl, hb18.out⟩

theorem door_met (os : Os) (args : Array Value) : laidMetH Tryd.prog Rows.fnToneRow.laid ((World.doorLaid Tryd.prog 400 os).forCall (fun _ _ => 0) ⟨#[], args, []⟩).memory :=
  laidMetH_of_parts3 (fuel := 8) (laidMet_of_run' 8 (by kernel_rfl) (by kernel_rfl)) (by kernel_rfl) (by kernel_rfl)

set_option maxRecDepth 100000 in
theorem lifted (os : Os) (started : os.Started) (H : Type) (enc : TypeId × Value → H) :
    ReturnsInHanded {} Tryd.checked os 4 .any (fun w args => (Rows.fnToneSpec.pre enc Tryd.prog Tryd.f4 [] false w args ∧ laidMetH Tryd.prog Rows.fnToneRow.laid w) ∧ sizedMet enc Tryd.prog Tryd.f4 (OpenSpec.ofChange Rows.fnToneSpec) false w args)
      (Rows.fnToneSpec.post enc Tryd.prog Tryd.f4 false true false false) := by
  refine returnsInHanded_of_change_and (C := Tryd.checked) (X := fun w _ => laidMetH Tryd.prog Rows.fnToneRow.laid w) (fun _ _ _ hh h => h.of_heap hh) own started (by kernel_rfl) Tryd.func4
    (ChangeSpec.witness_shaped (enc := enc) (C := Tryd.checked) (os := os) (X := fun w _ => laidMetH Tryd.prog Rows.fnToneRow.laid w) false (World.doorLaid Tryd.prog 400 os) #[.slice none 0 0, .slice none 0 0] 8 rfl (World.shaped_of_RefB (by kernel_rfl) (by kernel_rfl)) (by kernel_rfl) (by kernel_rfl) (by kernel_rfl) (door_met os _)) ?_
  intro W base args ds gs before hval0 hW _ _ hL _
  have hval : ∀ (j : Nat) t v, Tryd.f4.params[j]? = some t → args[j]? = some v → Value.okWide Tryd.prog W .any base t v := hval0
  have hW' := hW
  obtain ⟨p, q, hA0, hV, hbefore, hfz, hnd⟩ := hW
  have hA : DataW.TrodAll enc Tryd.prog W 0 (fun _ => true) true Tryd.f4.params.toList args.toList ds p := hA0
  rw [Tryd.params4] at hA hval
  obtain ⟨v0, vs0, d0, ds0, p0, q0, hargs, rfl, rfl, h0, r0⟩ := trodAll_cons hA
  obtain ⟨v1, vs1, d1, ds1, p1, q1, rfl, rfl, rfl, h1, r1⟩ := trodAll_cons r0
  obtain ⟨rfl, rfl, rfl⟩ := trodAll_nil r1
  obtain rfl : args = #[v0, v1] := by cases args; simp_all
  obtain ⟨g0, rfl⟩ := vars1_form hV
  obtain ⟨a0, len0, cap0, rfl⟩ := okWide_slice Tryd.underlying22 (hval 0 22 v0 rfl rfl)
  have k0 := h0
  have lt0 : ∀ x ∈ p0, x.block < W.heap.size := by obtain ⟨m, hm⟩ := k0; exact DataW.trod_lt m _ _ _ hm
  obtain ⟨z0, w0⟩ : ∃ zs, IsRow .u8 W a0 len0 cap0 zs := by
    obtain ⟨fuel, hf⟩ := h0
    rcases open_ints Tryd.underlying22 Tryd.underlying5 (by kernel_rfl) hf with ⟨hcs, _⟩ | ⟨x, l, c, zs, hcs, _, hl, hm, hz, _, hcell, hwz⟩
    · simp [Value.cells] at hcs
      obtain ⟨rfl, rfl, rfl⟩ := hcs
      exact ⟨[], .inl ⟨rfl, rfl, rfl, rfl⟩⟩
    · simp [Value.cells] at hcs
      obtain ⟨rfl, rfl, rfl⟩ := hcs
      exact ⟨zs, .inr ⟨_, rfl, hl, hm, by simpa using hz, hcell, hwz⟩⟩
  obtain ⟨a1, len1, cap1, rfl⟩ := okWide_slice Tryd.underlying22 (hval 1 22 v1 rfl rfl)
  have k1 := h1
  have lt1 : ∀ x ∈ p1, x.block < W.heap.size := by obtain ⟨m, hm⟩ := k1; exact DataW.trod_lt m _ _ _ hm
  obtain ⟨z1, w1⟩ : ∃ zs, IsRow .u8 W a1 len1 cap1 zs := by
    obtain ⟨fuel, hf⟩ := h1
    rcases open_ints Tryd.underlying22 Tryd.underlying5 (by kernel_rfl) hf with ⟨hcs, _⟩ | ⟨x, l, c, zs, hcs, _, hl, hm, hz, _, hcell, hwz⟩
    · simp [Value.cells] at hcs
      obtain ⟨rfl, rfl, rfl⟩ := hcs
      exact ⟨[], .inl ⟨rfl, rfl, rfl, rfl⟩⟩
    · simp [Value.cells] at hcs
      obtain ⟨rfl, rfl, rfl⟩ := hcs
      exact ⟨zs, .inr ⟨_, rfl, hl, hm, by simpa using hz, hcell, hwz⟩⟩
  clear hA0 hval0
  refine (walk a0 len0 cap0 z0 a1 len1 cap1 z1 W w0 w1 (pbit_of hL)).mono fun e W' ⟨he, bel⟩ => ?_
  subst he
  exact ⟨_, rfl, _, _, _, [], _, _, hW', trodAll_mk1 (shut_bool Tryd.underlying4 _), (trodAll_cons_mk (Below.trod laidOut (by kernel_rfl) (of_decide_eq_true (by kernel_rfl)) k0 bel lt0) (trodAll_cons_mk (Below.trod laidOut (by kernel_rfl) (of_decide_eq_true (by kernel_rfl)) k1 bel lt1) trodAll_mk0)), Below.trodVars laidOut bel (by kernel_rfl) hV, bel.frame _, fun h => by cases h⟩

theorem said : Rows.FnToneSaid :=
  OpenClaim.holds_of_wide 4 Tryd.f4 rfl rfl rfl rfl rfl rfl rfl ⟨rfl, rfl, rfl, rfl, rfl⟩ rfl rfl rfl rfl rfl (by kernel_rfl) Tryd.func4 (by kernel_rfl)
    (of_decide_eq_true (by kernel_rfl)) (by unfold Func.isWrapper; first | (rw [if_pos (by decide +kernel)]; kernel_rfl) | (rw [if_neg (by decide +kernel)]; exact ⟨rfl, rfl⟩))
    (fun os started H enc _ => lifted os started H enc)

theorem card : Rows.FnToneCardSaid :=
  Claim7.holds_tied_plain_at .later [] _ _ _ _ said (fun _ h => by cases h) (by kernel_rfl) (fun _ h => by cases h) fnTone_row_tie rfl ⟨rfl, rfl⟩ (by kernel_rfl) rfl
    (fun f fn hf hfn => by
      obtain rfl : f = 4 := Option.some.inj ((show Tryd.prog.funcNamed "loop.example/g00644/laws.FnTone" = some 4 by kernel_rfl).symm.trans hf) |>.symm
      obtain rfl : fn = Tryd.f4 := (Option.some.inj (Tryd.func4.symm.trans hfn)).symm
      exact ⟨by kernel_rfl, fun j t ht => by
        rw [Tryd.params4] at ht
        have hm : t ∈ [22, 22] := by simpa using Array.mem_of_getElem? ht
        have hall : ([22, 22].all fun u => !Tryd.prog.wantsStandIn u) = true := by kernel_rfl
        exact (show Tryd.prog.wantsStandIn t = false by simpa using List.all_eq_true.1 hall t hm)⟩)
    (by kernel_rfl)
end Go.Proofs.YtjdgfbaioafjcaaDoor.fnTone
namespace Go.Proofs.YtjdgfbaioafjcaaDoor
theorem fnTone_holds : Rows.FnToneCardSaid := fnTone.card
#print axioms fnTone_holds
end Go.Proofs.YtjdgfbaioafjcaaDoor
