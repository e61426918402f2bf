/- For all bytes the law FnSnap returns true: a snapshot is read back, cut off or with more behind it, or of another version, it is none. -/
import Derived.Test.YtghcagibdcblnaaGreatDoorCards
import Derived.Test.YtghcagibdcblnaaGreatDoorTie
import Derived.Test.YtghcagibdcblnaaGreatDoorF49
import Derived.WalkKit
import Derived.ProofKit
import Derived.OpenShut
import Derived.ShutString
import Derived.ChangeOld
import Derived.Below
import Derived.LaidMore
import Derived.OpenVars
import Derived.SevenTiedAt
import Derived.Stop.Joined
import Derived.Lib.SmallJoins
namespace Go.Proofs.YtghcagibdcblnaaGreatDoor.fnSnap
open Go.ChangeShapes Go.WideShapes Go.ChangeAt Go.RowKit Go.Joins
open Go.ChangeMaps (open_string shut_string)
set_option linter.unusedVariables false

theorem own : ownKnob Tryz.prog.godebug = none := by kernel_rfl
theorem laidOut : laidOutB Tryz.prog = true := by kernel_rfl

def IsRow (k : IntKind) (w : World) (a : Option Addr) (len cap : Nat) (zs : List Int) : Prop :=
  (a = none ∧ len = 0 ∧ cap = 0 ∧ zs = []) ∨
  ∃ x, a = some x ∧ len ≤ cap ∧ cap ≤ maxLen ∧ zs.length = cap ∧ (∀ i, i < zs.length → w.cell? (x.add i) = some (.int k (zs.getD i 0))) ∧ ∀ n ∈ zs, (Lit.int k n).wf = true

set_option maxRecDepth 100000 in
set_option maxHeartbeats 8000000 in
theorem walk (a0 : Option Addr) (len0 cap0 : Nat) (z0 : List Int) (a1 : Option Addr) (len1 cap1 : Nat) (z1 : List Int) (w : World) (w0 : IsRow .u8 w a0 len0 cap0 z0) (w1 : IsRow .u8 w a1 len1 cap1 z1) (hL : ∃ e0 e1 e2, Errs w e0 e1 e2) :
    Calls Tryz.prog 3 #[.slice a0 len0 cap0, .slice a1 len1 cap1] w fun e w' => e = .returned (.bool true) ∧ Below w.heap.size w w' := by
  obtain ⟨e0, e1, e2, hE⟩ := hL
  replace hE := hid hE
  have hc0 := codeAt_of w0
  have hc1 := codeAt_of w1
  have hnn : ∀ (zs : List Int) (a : Option Addr) (len cap : Nat), IsRow .u8 w a len cap zs → len ≤ maxLen := by
    intro zs a len cap h
    rcases h with ⟨_, rfl, _, _⟩ | ⟨x, _, hl, hm, _⟩
    · exact Nat.zero_le _
    · omega
  have hl0 := hnn _ _ _ _ w0
  have hl1 := hnn _ _ _ _ w1
  clear hnn w0 w1
  unfold maxLen at hl0 hl1
  by_cases h1 : 1048576 < len0
  · go_enter Tryz.func3, Tryz.ntmps3
    go_wp2
    go_ret
    exact ⟨rfl, Below.refl _ _⟩
  by_cases h2 : 1048576 < len1
  · go_enter Tryz.func3, Tryz.ntmps3
    go_wp2
    go_ret
    exact ⟨rfl, Below.refl _ _⟩
  have hDD := hid (snapdrawn_any a0 len0 cap0 w hc0 (by omega))
  have hCd : Hid (∀ W, Below w.heap.size w W → CodeAt W W.heap.size a1 len1) := fun W hb => hc1.below hb hb.size
  have hRo := hid (fun W (hb : Below w.heap.size w W) => romdrawn_any a1 len1 cap1 W (hCd.out W hb) (by omega))
  have hAt : Hid (∀ W, Below w.heap.size w W → ∀ i n : Int, 0 ≤ i → i ≤ 1000000 → n ≤ 1000000000 → Calls Tryz.prog 11 #[.slice a1 len1 cap1, .int .i64 i, .int .i64 n] W fun e w' => (∃ v : Int, e = .returned (.int .i64 v) ∧ 0 ≤ v ∧ (n ≤ 1 → v = 0) ∧ (2 ≤ n → v < n)) ∧ Below W.heap.size W w') := fun W hb i n q1 q2 q3 => at_any a1 len1 cap1 i n W.heap.size W (hCd.out W hb) (by omega) q1 q2 q3
  clear hc0 hc1 hl0 hl1 hCd
  go_enter Tryz.func3, Tryz.ntmps3
  go_wp2_with fail
  refine hDD.out.mono ?_
  rintro e wa ⟨s, vr, vm, rfl, hok, ⟨lo, hi, hlo, hhi, hO⟩, hb⟩
  have hone := hid (sn_one s (memO_form2 hO).1 (memO_form2 hO).2)
  obtain ⟨wb, hwb, hb2, q5, hth⟩ := box_sn wa s vr vm
  have B1 := hid (new_trans hb hb2)
  have mS := hid (hO.reads.below hb2)
  have b5l : Hid (wa.heap.size < wb.heap.size) := q5.lt
  replace hwb := hid hwb
  replace hth := hid hth
  replace q5 := hid q5
  clear hb hb2 hO hDD hlo hhi
  go_wp2_with (guard_target = wpList _ _ _ (Oper.mk _ (Op.store _ _ _) _ _ _ _ :: _) _ _; refine wpList_store_mid rfl 33 _ _ rfl wa.heap.size 0 (snA s vr vm) rfl rfl hth.out (szS2 _ _ _) hone.out ?_; rw [hwb.out])
  obtain ⟨b5, hb5⟩ : ∃ b5, wa.heap.size = b5 := ⟨_, rfl⟩
  rw [hb5] at q5 b5l ⊢
  clear hwb hth hone hb5
  refine (hRo.out _ B1.out).mono ?_
  rintro e wc ⟨⟨rom, rfl, hrom⟩, hb⟩
  have B2 := hid (new_trans B1.out hb)
  have q52 := hid (q5.out.below hb q5.out.lt)
  have mS2 := hid (mS.out.below hb)
  obtain ⟨T, X, hTe, f1, f2, f3, f4, f5, f6, f7, z1, z2, z3, g1, g2, g3⟩ := sn_law hok hrom
  have hsm := hid (sn_smallS hok)
  have hsX := hid (sn_smallS f4)
  have hI1 := hid (fun W (hm : MemR W (memV vr vm s.m.page s.m.screen s.m.locked) s.m) => sntext_impl (.agg (snA s vr vm)) s W ⟨vr, vm, rfl, hm⟩ hsm.out)
  have hS1 := hid (fun W (hm : MemR W (memV vr vm s.m.page s.m.screen s.m.locked) s.m) => sntext_spec (.agg (snA s vr vm)) s W ⟨vr, vm, rfl, hm⟩ hsm.out.1 hsm.out.2.1 hsm.out.2.2)
  rw [f1] at hI1 hS1
  have hR := hid (fun t W (ht : t.size ≤ 65536) (hb : Below w.heap.size w W) => readsn_impl t rom e0 e1 e2 W (by unfold maxLen; omega) (by unfold maxLen; omega) (hE.out.below hb))
  replace f4 := hid f4
  replace f5 := hid f5
  replace f6 := hid f6
  replace f7 := hid f7
  replace z3 := hid z3
  replace hok := hid hok
  clear hb q5 mS B1 hRo f1 hTe
  have x5 := hid (sn_all q52.out)
  go_wp2_with (refine wpList_load_mid rfl 33 _ rfl b5 0 rfl (snA s vr vm).toList _ x5.out Tryz.underlying33 rfl (szS s vr vm) ?_)
  refine (hI1.out _ mS2.out).mono ?_
  rintro e wd ⟨rfl, hb⟩
  have B3 := hid (new_trans B2.out hb)
  have q53 := hid (q52.out.below hb q52.out.lt)
  have mS3 := hid (mS2.out.below hb)
  clear hb q52 mS2 B2 x5 hI1
  have x5 := hid (sn_all q53.out)
  go_wp2_with (refine wpList_load_mid rfl 33 _ rfl b5 0 rfl (snA s vr vm).toList _ x5.out Tryz.underlying33 rfl (szS s vr vm) ?_)
  refine (hS1.out _ mS3.out).mono ?_
  rintro e we ⟨rfl, hb⟩
  have B4 := hid (new_trans B3.out hb)
  have q54 := hid (q53.out.below hb q53.out.lt)
  have mS4 := hid (mS3.out.below hb)
  clear hb q53 mS3 B3 x5 hS1
  go_wp2_with fail
  have hR1 := hR.out T we (by omega) B4.out
  rw [f2] at hR1
  refine hR1.mono ?_
  rintro e wf ⟨ur, um, rfl, hO, hb⟩
  dsimp only at hO ⊢
  have hone := hid (sn_one X (memO_form2 hO).1 (memO_form2 hO).2)
  obtain ⟨wg, hwg, hb2, qx, hth⟩ := box_sn wf X ur um
  have B5 := hid (new_trans B4.out (new_trans hb hb2))
  have q55 := hid (q54.out.below (new_trans hb hb2) q54.out.lt)
  have mS5 := hid (mS4.out.below (new_trans hb hb2))
  have mX5 := hid (hO.reads.below hb2)
  have bxl : Hid (b5 ≠ wf.heap.size) := by have := q54.out.lt; have := hb.size; unfold Hid; omega
  replace hwg := hid hwg
  replace hth := hid hth
  replace qx := hid qx
  clear hb hb2 hO hR1 f2 q54 mS4 B4
  go_upto_region 8 with (guard_target = wpList _ _ _ (Oper.mk _ (Op.store _ _ _) _ _ _ _ :: _) _ _; refine wpList_store_mid rfl 33 _ _ rfl wf.heap.size 0 (snA X ur um) rfl rfl hth.out (szS2 _ _ _) hone.out ?_; rw [hwg.out])
  obtain ⟨b11, hb11⟩ : ∃ b11, wf.heap.size = b11 := ⟨_, rfl⟩
  rw [hb11] at qx bxl ⊢
  clear hwg hth hone hb11
  have hI2 := hid (sntext_impl (.agg (snA X ur um)) X wg ⟨ur, um, rfl, mX5.out⟩ hsX.out)
  rw [f3] at hI2
  have x11 := hid (sn_all qx.out)
  go_wp2_with (refine wpList_load_mid rfl 33 _ rfl b11 0 rfl (snA X ur um).toList _ x11.out Tryz.underlying33 rfl (szS X ur um) ?_)
  refine hI2.out.mono ?_
  rintro e wh ⟨rfl, hb⟩
  have B6 := hid (new_trans B5.out hb)
  have q56 := hid (q55.out.below hb q55.out.lt)
  have qx6 := hid (qx.out.below hb qx.out.lt)
  have mS6 := hid (mS5.out.below hb)
  have mX6 := hid (mX5.out.below hb)
  clear hb q55 qx mS5 mX5 B5 x11 hI2 f3
  have hTT : (T.toList == T.toList) = true := by simp
  have x11 := hid (sn_all qx6.out)
  have x5 := hid (sn_all q56.out)
  have hOK := hid (snok_impl (.agg (snA X ur um)) X wh ⟨ur, um, rfl, mX6.out⟩ hsX.out)
  rw [f4.out] at hOK

  go_wp2_with (first | (guard_target = wpList _ _ _ (Oper.mk _ (Op.load 33 _) _ _ _ (some _) :: _) _ _; refine ld_want 33 _ rfl b11 0 rfl (by kernel_rfl) (snA X ur um).toList _ x11.out Tryz.underlying33 rfl (szS X ur um) ?_; simp only [Act.put, List.setIfInBounds_toArray, List.set_cons_zero, List.set_cons_succ]) | (guard_target = wpList _ _ _ (Oper.mk _ _ _ _ _ (some _) :: _) _ _; refine wpList_step (fun _ _ => ?_); rw [if_pos (by kernel_rfl)]; go_simp))
  refine hOK.out.mono ?_
  rintro e wi ⟨rfl, hb⟩
  have B7 := hid (new_trans B6.out hb)
  have q57 := hid (q56.out.below hb q56.out.lt)
  have qx7 := hid (qx6.out.below hb qx6.out.lt)
  have mS7 := hid (mS6.out.below hb)
  have mX7 := hid (mX6.out.below hb)
  clear hb q56 qx6 mS6 mX6 B6 x11 x5 hOK hTT
  have x11 := hid (sn_all qx7.out)
  have x5 := hid (sn_all q57.out)
  have hSm := hid (samesn_impl (.agg (snA X ur um)) (.agg (snA s vr vm)) X s wi ⟨ur, um, rfl, mX7.out⟩ ⟨vr, vm, rfl, mS7.out⟩ hsX.out hsm.out)
  rw [f5.out] at hSm
  go_wp2_with (first | (guard_target = wpList _ _ _ (Oper.mk _ (Op.load 33 _) _ _ _ (some _) :: _) _ _; refine ld_want 33 _ rfl b11 0 rfl (by kernel_rfl) (snA X ur um).toList _ x11.out Tryz.underlying33 rfl (szS X ur um) ?_; simp only [Act.put, List.setIfInBounds_toArray, List.set_cons_zero, List.set_cons_succ]) | (guard_target = wpList _ _ _ (Oper.mk _ (Op.load 33 _) _ _ _ (some _) :: _) _ _; refine ld_want 33 _ rfl b5 0 rfl (by kernel_rfl) (snA s vr vm).toList _ x5.out Tryz.underlying33 rfl (szS s vr vm) ?_; simp only [Act.put, List.setIfInBounds_toArray, List.set_cons_zero, List.set_cons_succ]) | (guard_target = wpList _ _ _ (Oper.mk _ _ _ _ _ (some _) :: _) _ _; refine wpList_step (fun _ _ => ?_); rw [if_pos (by kernel_rfl)]; go_simp))
  refine hSm.out.mono ?_
  rintro e wj ⟨rfl, hb⟩
  have B8 := hid (new_trans B7.out hb)
  have q58 := hid (q57.out.below hb q57.out.lt)
  have qx8 := hid (qx7.out.below hb qx7.out.lt)
  clear hb q57 qx7 mS7 mX7 B7 x11 x5 hSm hsm hsX f4 f5 hok
  obtain ⟨tz, htz⟩ : ∃ tz : Nat, T.size = tz := ⟨_, rfl⟩
  have hAt2 := hid (hAt.out wj B8.out 0 (T.size : Int) (by omega) (by omega) (by omega))
  clear hAt htz
  go_wp2_with fail
  refine hAt2.out.mono ?_
  rintro e wk ⟨⟨kk, rfl, k0, k1, k2⟩, hb⟩
  obtain ⟨k, rfl⟩ : ∃ k : Nat, kk = (k : Int) := ⟨kk.toNat, by omega⟩
  have hkT : k < T.size := by have := k2 (by omega); omega
  have B9 := hid (new_trans B8.out hb)
  have q59 := hid (q58.out.below hb q58.out.lt)
  have qx9 := hid (qx8.out.below hb qx8.out.lt)
  clear hb q58 qx8 B8 k0 k1 k2 hAt2
  have g1k := g1 k hkT
  have hks : (T.extract 0 k).size = k := by rw [ByteArray.size_extract]; omega
  have hR2 := hid (hR.out (T.extract 0 k) wk (by omega) B9.out)
  generalize read2 (T.extract 0 k) rom = R2 at *
  obtain ⟨S2, C2⟩ := R2
  dsimp only at g1k
  subst g1k
  have hk1 : (k : Int) ≤ (T.size : Int) := by omega
  replace hks := hid hks
  clear g1
  go_wp2_with fail
  refine hR2.out.mono ?_
  rintro e wl ⟨u2, m2, rfl, hO, hb⟩
  dsimp only at hO ⊢
  have hone := hid (sn_one S2 (memO_form2 hO).1 (memO_form2 hO).2)
  obtain ⟨wm, hwm, hb2, qq, hth⟩ := box_sn wl S2 u2 m2
  have B10 := hid (new_trans B9.out (new_trans hb hb2))
  have q510 := hid (q59.out.below (new_trans hb hb2) q59.out.lt)
  have qx10 := hid (qx9.out.below (new_trans hb hb2) qx9.out.lt)
  replace hwm := hid hwm
  replace hth := hid hth
  clear hb hb2 hO hR2 q59 qx9 B9 qq
  go_upto_region 13 with (guard_target = wpList _ _ _ (Oper.mk _ (Op.store _ _ _) _ _ _ _ :: _) _ _; refine wpList_store_mid rfl 33 _ _ rfl wl.heap.size 0 (snA S2 u2 m2) rfl rfl hth.out (szS2 _ _ _) hone.out ?_; rw [hwm.out])
  obtain ⟨b16, hb16⟩ : ∃ b16, wl.heap.size = b16 := ⟨_, rfl⟩
  rw [hb16]
  clear hwm hth hone hb16
  have hxs : (⟨#[120]⟩ : ByteArray).size = 1 := rfl
  rw [← x_str] at g2
  have hcs : (T ++ ⟨#[120]⟩ : ByteArray).size = T.size + 1 := by rw [ByteArray.size_append]; rfl
  have hR3 := hid (hR.out (T ++ ⟨#[120]⟩) wm (by omega) B10.out)
  generalize read2 (T ++ ⟨#[120]⟩) rom = R3 at *
  obtain ⟨S3, C3⟩ := R3
  dsimp only at g2
  subst g2
  replace hcs := hid hcs
  go_wp2_with fail
  refine hR3.out.mono ?_
  rintro e wn ⟨u3, m3, rfl, hO, hb⟩
  dsimp only at hO ⊢
  have hone := hid (sn_one S3 (memO_form2 hO).1 (memO_form2 hO).2)
  obtain ⟨wo, hwo, hb2, qq, hth⟩ := box_sn wn S3 u3 m3
  have B11 := hid (new_trans B10.out (new_trans hb hb2))
  have q511 := hid (q510.out.below (new_trans hb hb2) q510.out.lt)
  have qx11 := hid (qx10.out.below (new_trans hb hb2) qx10.out.lt)
  replace hwo := hid hwo
  replace hth := hid hth
  clear hb hb2 hO hR3 q510 qx10 B10 qq
  go_upto_region 14 with (guard_target = wpList _ _ _ (Oper.mk _ (Op.store _ _ _) _ _ _ _ :: _) _ _; refine wpList_store_mid rfl 33 _ _ rfl wn.heap.size 0 (snA S3 u3 m3) rfl rfl hth.out (szS2 _ _ _) hone.out ?_; rw [hwo.out])
  obtain ⟨b18, hb18⟩ : ∃ b18, wn.heap.size = b18 := ⟨_, rfl⟩
  rw [hb18]
  clear hwo hth hone hb18
  obtain ⟨bs, b0⟩ := bent_law z1
  have hix := run_idx T 0 0 rfl (by omega)
  rw [z3.out] at hix
  have hcv := conv_bent wo
  have hw4 : IntKind.u8.wrap 4 = 4 := rfl
  have hse : (T.extract 1 T.size).size = T.size - 1 := by rw [ByteArray.size_extract]; omega
  have hs4 : (strOfNums [4]).size = 1 := rfl
  have hov : ¬ 9223372036854775807 < (strOfNums [4]).size + (T.extract 1 T.size).size := by omega
  have h1T : (1 : Int) ≤ (T.size : Int) := by omega
  have g4 := g3 (strOfNums [4] ++ T.extract 1 T.size) (by omega) (by omega) (by rw [b0]; decide)
  have hR4 := hid (fun W hb => hR.out (strOfNums [4] ++ T.extract 1 T.size) W (by omega) hb)
  generalize read2 (strOfNums [4] ++ T.extract 1 T.size) rom = R4 at *
  obtain ⟨S4, C4⟩ := R4
  dsimp only at g4
  subst g4
  have Ba := hid ((B11.out.alloc B11.out.size (.cells #[.int .u8 4] 5)).drew)
  have q512 := hid (q511.out.below ((Below.refl wo.heap.size wo).alloc (Nat.le_refl _) (.cells #[.int .u8 4] 5)).drew q511.out.lt)
  have qx12 := hid (qx11.out.below ((Below.refl wo.heap.size wo).alloc (Nat.le_refl _) (.cells #[.int .u8 4] 5)).drew qx11.out.lt)
  replace bs := hid bs
  replace b0 := hid b0
  replace hse := hid hse
  clear hR g3 B11 q511 qx11 hs4
  go_region
  obtain ⟨wp, hwp⟩ : ∃ wp, (wo.alloc (.cells #[.int .u8 4] 5)).drew = wp := ⟨_, rfl⟩
  rw [hwp] at Ba q512 qx12 ⊢
  clear hwp hcv hw4 hix hov h1T
  generalize strOfNums [4] ++ T.extract 1 T.size = BT at *
  go_wp2_with fail
  refine (hR4.out wp Ba.out).mono ?_
  rintro e wq ⟨u4, m4, rfl, hO, hb⟩
  dsimp only at hO ⊢
  have hone := hid (sn_one S4 (memO_form2 hO).1 (memO_form2 hO).2)
  obtain ⟨wr, hwr, hb2, qq, hth⟩ := box_sn wq S4 u4 m4
  have Bb := hid (new_trans Ba.out (new_trans hb hb2))
  have q513 := hid (q512.out.below (new_trans hb hb2) q512.out.lt)
  have qx13 := hid (qx12.out.below (new_trans hb hb2) qx12.out.lt)
  replace hwr := hid hwr
  replace hth := hid hth
  clear hb hb2 hO hR4 q512 qx12 Ba qq
  go_upto_region 16 with (guard_target = wpList _ _ _ (Oper.mk _ (Op.store _ _ _) _ _ _ _ :: _) _ _; refine wpList_store_mid rfl 33 _ _ rfl wq.heap.size 0 (snA S4 u4 m4) rfl rfl hth.out (szS2 _ _ _) hone.out ?_; rw [hwr.out])
  clear hwr hth hone
  have x11 := hid (sn_cpu qx13.out)
  have x5 := hid (sn_cpu q513.out)
  rw [f6.out] at x11
  have y11 : wr.cell? ⟨b11, 28, none⟩ = some (.int .i64 s.p.border) := by rw [← f7.out]; exact qx13.out.cell 28
  have y5 : wr.cell? ⟨b5, 28, none⟩ = some (.int .i64 s.p.border) := q513.out.cell 28
  have q8a := eq8a
  have q8b := eq8b
  go_wp2_with (first | (guard_target = wpList _ _ _ (Oper.mk _ (Op.load 25 _) _ _ _ (some _) :: _) _ _; refine ld_want 25 _ rfl b11 0 rfl (by kernel_rfl) (cuA s.c).toList _ x11.out Tryz.underlying25 rfl (szC s.c) ?_; simp only [Act.put, List.setIfInBounds_toArray, List.set_cons_zero, List.set_cons_succ]) | (guard_target = wpList _ _ _ (Oper.mk _ (Op.load 25 _) _ _ _ (some _) :: _) _ _; refine ld_want 25 _ rfl b5 0 rfl (by kernel_rfl) (cuA s.c).toList _ x5.out Tryz.underlying25 rfl (szC s.c) ?_; simp only [Act.put, List.setIfInBounds_toArray, List.set_cons_zero, List.set_cons_succ]) | (guard_target = wpList _ _ _ (Oper.mk _ _ _ _ _ (some _) :: _) _ _; refine wpList_step (fun _ _ => ?_); rw [if_pos (by kernel_rfl)]; go_simp))
  go_ret
  exact ⟨rfl, Bb.out⟩

theorem door_met (os : Os) (args : Array Value) : laidMetH Tryz.prog Rows.fnSnapRow.laid ((World.doorLaid Tryz.prog 400 os).forCall (fun _ _ => 0) ⟨#[], args, []⟩).memory :=
  laidMetH_of_parts3 (fuel := 8) (laidMet_of_run' 8 (by kernel_rfl) (by kernel_rfl)) (by kernel_rfl) (by kernel_rfl)

set_option maxRecDepth 100000 in
theorem lifted (os : Os) (started : os.Started) (H : Type) (enc : TypeId × Value → H) :
    ReturnsInHanded {} Tryz.checked os 3 .any (fun w args => (Rows.fnSnapSpec.pre enc Tryz.prog Tryz.f3 [] false w args ∧ laidMetH Tryz.prog Rows.fnSnapRow.laid w) ∧ sizedMet enc Tryz.prog Tryz.f3 (OpenSpec.ofChange Rows.fnSnapSpec) false w args)
      (Rows.fnSnapSpec.post enc Tryz.prog Tryz.f3 false true false false) := by
  refine returnsInHanded_of_change_and (C := Tryz.checked) (X := fun w _ => laidMetH Tryz.prog Rows.fnSnapRow.laid w) (fun _ _ _ hh h => h.of_heap hh) own started (by kernel_rfl) Tryz.func3
    (ChangeSpec.witness_shaped (enc := enc) (C := Tryz.checked) (os := os) (X := fun w _ => laidMetH Tryz.prog Rows.fnSnapRow.laid w) false (World.doorLaid Tryz.prog 400 os) #[.slice none 0 0, .slice none 0 0] 8 rfl (World.shaped_of_RefB (by kernel_rfl) (by kernel_rfl)) (by kernel_rfl) (by kernel_rfl) (by kernel_rfl) (door_met os _)) ?_
  intro W base args ds gs before hval0 hW _ _ hL _
  have hval : ∀ (j : Nat) t v, Tryz.f3.params[j]? = some t → args[j]? = some v → Value.okWide Tryz.prog W .any base t v := hval0
  have hW' := hW
  obtain ⟨p, q, hA0, hV, hbefore, hfz, hnd⟩ := hW
  have hA : DataW.TrodAll enc Tryz.prog W 0 (fun _ => true) true Tryz.f3.params.toList args.toList ds p := hA0
  rw [Tryz.params3] at hA hval
  obtain ⟨v0, vs0, d0, ds0, p0, q0, hargs, rfl, rfl, h0, r0⟩ := trodAll_cons hA
  obtain ⟨v1, vs1, d1, ds1, p1, q1, rfl, rfl, rfl, h1, r1⟩ := trodAll_cons r0
  obtain ⟨rfl, rfl, rfl⟩ := trodAll_nil r1
  obtain rfl : args = #[v0, v1] := by cases args; simp_all
  obtain ⟨g0, g1, g2, rfl⟩ := vars3_form hV
  obtain ⟨a0, len0, cap0, rfl⟩ := okWide_slice Tryz.underlying22 (hval 0 22 v0 rfl rfl)
  have k0 := h0
  have lt0 : ∀ x ∈ p0, x.block < W.heap.size := by obtain ⟨m, hm⟩ := k0; exact DataW.trod_lt m _ _ _ hm
  obtain ⟨z0, w0⟩ : ∃ zs, IsRow .u8 W a0 len0 cap0 zs := by
    obtain ⟨fuel, hf⟩ := h0
    rcases open_ints Tryz.underlying22 Tryz.underlying5 (by kernel_rfl) hf with ⟨hcs, _⟩ | ⟨x, l, c, zs, hcs, _, hl, hm, hz, _, hcell, hwz⟩
    · simp [Value.cells] at hcs
      obtain ⟨rfl, rfl, rfl⟩ := hcs
      exact ⟨[], .inl ⟨rfl, rfl, rfl, rfl⟩⟩
    · simp [Value.cells] at hcs
      obtain ⟨rfl, rfl, rfl⟩ := hcs
      exact ⟨zs, .inr ⟨_, rfl, hl, hm, by simpa using hz, hcell, hwz⟩⟩
  obtain ⟨a1, len1, cap1, rfl⟩ := okWide_slice Tryz.underlying22 (hval 1 22 v1 rfl rfl)
  have k1 := h1
  have lt1 : ∀ x ∈ p1, x.block < W.heap.size := by obtain ⟨m, hm⟩ := k1; exact DataW.trod_lt m _ _ _ hm
  obtain ⟨z1, w1⟩ : ∃ zs, IsRow .u8 W a1 len1 cap1 zs := by
    obtain ⟨fuel, hf⟩ := h1
    rcases open_ints Tryz.underlying22 Tryz.underlying5 (by kernel_rfl) hf with ⟨hcs, _⟩ | ⟨x, l, c, zs, hcs, _, hl, hm, hz, _, hcell, hwz⟩
    · simp [Value.cells] at hcs
      obtain ⟨rfl, rfl, rfl⟩ := hcs
      exact ⟨[], .inl ⟨rfl, rfl, rfl, rfl⟩⟩
    · simp [Value.cells] at hcs
      obtain ⟨rfl, rfl, rfl⟩ := hcs
      exact ⟨zs, .inr ⟨_, rfl, hl, hm, by simpa using hz, hcell, hwz⟩⟩
  clear hA0 hval0
  refine (walk a0 len0 cap0 z0 a1 len1 cap1 z1 W w0 w1 (errs_of hL)).mono fun e W' ⟨he, bel⟩ => ?_
  subst he
  exact ⟨_, rfl, _, _, _, [], _, _, hW', trodAll_mk1 (shut_bool Tryz.underlying4 _), (trodAll_cons_mk (Below.trod laidOut (by kernel_rfl) (of_decide_eq_true (by kernel_rfl)) k0 bel lt0) (trodAll_cons_mk (Below.trod laidOut (by kernel_rfl) (of_decide_eq_true (by kernel_rfl)) k1 bel lt1) trodAll_mk0)), Below.trodVars laidOut bel (by kernel_rfl) hV, bel.frame _, fun h => by cases h⟩

theorem said : Rows.FnSnapSaid :=
  OpenClaim.holds_of_wide 3 Tryz.f3 rfl rfl rfl rfl rfl rfl rfl ⟨rfl, rfl, rfl, rfl, rfl⟩ rfl rfl rfl rfl rfl (by kernel_rfl) Tryz.func3 (by kernel_rfl)
    (of_decide_eq_true (by kernel_rfl)) (by unfold Func.isWrapper; first | (rw [if_pos (by decide +kernel)]; kernel_rfl) | (rw [if_neg (by decide +kernel)]; exact ⟨rfl, rfl⟩))
    (fun os started H enc _ => lifted os started H enc)

theorem card : Rows.FnSnapCardSaid :=
  Claim7.holds_tied_plain_at .later [] _ _ _ _ said (fun _ h => by cases h) (by kernel_rfl) (fun _ h => by cases h) fnSnap_row_tie rfl ⟨rfl, rfl⟩ (by kernel_rfl) rfl
    (fun f fn hf hfn => by
      obtain rfl : f = 3 := Option.some.inj ((show Tryz.prog.funcNamed "loop.example/g00644/laws.FnSnap" = some 3 by kernel_rfl).symm.trans hf) |>.symm
      obtain rfl : fn = Tryz.f3 := (Option.some.inj (Tryz.func3.symm.trans hfn)).symm
      exact ⟨by kernel_rfl, fun j t ht => by
        rw [Tryz.params3] at ht
        have hm : t ∈ [22, 22] := by simpa using Array.mem_of_getElem? ht
        have hall : ([22, 22].all fun u => !Tryz.prog.wantsStandIn u) = true := by kernel_rfl
        exact (show Tryz.prog.wantsStandIn t = false by simpa using List.all_eq_true.1 hall t hm)⟩)
    (by kernel_rfl)
end Go.Proofs.YtghcagibdcblnaaGreatDoor.fnSnap
namespace Go.Proofs.YtghcagibdcblnaaGreatDoor
theorem fnSnap_holds : Rows.FnSnapCardSaid := fnSnap.card
#print axioms fnSnap_holds
end Go.Proofs.YtghcagibdcblnaaGreatDoor
