/- For all bytes the law FnNoise returns true: the noise never falls silent, and steps that are taken in two parts are the same; the program's table of registers' bits being as its text lays it. -/
import Derived.Test.YtjdgfbaioafjcaaDoorCards
import Derived.Test.YtjdgfbaioafjcaaDoorTie
import Derived.Test.YtjdgfbaioafjcaaDoorYa
import Derived.Test.YtjdgfbaioafjcaaDoorYb
import Derived.Test.YtjdgfbaioafjcaaDoorYc
import Derived.Test.YtjdgfbaioafjcaaDoorYd
import Derived.Test.YtjdgfbaioafjcaaDoorYp
import Derived.Test.YtjdgfbaioafjcaaDoorYs
import Derived.Test.YtjdgfbaioafjcaaDoorYy
import Derived.Test.YtjdgfbaioafjcaaDoorYw
import Derived.Test.YtjdgfbaioafjcaaDoorYz
import Derived.Test.YtjdgfbaioafjcaaDoorYcn
import Derived.Test.YtjdgfbaioafjcaaDoorAx
import Derived.WalkKit
import Derived.ProofKit
import Derived.OpenShut
import Derived.ShutString
import Derived.ChangeOld
import Derived.Below
import Derived.LaidMore
import Derived.OpenVars
import Derived.SevenTiedAt
import Derived.Stop.Joined
import Derived.Lib.SmallJoins
import Derived.Deep.MidRow
import Derived.Deep.DeepCutAuto
namespace Go.Proofs.YtjdgfbaioafjcaaDoor.fnNoise
open Go.ChangeShapes Go.WideShapes Go.ChangeAt Go.RowKit Go.Joins
open Go.ChangeMaps (open_string shut_string)
set_option linter.unusedVariables false

theorem own : ownKnob Tryd.prog.godebug = none := by kernel_rfl
theorem laidOut : laidOutB Tryd.prog = true := by kernel_rfl

def IsRow (k : IntKind) (w : World) (a : Option Addr) (len cap : Nat) (zs : List Int) : Prop :=
  (a = none ∧ len = 0 ∧ cap = 0 ∧ zs = []) ∨
  ∃ x, a = some x ∧ len ≤ cap ∧ cap ≤ maxLen ∧ zs.length = cap ∧ (∀ i, i < zs.length → w.cell? (x.add i) = some (.int k (zs.getD i 0))) ∧ ∀ n ∈ zs, (Lit.int k n).wf = true

set_option maxRecDepth 100000 in
set_option maxHeartbeats 8000000 in
theorem walk (a0 : Option Addr) (len0 cap0 : Nat) (z0 : List Int) (a1 : Option Addr) (len1 cap1 : Nat) (z1 : List Int) (w : World) (w0 : IsRow .u8 w a0 len0 cap0 z0) (w1 : IsRow .u8 w a1 len1 cap1 z1) (hL : PBit w) :
    Calls Tryd.prog 5 #[.slice a0 len0 cap0, .slice a1 len1 cap1] w fun e w' => e = .returned (.bool true) ∧ Below w.heap.size w w' := by
  have hc0 := codeAt_of w0
  have hc1 := codeAt_of w1
  have hnn : ∀ (zs : List Int) (a : Option Addr) (len cap : Nat), IsRow .u8 w a len cap zs → len ≤ maxLen := by
    intro zs a len cap h
    rcases h with ⟨_, rfl, _, _⟩ | ⟨x, _, hl, hm, _⟩
    · exact Nat.zero_le _
    · omega
  have hl0 := hnn _ _ _ _ w0
  have hl1 := hnn _ _ _ _ w1
  clear hnn w0 w1
  unfold maxLen at hl0 hl1
  by_cases h1 : 1048576 < len0
  · go_enter Tryd.func5, Tryd.ntmps5
    go_wp2
    go_ret
    exact ⟨rfl, Below.refl _ _⟩
  by_cases h2 : 1048576 < len1
  · go_enter Tryd.func5, Tryd.ntmps5
    go_wp2
    go_ret
    exact ⟨rfl, Below.refl _ _⟩
  have hb0 := hid (Below.refl w.heap.size w)
  have hP0 := hid hL
  clear hL
  go_enter Tryd.func5, Tryd.ntmps5
  go_wp2_with fail
  refine (psgdrawn_any _ _ _ _ (hc0.below hb0.out hb0.out.size) (by omega)).mono ?_
  rintro e w1 ⟨c, rfl, hok, hb⟩
  have hb1 := hid (new_trans hb0.out hb)
  have hP1 := hid (hP0.out.below hb)
  clear hb hb0 hP0
  replace hok := hid hok
  clear hc0
  obtain ⟨W2, eW⟩ : ∃ W, (w1.alloc (.cells (sgA zeS) 27)).setCells w1.heap.size 0 (sgA c).toList = W := ⟨_, rfl⟩
  have hth := hid (sg_there (Blk.new w1 (sgA zeS) 27) c)
  have hal : Below w1.heap.size w1 W2 := by rw [← eW]; exact lay_below _ _ _ (Nat.le_refl _) ((Below.refl w1.heap.size w1).alloc (Nat.le_refl _) (.cells (sgA zeS) 27))
  have b5q2 : Blk W2 w1.heap.size (sgA c) := by rw [← eW]; exact sg_laid (Blk.new w1 (sgA zeS) 27) c
  replace b5q2 := hid b5q2
  have hb2 := hid (new_trans hb1.out hal)
  have hP2 := hid (hP1.out.below hal)
  have lb5 := hid hb1.out.size
  replace eW := hid eW
  clear hal hb1 hP1
  go_upto_region 4 with (guard_target = wpList _ _ _ (Oper.mk _ (Op.store _ _ _) _ _ _ _ :: _) _ _; refine wpList_store_mid rfl 27 _ _ rfl w1.heap.size 0 (sgA c) rfl rfl hth.out (sg_size c) (sg_one c) ?_; rw [eW.out])
  obtain ⟨b5, eb5⟩ : ∃ b, w1.heap.size = b := ⟨_, rfl⟩
  rw [eb5] at b5q2 lb5
  rw [eb5]
  clear eW eb5 hth
  go_wp2_with fail
  refine (at_val _ _ _ 0 300 _ _ (hc1.below hb2.out hb2.out.size) (by omega) (by omega) (by omega)).mono ?_
  rintro e w3 ⟨rfl, hb⟩
  obtain ⟨n, en, ln⟩ : ∃ a : Nat, atV W2 a1 len1 0 300 = (a : Int) ∧ a < 300 := by
    have := atV_bd (w := W2) (a := a1) (len := len1) (i := 0) (n := 300) (by omega)
    exact ⟨(atV W2 a1 len1 0 300).toNat, by omega, by omega⟩
  rw [en]
  clear en
  have hb3 := hid (new_trans hb2.out hb)
  have hP3 := hid (hP2.out.below hb)
  have b5q3 := hid (b5q2.out.below hb b5q2.out.lt)
  clear hb hb2 hP2 b5q2
  go_wp2_with fail
  refine (at_val _ _ _ 1 300 _ _ (hc1.below hb3.out hb3.out.size) (by omega) (by omega) (by omega)).mono ?_
  rintro e w4 ⟨rfl, hb⟩
  obtain ⟨k, ek, lk⟩ : ∃ a : Nat, atV w3 a1 len1 1 300 = (a : Int) ∧ a < 300 := by
    have := atV_bd (w := w3) (a := a1) (len := len1) (i := 1) (n := 300) (by omega)
    exact ⟨(atV w3 a1 len1 1 300).toNat, by omega, by omega⟩
  rw [ek]
  clear ek
  have hb4 := hid (new_trans hb3.out hb)
  have hP4 := hid (hP3.out.below hb)
  have b5q4 := hid (b5q3.out.below hb b5q3.out.lt)
  clear hb hb3 hP3 b5q3
  clear hc1
  obtain ⟨X, hX⟩ : ∃ X, c.steps n = X := ⟨_, rfl⟩
  obtain ⟨Y, hY⟩ : ∃ Y, X.steps k = Y := ⟨_, rfl⟩
  have hZ : c.steps (n + k) = Y := by rw [steps_add, hX, hY]
  have okX : okS X = true := by rw [← hX]; exact okS_steps hok.out n
  have okY : okS Y = true := by rw [← hY]; exact okS_steps okX k
  have s1 := hid (fun w1 (h : PBit w1) => stepp_impl c (n : Int) w1 h)
  rw [step2_ok hok.out (by omega), hX] at s1
  have s2 := hid (fun w1 (h : PBit w1) => stepp_impl X (k : Int) w1 h)
  rw [step2_ok okX (by omega), hY] at s2
  have s3 := hid (fun w1 (h : PBit w1) => stepp_impl c ((n + k : Nat) : Int) w1 h)
  rw [step2_ok hok.out (by omega), hZ] at s3
  have s4 := hid (fun w1 (h : PBit w1) => sok_impl Y w1 h)
  rw [okY] at s4
  obtain ⟨sh, hsh, hs1, hs2⟩ : ∃ sh : Nat, Y.shift = sh ∧ 1 ≤ sh ∧ sh < 131072 := by
    have := ((okS_iff Y).1 okY).2.2.2.2.2.1
    exact ⟨Y.shift.toNat, by omega, by omega, by omega⟩
  replace hsh := hid hsh
  clear hX hY hZ okX okY hok
  have hnk : Hid (((n + k : Nat) : Int) = (n : Int) + (k : Int)) := by show ((n + k : Nat) : Int) = (n : Int) + (k : Int); omega
  rw [hnk.out] at s3
  have gr := hid (sg_range b5q4.out)
  go_wp2_with (guard_target = wpList _ _ _ (Oper.mk _ (Op.load _ _) _ _ _ _ :: _) _ _; refine wpList_load_mid rfl 27 _ rfl b5 0 rfl (sgA c).toList _ gr.out Tryd.underlying27 rfl (sg_size c) ?_)
  refine (s1.out _ hP4.out).mono ?_
  rintro e w5 ⟨rfl, hb⟩
  have hb5 := hid (new_trans hb4.out hb)
  have hP5 := hid (hP4.out.below hb)
  have b5q5 := hid (b5q4.out.below hb b5q4.out.lt)
  clear hb hb4 hP4 b5q4 gr
  obtain ⟨W6, eW⟩ : ∃ W, (w5.alloc (.cells (sgA zeS) 27)).setCells w5.heap.size 0 (sgA X).toList = W := ⟨_, rfl⟩
  have hth := hid (sg_there (Blk.new w5 (sgA zeS) 27) X)
  have hal : Below w5.heap.size w5 W6 := by rw [← eW]; exact lay_below _ _ _ (Nat.le_refl _) ((Below.refl w5.heap.size w5).alloc (Nat.le_refl _) (.cells (sgA zeS) 27))
  have b8q6 : Blk W6 w5.heap.size (sgA X) := by rw [← eW]; exact sg_laid (Blk.new w5 (sgA zeS) 27) X
  replace b8q6 := hid b8q6
  have hb6 := hid (new_trans hb5.out hal)
  have hP6 := hid (hP5.out.below hal)
  have lb8 := hid hb5.out.size
  have b5q6 := hid (b5q5.out.below hal b5q5.out.lt)
  replace eW := hid eW
  clear hal hb5 hP5 b5q5
  go_upto_region 7 with (guard_target = wpList _ _ _ (Oper.mk _ (Op.store _ _ _) _ _ _ _ :: _) _ _; refine wpList_store_mid rfl 27 _ _ rfl w5.heap.size 0 (sgA X) rfl rfl hth.out (sg_size X) (sg_one X) ?_; rw [eW.out])
  obtain ⟨b8, eb8⟩ : ∃ b, w5.heap.size = b := ⟨_, rfl⟩
  rw [eb8] at b8q6 lb8
  rw [eb8]
  clear eW eb8 hth
  have gr := hid (sg_range b8q6.out)
  go_wp2_with (guard_target = wpList _ _ _ (Oper.mk _ (Op.load _ _) _ _ _ _ :: _) _ _; refine wpList_load_mid rfl 27 _ rfl b8 0 rfl (sgA X).toList _ gr.out Tryd.underlying27 rfl (sg_size X) ?_)
  refine (s2.out _ hP6.out).mono ?_
  rintro e w7 ⟨rfl, hb⟩
  have hb7 := hid (new_trans hb6.out hb)
  have hP7 := hid (hP6.out.below hb)
  have b5q7 := hid (b5q6.out.below hb b5q6.out.lt)
  have b8q7 := hid (b8q6.out.below hb b8q6.out.lt)
  clear hb hb6 hP6 b5q6 b8q6 gr
  obtain ⟨W8, eW⟩ : ∃ W, (w7.alloc (.cells (sgA zeS) 27)).setCells w7.heap.size 0 (sgA Y).toList = W := ⟨_, rfl⟩
  have hth := hid (sg_there (Blk.new w7 (sgA zeS) 27) Y)
  have hal : Below w7.heap.size w7 W8 := by rw [← eW]; exact lay_below _ _ _ (Nat.le_refl _) ((Below.refl w7.heap.size w7).alloc (Nat.le_refl _) (.cells (sgA zeS) 27))
  have b10q8 : Blk W8 w7.heap.size (sgA Y) := by rw [← eW]; exact sg_laid (Blk.new w7 (sgA zeS) 27) Y
  replace b10q8 := hid b10q8
  have hb8 := hid (new_trans hb7.out hal)
  have hP8 := hid (hP7.out.below hal)
  have lb10 := hid hb7.out.size
  have b5q8 := hid (b5q7.out.below hal b5q7.out.lt)
  have b8q8 := hid (b8q7.out.below hal b8q7.out.lt)
  replace eW := hid eW
  clear hal hb7 hP7 b5q7 b8q7
  go_upto_region 8 with (guard_target = wpList _ _ _ (Oper.mk _ (Op.store _ _ _) _ _ _ _ :: _) _ _; refine wpList_store_mid rfl 27 _ _ rfl w7.heap.size 0 (sgA Y) rfl rfl hth.out (sg_size Y) (sg_one Y) ?_; rw [eW.out])
  obtain ⟨b10, eb10⟩ : ∃ b, w7.heap.size = b := ⟨_, rfl⟩
  rw [eb10] at b10q8 lb10
  rw [eb10]
  clear eW eb10 hth
  have gr := hid (sg_range b5q8.out)
  go_wp2_with (guard_target = wpList _ _ _ (Oper.mk _ (Op.load _ _) _ _ _ _ :: _) _ _; refine wpList_load_mid rfl 27 _ rfl b5 0 rfl (sgA c).toList _ gr.out Tryd.underlying27 rfl (sg_size c) ?_)
  refine (s3.out _ hP8.out).mono ?_
  rintro e w9 ⟨rfl, hb⟩
  have hb9 := hid (new_trans hb8.out hb)
  have hP9 := hid (hP8.out.below hb)
  have b5q9 := hid (b5q8.out.below hb b5q8.out.lt)
  have b8q9 := hid (b8q8.out.below hb b8q8.out.lt)
  have b10q9 := hid (b10q8.out.below hb b10q8.out.lt)
  clear hb hb8 hP8 b5q8 b8q8 b10q8 gr
  obtain ⟨W10, eW⟩ : ∃ W, (w9.alloc (.cells (sgA zeS) 27)).setCells w9.heap.size 0 (sgA Y).toList = W := ⟨_, rfl⟩
  have hth := hid (sg_there (Blk.new w9 (sgA zeS) 27) Y)
  have hal : Below w9.heap.size w9 W10 := by rw [← eW]; exact lay_below _ _ _ (Nat.le_refl _) ((Below.refl w9.heap.size w9).alloc (Nat.le_refl _) (.cells (sgA zeS) 27))
  have b12q10 : Blk W10 w9.heap.size (sgA Y) := by rw [← eW]; exact sg_laid (Blk.new w9 (sgA zeS) 27) Y
  replace b12q10 := hid b12q10
  have hb10 := hid (new_trans hb9.out hal)
  have hP10 := hid (hP9.out.below hal)
  have lb12 := hid hb9.out.size
  have b5q10 := hid (b5q9.out.below hal b5q9.out.lt)
  have b8q10 := hid (b8q9.out.below hal b8q9.out.lt)
  have b10q10 := hid (b10q9.out.below hal b10q9.out.lt)
  replace eW := hid eW
  clear hal hb9 hP9 b5q9 b8q9 b10q9
  go_upto_region 9 with (guard_target = wpList _ _ _ (Oper.mk _ (Op.store _ _ _) _ _ _ _ :: _) _ _; refine wpList_store_mid rfl 27 _ _ rfl w9.heap.size 0 (sgA Y) rfl rfl hth.out (sg_size Y) (sg_one Y) ?_; rw [eW.out])
  obtain ⟨b12, eb12⟩ : ∃ b, w9.heap.size = b := ⟨_, rfl⟩
  rw [eb12] at b12q10 lb12
  rw [eb12]
  clear eW eb12 hth
  refine noise_cmp b10q10.out b12q10.out hP10.out s4.out hsh.out hs1 hs2 ?_
  intro y48 y49 y50 y51 y52 y53 y54 y55 y56 y57 y58 y59 y60 y61 y62 y63 y64 y65 y66 y67 y68 y69 y70 y71 y72 y73 y74 y75 y76 WF hb
  have hbF := hid (new_trans hb10.out hb)
  clear hb b5q10 b8q10 b10q10 b12q10 s1 s2 s3 s4 hb10 hP10
  go_wp2_with fail
  go_ret
  exact ⟨rfl, hbF.out⟩

theorem door_met (os : Os) (args : Array Value) : laidMetH Tryd.prog Rows.fnNoiseRow.laid ((World.doorLaid Tryd.prog 400 os).forCall (fun _ _ => 0) ⟨#[], args, []⟩).memory :=
  laidMetH_of_parts3 (fuel := 8) (laidMet_of_run' 8 (by kernel_rfl) (by kernel_rfl)) (by kernel_rfl) (by kernel_rfl)

set_option maxRecDepth 100000 in
theorem lifted (os : Os) (started : os.Started) (H : Type) (enc : TypeId × Value → H) :
    ReturnsInHanded {} Tryd.checked os 5 .any (fun w args => (Rows.fnNoiseSpec.pre enc Tryd.prog Tryd.f5 [] false w args ∧ laidMetH Tryd.prog Rows.fnNoiseRow.laid w) ∧ sizedMet enc Tryd.prog Tryd.f5 (OpenSpec.ofChange Rows.fnNoiseSpec) false w args)
      (Rows.fnNoiseSpec.post enc Tryd.prog Tryd.f5 false true false false) := by
  refine returnsInHanded_of_change_and (C := Tryd.checked) (X := fun w _ => laidMetH Tryd.prog Rows.fnNoiseRow.laid w) (fun _ _ _ hh h => h.of_heap hh) own started (by kernel_rfl) Tryd.func5
    (ChangeSpec.witness_shaped (enc := enc) (C := Tryd.checked) (os := os) (X := fun w _ => laidMetH Tryd.prog Rows.fnNoiseRow.laid w) false (World.doorLaid Tryd.prog 400 os) #[.slice none 0 0, .slice none 0 0] 8 rfl (World.shaped_of_RefB (by kernel_rfl) (by kernel_rfl)) (by kernel_rfl) (by kernel_rfl) (by kernel_rfl) (door_met os _)) ?_
  intro W base args ds gs before hval0 hW _ _ hL _
  have hval : ∀ (j : Nat) t v, Tryd.f5.params[j]? = some t → args[j]? = some v → Value.okWide Tryd.prog W .any base t v := hval0
  have hW' := hW
  obtain ⟨p, q, hA0, hV, hbefore, hfz, hnd⟩ := hW
  have hA : DataW.TrodAll enc Tryd.prog W 0 (fun _ => true) true Tryd.f5.params.toList args.toList ds p := hA0
  rw [Tryd.params5] at hA hval
  obtain ⟨v0, vs0, d0, ds0, p0, q0, hargs, rfl, rfl, h0, r0⟩ := trodAll_cons hA
  obtain ⟨v1, vs1, d1, ds1, p1, q1, rfl, rfl, rfl, h1, r1⟩ := trodAll_cons r0
  obtain ⟨rfl, rfl, rfl⟩ := trodAll_nil r1
  obtain rfl : args = #[v0, v1] := by cases args; simp_all
  obtain ⟨g0, rfl⟩ := vars1_form hV
  obtain ⟨a0, len0, cap0, rfl⟩ := okWide_slice Tryd.underlying22 (hval 0 22 v0 rfl rfl)
  have k0 := h0
  have lt0 : ∀ x ∈ p0, x.block < W.heap.size := by obtain ⟨m, hm⟩ := k0; exact DataW.trod_lt m _ _ _ hm
  obtain ⟨z0, w0⟩ : ∃ zs, IsRow .u8 W a0 len0 cap0 zs := by
    obtain ⟨fuel, hf⟩ := h0
    rcases open_ints Tryd.underlying22 Tryd.underlying5 (by kernel_rfl) hf with ⟨hcs, _⟩ | ⟨x, l, c, zs, hcs, _, hl, hm, hz, _, hcell, hwz⟩
    · simp [Value.cells] at hcs
      obtain ⟨rfl, rfl, rfl⟩ := hcs
      exact ⟨[], .inl ⟨rfl, rfl, rfl, rfl⟩⟩
    · simp [Value.cells] at hcs
      obtain ⟨rfl, rfl, rfl⟩ := hcs
      exact ⟨zs, .inr ⟨_, rfl, hl, hm, by simpa using hz, hcell, hwz⟩⟩
  obtain ⟨a1, len1, cap1, rfl⟩ := okWide_slice Tryd.underlying22 (hval 1 22 v1 rfl rfl)
  have k1 := h1
  have lt1 : ∀ x ∈ p1, x.block < W.heap.size := by obtain ⟨m, hm⟩ := k1; exact DataW.trod_lt m _ _ _ hm
  obtain ⟨z1, w1⟩ : ∃ zs, IsRow .u8 W a1 len1 cap1 zs := by
    obtain ⟨fuel, hf⟩ := h1
    rcases open_ints Tryd.underlying22 Tryd.underlying5 (by kernel_rfl) hf with ⟨hcs, _⟩ | ⟨x, l, c, zs, hcs, _, hl, hm, hz, _, hcell, hwz⟩
    · simp [Value.cells] at hcs
      obtain ⟨rfl, rfl, rfl⟩ := hcs
      exact ⟨[], .inl ⟨rfl, rfl, rfl, rfl⟩⟩
    · simp [Value.cells] at hcs
      obtain ⟨rfl, rfl, rfl⟩ := hcs
      exact ⟨zs, .inr ⟨_, rfl, hl, hm, by simpa using hz, hcell, hwz⟩⟩
  clear hA0 hval0
  refine (walk a0 len0 cap0 z0 a1 len1 cap1 z1 W w0 w1 (pbit_of hL)).mono fun e W' ⟨he, bel⟩ => ?_
  subst he
  exact ⟨_, rfl, _, _, _, [], _, _, hW', trodAll_mk1 (shut_bool Tryd.underlying4 _), (trodAll_cons_mk (Below.trod laidOut (by kernel_rfl) (of_decide_eq_true (by kernel_rfl)) k0 bel lt0) (trodAll_cons_mk (Below.trod laidOut (by kernel_rfl) (of_decide_eq_true (by kernel_rfl)) k1 bel lt1) trodAll_mk0)), Below.trodVars laidOut bel (by kernel_rfl) hV, bel.frame _, fun h => by cases h⟩

theorem said : Rows.FnNoiseSaid :=
  OpenClaim.holds_of_wide 5 Tryd.f5 rfl rfl rfl rfl rfl rfl rfl ⟨rfl, rfl, rfl, rfl, rfl⟩ rfl rfl rfl rfl rfl (by kernel_rfl) Tryd.func5 (by kernel_rfl)
    (of_decide_eq_true (by kernel_rfl)) (by unfold Func.isWrapper; first | (rw [if_pos (by decide +kernel)]; kernel_rfl) | (rw [if_neg (by decide +kernel)]; exact ⟨rfl, rfl⟩))
    (fun os started H enc _ => lifted os started H enc)

theorem card : Rows.FnNoiseCardSaid :=
  Claim7.holds_tied_plain_at .later [] _ _ _ _ said (fun _ h => by cases h) (by kernel_rfl) (fun _ h => by cases h) fnNoise_row_tie rfl ⟨rfl, rfl⟩ (by kernel_rfl) rfl
    (fun f fn hf hfn => by
      obtain rfl : f = 5 := Option.some.inj ((show Tryd.prog.funcNamed "loop.example/g00644/laws.FnNoise" = some 5 by kernel_rfl).symm.trans hf) |>.symm
      obtain rfl : fn = Tryd.f5 := (Option.some.inj (Tryd.func5.symm.trans hfn)).symm
      exact ⟨by kernel_rfl, fun j t ht => by
        rw [Tryd.params5] at ht
        have hm : t ∈ [22, 22] := by simpa using Array.mem_of_getElem? ht
        have hall : ([22, 22].all fun u => !Tryd.prog.wantsStandIn u) = true := by kernel_rfl
        exact (show Tryd.prog.wantsStandIn t = false by simpa using List.all_eq_true.1 hall t hm)⟩)
    (by kernel_rfl)
end Go.Proofs.YtjdgfbaioafjcaaDoor.fnNoise
namespace Go.Proofs.YtjdgfbaioafjcaaDoor
theorem fnNoise_holds : Rows.FnNoiseCardSaid := fnNoise.card
#print axioms fnNoise_holds
end Go.Proofs.YtjdgfbaioafjcaaDoor
