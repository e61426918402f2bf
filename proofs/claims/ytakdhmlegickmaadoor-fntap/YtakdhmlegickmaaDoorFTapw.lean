/- For all bytes the law FnTap returns true: blocks are read back from their bytes, and with another byte in one it is told; the errors of the cursor and of blocks being as the program's text lays them. -/
import Derived.Test.YtakdhmlegickmaaDoorCards
import Derived.Test.YtakdhmlegickmaaDoorTie
import Derived.Test.YtakdhmlegickmaaDoorSrcw
import Derived.Test.YtakdhmlegickmaaDoorW02
import Derived.Test.YtakdhmlegickmaaDoorZew
import Derived.Test.YtakdhmlegickmaaDoorUfw
import Derived.Test.YtakdhmlegickmaaDoorZaw
import Derived.Test.YtakdhmlegickmaaDoorZtw
import Derived.Test.YtakdhmlegickmaaDoorZdw
import Derived.Test.YtakdhmlegickmaaDoorW41
import Derived.Test.YtakdhmlegickmaaDoorZqw
import Derived.Test.YtakdhmlegickmaaDoorZgw
import Derived.Test.YtakdhmlegickmaaDoorZvw
import Derived.Test.YtakdhmlegickmaaDoorZow
import Derived.Test.YtakdhmlegickmaaDoorZyw
import Derived.Test.YtakdhmlegickmaaDoorZfw
import Derived.WalkKit
import Derived.ProofKit
import Derived.OpenShut
import Derived.ShutString
import Derived.ChangeOld
import Derived.Below
import Derived.LaidMore
import Derived.OpenVars
import Derived.SevenTiedAt
import Derived.Stop.Joined
import Derived.Lib.SmallJoins
namespace Go.Proofs.YtakdhmlegickmaaDoor.fnTap
open Go.ChangeShapes Go.WideShapes Go.ChangeAt Go.RowKit Go.Joins
open Go.ChangeMaps (open_string shut_string)
set_option linter.unusedVariables false

theorem own : ownKnob Tryd.prog.godebug = none := by kernel_rfl
theorem laidOut : laidOutB Tryd.prog = true := by kernel_rfl

def IsRow (k : IntKind) (w : World) (a : Option Addr) (len cap : Nat) (zs : List Int) : Prop :=
  (a = none ∧ len = 0 ∧ cap = 0 ∧ zs = []) ∨
  ∃ x, a = some x ∧ len ≤ cap ∧ cap ≤ maxLen ∧ zs.length = cap ∧ (∀ i, i < zs.length → w.cell? (x.add i) = some (.int k (zs.getD i 0))) ∧ ∀ n ∈ zs, (Lit.int k n).wf = true

set_option maxRecDepth 100000 in
set_option maxHeartbeats 8000000 in
theorem walk (a0 : Option Addr) (len0 cap0 : Nat) (z0 : List Int) (a1 : Option Addr) (len1 cap1 : Nat) (z1 : List Int) (w : World) (w0 : IsRow .u8 w a0 len0 cap0 z0) (w1 : IsRow .u8 w a1 len1 cap1 z1) (hL : ∃ e0 e1 e2 e3 e4 e5, Err6 w e0 e1 e2 e3 e4 e5) :
    Calls Tryd.prog 3 #[.slice a0 len0 cap0, .slice a1 len1 cap1] w fun e w' => e = .returned (.bool true) ∧ Below w.heap.size w w' := by
  have hc0 := codeAt_of w0
  have hc1 := codeAt_of w1
  have hnn : ∀ (zs : List Int) (a : Option Addr) (len cap : Nat), IsRow .u8 w a len cap zs → len ≤ maxLen := by
    intro zs a len cap h
    rcases h with ⟨_, rfl, _, _⟩ | ⟨x, _, hl, hm, _⟩
    · exact Nat.zero_le _
    · omega
  have hl0 := hnn _ _ _ _ w0
  have hl1 := hnn _ _ _ _ w1
  clear hnn w0 w1
  unfold maxLen at hl0 hl1
  obtain ⟨e0, e1, e2, e3, e4, e5, hE⟩ := hL
  by_cases h1 : 1048576 < len0
  · clear hE
    go_enter Tryd.func3, Tryd.ntmps3
    go_wp2
    go_ret
    exact ⟨rfl, Below.refl _ _⟩
  by_cases h2 : 1048576 < len1
  · clear hE
    go_enter Tryd.func3, Tryd.ntmps3
    go_wp2
    go_ret
    exact ⟨rfl, Below.refl _ _⟩
  replace hE := hid hE
  have hBD := hid (blocksdrawn_any a0 len0 cap0 w hc0 (by omega))
  replace hc1 := hid hc1
  clear hc0 hl0 hl1
  go_enter Tryd.func3, Tryd.ntmps3
  go_wp2_with fail
  refine hBD.out.mono ?_
  rintro e w1 ⟨v, l, rfl, hl3, hok, hown, hb1⟩
  obtain ⟨a5, c5, hv5, hR5⟩ := (mks_of hown).read
  subst hv5
  have hall : allL l = true := by
    rw [allL_yes (fun k hk => hok _ (getD_mem hk))]
    simpa using by omega
  have hsm : ∀ x ∈ l, x.2.size ≤ maxLen := fun x hx => by
    have := ((okB_iff _ _).1 (hok x hx)).2
    unfold maxLen
    omega
  have et2 : tap2 l = (tapN l l.length, 0) := by
    unfold tap2
    rw [if_neg (by omega), if_pos hall]
  have hTi := hid (fun W (h : BkR W a5 l) => taptext_impl a5 c5 l W h (by omega) hsm)
  have hTs := hid (fun W (h : BkR W a5 l) => taptext_spec a5 c5 l W h (by omega) hsm)
  rw [et2] at hTi hTs
  have htz := tapN_size hall l.length (Nat.le_refl _)
  have hrd := rd_tap hall
  obtain ⟨t, ht⟩ : ∃ t, tapN l l.length = t := ⟨_, rfl⟩
  rw [ht] at hTi hTs htz hrd
  have htz2 : t.size ≤ 132 := by omega
  have hRi := hid (fun W (h : Err6 W e0 e1 e2 e3 e4 e5) => readtap_impl t e0 e1 e2 e3 e4 e5 W (by unfold maxLen; omega) h)
  rw [hrd] at hRi
  have hB1 := hid hb1
  replace hR5 := hid hR5
  clear hb1 hown hall hsm et2 htz hrd ht hok hBD
  dsimp only at hTi hTs hRi
  go_wp2_with fail
  refine (hTi.out _ hR5.out).mono ?_
  rintro e w2 ⟨rfl, hb2⟩
  have hB2 := hid (new_trans hB1.out hb2)
  have hR52 := hid (hR5.out.below hb2)
  clear hb2 hB1 hR5 hTi
  go_wp2_with fail
  refine (hTs.out _ hR52.out).mono ?_
  rintro e w3 ⟨rfl, hb3⟩
  have hB3 := hid (new_trans hB2.out hb3)
  have hR53 := hid (hR52.out.below hb3)
  clear hb3 hB2 hR52 hTs
  go_wp2_with fail
  refine (hRi.out _ (hE.out.below hB3.out)).mono ?_
  rintro e w4 ⟨v10, rfl, ho4, hb4⟩
  obtain ⟨a10, c10, hv10, hR10⟩ := (mks_of ho4).read
  subst hv10
  have hB4 := hid (new_trans hB3.out hb4)
  have hR54 := hid (hR53.out.below hb4)
  replace hR10 := hid hR10
  clear hb4 hB3 hR53 hRi ho4
  go_upto_region 7 with fail
  refine tap_cmp7 (same_yes a10 a5 c10 c5 l _ hR10.out hR54.out (by omega)) ?_
  intro y0 y1 y2 y3 y4 y5 y6 y7 y8 y9 y10 y11 y12 y13 y14 y15 w5 hb5
  have hB5 := hid (new_trans hB4.out hb5)
  have hc5 := hid (hc1.out.below hB5.out hB5.out.size)
  clear hb5 hB4 hR54 hR10
  go_wp2_with fail
  refine (at_any a1 len1 cap1 0 256 _ _ hc5.out (by omega) (by omega) (by omega) (by omega)).mono ?_
  rintro e w6 ⟨⟨fv, rfl, hf0, _, hf1⟩, hb6⟩
  have hf2 := hf1 (by omega)
  have hB6 := hid (new_trans hB5.out hb6)
  have hc6 := hid (hc1.out.below hB6.out hB6.out.size)
  clear hb6 hB5 hc5 hf1
  go_wp2_with fail
  refine (at_any a1 len1 cap1 1 9 _ _ hc6.out (by omega) (by omega) (by omega) (by omega)).mono ?_
  rintro e w7 ⟨⟨mv, rfl, hm0, _, hm1⟩, hb7⟩
  have hm2 := hm1 (by omega)
  obtain ⟨m, rfl⟩ : ∃ m : Nat, mv = m := ⟨mv.toNat, by omega⟩
  have hB7 := hid (new_trans hB6.out hb7)
  have hc7 := hid (hc1.out.below hB7.out hB7.out.size)
  clear hb7 hB6 hc6 hm1 hm0
  go_wp2_with fail
  refine (text_any a1 len1 cap1 m _ hc7.out (by omega) (by omega)).mono ?_
  rintro e w8 ⟨⟨xs, rfl, hx1, _⟩, hb8⟩
  obtain ⟨D, hD⟩ : ∃ D, strOfNums xs = D := ⟨_, rfl⟩
  have hDs : D.size ≤ 8 := by rw [← hD, strOfNums_size]; omega
  rw [hD]
  have hok : okB fv D = true := (okB_iff _ _).2 ⟨⟨hf0, by omega⟩, by omega⟩
  have q12 := hid (Blk.new w8 (bkA fv D) 33)
  have hB8 := hid ((new_trans hB7.out hb8).alloc (new_trans hB7.out hb8).size (.cells (bkA fv D) 33))
  clear hb8 hB7 hc7 hx1 hD
  have eT : txtB2 fv D = (txtB fv D, 0) := by unfold txtB2; rw [if_pos hok]
  have eS : sumB2 fv D = (sumB fv D, 0) := by unfold sumB2; rw [if_pos hok]
  have hDm : D.size ≤ maxLen := by unfold maxLen; omega
  have hTx := hid (fun W => textofP_impl fv D W hDm)
  have hSm := hid (fun W => sumofP_impl fv D W hDm)
  have hOk := hid (fun W => bkokP_impl fv D W hDm)
  rw [eT] at hTx
  rw [eS] at hSm
  rw [hok] at hOk
  dsimp only at hTx hSm
  have hSz := txtB_size fv D
  have hLast := tap_last fv D hok
  have hBe := hid (fun v q hv hq => tap_bent fv D v q hok hv hq)
  have hFi := hid (tap_first fv D t hok (by rw [ByteArray.size_append, hSz]; omega))
  have hSb := sumB_bd fv D ⟨hf0, by omega⟩
  clear eT eS hok
  generalize txtB fv D = S at *
  generalize sumB fv D = Z at *
  go_upto_region 10 with fail
  obtain ⟨b12, hb12⟩ : ∃ b, w8.heap.size = b := ⟨_, rfl⟩
  obtain ⟨W8, hW8⟩ : ∃ W, w8.alloc (.cells (bkA fv D) 33) = W := ⟨_, rfl⟩
  rw [hW8, hb12] at q12
  rw [hW8] at hB8 ⊢
  rw [hb12]
  clear hW8 hb12
  have x8 := q12.out.cell
  go_wp2_with fail
  refine (hTx.out _).mono ?_
  rintro e w9 ⟨rfl, hb9⟩
  have hB9 := hid (new_trans hB8.out hb9)
  have q9 := hid (q12.out.below hb9 q12.out.lt)
  have x9 := q9.out.cell
  clear hb9 hB8 q12 x8 hTx
  go_wp2_with fail
  refine (hSm.out _).mono ?_
  rintro e w10 ⟨rfl, hb10⟩
  have hB10 := hid (new_trans hB9.out hb10)
  have q10 := hid (q9.out.below hb10 q9.out.lt)
  have x10 := q10.out.cell
  clear hb10 hB9 q9 x9 hSm
  go_upto_region 12 with fail
  refine tap_cmp12 q10.out hSz hDs hLast hSb hOk.out ?_
  intro z0 z1 z2 z3 z4 z5 z6 z7 z8 z9 z10 z11 z12 z13 z14 z15 z16 z17 z18 z19 z20 z21 z22 z23 z24 z25 z26 z27 z28 w11 hb11
  have hB11 := hid (new_trans hB10.out hb11)
  have q11 := hid (q10.out.below hb11 q10.out.lt)
  have hc11 := hid (hc1.out.below hB11.out hB11.out.size)
  clear hb11 hB10 q10 x10 hOk hLast hSb
  have hs2 : (S.size : Int) - 2 = ((D.size + 2 : Nat) : Int) := by omega
  obtain ⟨r2, hr2⟩ : ∃ r, D.size + 2 = r := ⟨_, rfl⟩
  rw [hr2] at hs2
  have hr3 : 2 ≤ r2 ∧ r2 ≤ 10 := by omega
  have hS100 : S.size ≤ 12 := by omega
  have hS4 : 4 ≤ S.size := by omega
  replace hSz := hid hSz
  replace hr2 := hid hr2
  have hAt := hid (at_any a1 len1 cap1 2 (r2 : Int) _ _ hc11.out (by omega) (by omega) (by omega) (by omega))
  go_wp2_with fail
  refine hAt.out.mono ?_
  rintro e w12 ⟨⟨kv, rfl, hk0, _, hk1⟩, hb12⟩
  have hk2 := hk1 (by omega)
  obtain ⟨vk, rfl⟩ : ∃ vk : Nat, kv = vk := ⟨kv.toNat, by omega⟩
  have hB12 := hid (new_trans hB11.out hb12)
  have q13 := hid (q11.out.below hb12 q11.out.lt)
  clear hb12 hB11 q11 hc11 hAt hk1 hk0 hs2
  have hq := atV_bd (w := w) (a := a1) (len := len1) (i := 3) (n := 255) (by omega)
  obtain ⟨q, eq⟩ : ∃ q : Nat, atV w a1 len1 3 255 = q := ⟨(atV w a1 len1 3 255).toNat, by omega⟩
  have hq255 : q < 255 := by omega
  have hAt := hid (fun W (hW : Below w12.heap.size w12 W) => at_val a1 len1 cap1 3 255 W.heap.size W (hc1.out.below (new_trans hB12.out hW) (new_trans hB12.out hW).size) (by omega) (by omega) (by omega))
  have hAt2 : Hid (∀ W, Below w12.heap.size w12 W → Calls Tryd.prog 11 #[.slice a1 len1 cap1, .int .i64 3, .int .i64 255] W fun r w' => r = .returned (.int .i64 (q : Int)) ∧ Below W.heap.size W w') := by
    intro W hW
    have := hAt.out W hW
    rw [atV_below hc1.out (new_trans hB12.out hW), eq] at this
    exact this
  clear eq hq hAt
  have hvk : vk < r2 := by omega
  obtain ⟨x, hx, hx0, hx1, hrd⟩ := hBe.out vk q (by rw [hr2.out]; exact hvk) hq255
  obtain ⟨m0, hm0⟩ : ∃ m, 2 + vk = m := ⟨_, rfl⟩
  rw [hm0] at hx hrd
  have hm0i : (2 : Int) + (vk : Int) = (m0 : Int) := by omega
  have hmS : m0 < S.size := by rw [hSz.out, show D.size + 4 = D.size + 2 + 2 from rfl, hr2.out]; omega
  have hix := hid (fun w => run_idx S ((m0 : Nat) : Int) m0 rfl hmS w)
  obtain ⟨yb, hyb, hyb2⟩ := byt_nat S m0
  rw [hyb] at hix hx
  have hmB : m0 ≤ 12 := by omega
  replace hx := hid hx
  replace hrd := hid hrd
  replace hmS := hid hmS
  clear hm0 hvk hk2 hyb hBe
  go_upto_region 15 with fail
  refine bt_reg _ _ _ S m0 (m0 + 1) q (q + 1) (yb : Int) x a1 len1 cap1 rfl rfl rfl hix.out hmS.out (by omega) (by omega) hq255 (by omega) hx.out ⟨hx0, hx1⟩ (by omega) hAt2.out (Nat.le_of_ble_eq_true rfl) ?_
  intro w13 bb hb13
  simp only [putsA, Act.put, List.setIfInBounds_toArray, List.set_cons_zero, List.set_cons_succ]
  have hB13 := hid (new_trans hB12.out hb13)
  have q14 := hid (q13.out.below hb13 q13.out.lt)
  clear hb13 hB12 q13 hAt2 hix hx
  obtain ⟨bent, hbent⟩ : ∃ b, S.extract 0 m0 ++ strOfNums [x] ++ S.extract (m0 + 1) S.size = b := ⟨_, rfl⟩
  have hbz : bent.size ≤ 100 := by
    rw [← hbent, (bent_at S m0 x hmS.out ⟨hx0, hx1⟩).1]
    omega
  rw [hbent] at hrd ⊢
  clear hbent hmS
  have hR16 := hid (fun W (h : Err6 W e0 e1 e2 e3 e4 e5) => readtap_impl bent e0 e1 e2 e3 e4 e5 W (by unfold maxLen; omega) h)
  rw [hrd.out] at hR16
  clear hrd
  generalize (rd2 bent).1 = L16 at hR16
  go_wp2_with fail
  refine (hR16.out _ (hE.out.below hB13.out)).mono ?_
  rintro e w14 ⟨v19, rfl, ho14, hb14⟩
  have hB14 := hid (new_trans hB13.out hb14)
  have q15 := hid (q14.out.below hb14 q14.out.lt)
  clear hb14 hB13 q14 hR16 ho14
  have hcat : ¬ 9223372036854775807 < S.size + t.size := by omega
  have hTk := hid (fun W (h : Err6 W e0 e1 e2 e3 e4 e5) => tkb_impl (S ++ t) 0 e0 e1 e2 e3 e4 e5 W (by unfold maxLen; rw [ByteArray.size_append]; omega) h)
  rw [hFi.out] at hTk
  clear hFi
  obtain ⟨X, hX⟩ : ∃ X, S ++ t = X := ⟨_, rfl⟩
  rw [hX] at hTk
  have hTk2 : Hid (∀ W, Err6 W e0 e1 e2 e3 e4 e5 → Calls Tryd.prog 16 #[cur X 0] W fun e w' => e = .returned (.tuple #[cur X (S.size : Int), bkV fv D, .int .i64 0]) ∧ Below W.heap.size W w') := hTk.out
  clear hTk
  go_wp2_with fail
  refine (hTk2.out _ (hE.out.below hB14.out)).mono ?_
  rintro e w15 ⟨rfl, hb15⟩
  have hB15 := hid (new_trans hB14.out hb15)
  have q16 := hid (q15.out.below hb15 q15.out.lt)
  obtain ⟨q21, q22, hal⟩ := two_new w15 (curA X (S.size : Int)) (bkA fv D) 39 33
  have hB16 := hid (new_trans hB15.out hal)
  have q17 := hid (q16.out.below hal q16.out.lt)
  replace q21 := hid q21
  replace q22 := hid q22
  clear hb15 hB15 q16 hal hB14 q15 hTk2 hX
  go_upto_region 18 with fail
  obtain ⟨b21, eb21⟩ : ∃ b, w15.heap.size = b := ⟨_, rfl⟩
  obtain ⟨W16, eW⟩ : ∃ W, (w15.alloc (.cells (curA X (S.size : Int)) 39)).alloc (.cells (bkA fv D) 33) = W := ⟨_, rfl⟩
  rw [eW, eb21] at q21 q22
  rw [eW] at hB16 q17 ⊢
  rw [eb21]
  clear eW eb21
  refine tap_cmp18 q17.out q22.out q21.out ?_
  intro u0 u1 u2 u3 u4 u5 u6 u7 u8 u9 u10 u11 u12 u13 u14 u15 u16 u17 WF hWF
  obtain rfl := hWF.symm
  clear q17 q21 q22
  go_wp2_with fail
  go_ret
  exact ⟨rfl, hB16.out⟩

theorem door_met (os : Os) (args : Array Value) : laidMetH Tryd.prog Rows.fnTapRow.laid ((World.doorLaid Tryd.prog 400 os).forCall (fun _ _ => 0) ⟨#[], args, []⟩).memory :=
  laidMetH_of_parts3 (fuel := 8) (laidMet_of_run' 8 (by kernel_rfl) (by kernel_rfl)) (by kernel_rfl) (by kernel_rfl)

set_option maxRecDepth 100000 in
theorem lifted (os : Os) (started : os.Started) (H : Type) (enc : TypeId × Value → H) :
    ReturnsInHanded {} Tryd.checked os 3 .any (fun w args => (Rows.fnTapSpec.pre enc Tryd.prog Tryd.f3 [] false w args ∧ laidMetH Tryd.prog Rows.fnTapRow.laid w) ∧ sizedMet enc Tryd.prog Tryd.f3 (OpenSpec.ofChange Rows.fnTapSpec) false w args)
      (Rows.fnTapSpec.post enc Tryd.prog Tryd.f3 false true false false) := by
  refine returnsInHanded_of_change_and (C := Tryd.checked) (X := fun w _ => laidMetH Tryd.prog Rows.fnTapRow.laid w) (fun _ _ _ hh h => h.of_heap hh) own started (by kernel_rfl) Tryd.func3
    (ChangeSpec.witness_shaped (enc := enc) (C := Tryd.checked) (os := os) (X := fun w _ => laidMetH Tryd.prog Rows.fnTapRow.laid w) false (World.doorLaid Tryd.prog 400 os) #[.slice none 0 0, .slice none 0 0] 8 rfl (World.shaped_of_RefB (by kernel_rfl) (by kernel_rfl)) (by kernel_rfl) (by kernel_rfl) (by kernel_rfl) (door_met os _)) ?_
  intro W base args ds gs before hval0 hW _ _ hL _
  have hval : ∀ (j : Nat) t v, Tryd.f3.params[j]? = some t → args[j]? = some v → Value.okWide Tryd.prog W .any base t v := hval0
  have hW' := hW
  obtain ⟨p, q, hA0, hV, hbefore, hfz, hnd⟩ := hW
  have hA : DataW.TrodAll enc Tryd.prog W 0 (fun _ => true) true Tryd.f3.params.toList args.toList ds p := hA0
  rw [Tryd.params3] at hA hval
  obtain ⟨v0, vs0, d0, ds0, p0, q0, hargs, rfl, rfl, h0, r0⟩ := trodAll_cons hA
  obtain ⟨v1, vs1, d1, ds1, p1, q1, rfl, rfl, rfl, h1, r1⟩ := trodAll_cons r0
  obtain ⟨rfl, rfl, rfl⟩ := trodAll_nil r1
  obtain rfl : args = #[v0, v1] := by cases args; simp_all
  obtain ⟨g0, g1, g2, g3, g4, g5, rfl⟩ := vars6_form hV
  obtain ⟨a0, len0, cap0, rfl⟩ := okWide_slice Tryd.underlying22 (hval 0 22 v0 rfl rfl)
  have k0 := h0
  have lt0 : ∀ x ∈ p0, x.block < W.heap.size := by obtain ⟨m, hm⟩ := k0; exact DataW.trod_lt m _ _ _ hm
  obtain ⟨z0, w0⟩ : ∃ zs, IsRow .u8 W a0 len0 cap0 zs := by
    obtain ⟨fuel, hf⟩ := h0
    rcases open_ints Tryd.underlying22 Tryd.underlying5 (by kernel_rfl) hf with ⟨hcs, _⟩ | ⟨x, l, c, zs, hcs, _, hl, hm, hz, _, hcell, hwz⟩
    · simp [Value.cells] at hcs
      obtain ⟨rfl, rfl, rfl⟩ := hcs
      exact ⟨[], .inl ⟨rfl, rfl, rfl, rfl⟩⟩
    · simp [Value.cells] at hcs
      obtain ⟨rfl, rfl, rfl⟩ := hcs
      exact ⟨zs, .inr ⟨_, rfl, hl, hm, by simpa using hz, hcell, hwz⟩⟩
  obtain ⟨a1, len1, cap1, rfl⟩ := okWide_slice Tryd.underlying22 (hval 1 22 v1 rfl rfl)
  have k1 := h1
  have lt1 : ∀ x ∈ p1, x.block < W.heap.size := by obtain ⟨m, hm⟩ := k1; exact DataW.trod_lt m _ _ _ hm
  obtain ⟨z1, w1⟩ : ∃ zs, IsRow .u8 W a1 len1 cap1 zs := by
    obtain ⟨fuel, hf⟩ := h1
    rcases open_ints Tryd.underlying22 Tryd.underlying5 (by kernel_rfl) hf with ⟨hcs, _⟩ | ⟨x, l, c, zs, hcs, _, hl, hm, hz, _, hcell, hwz⟩
    · simp [Value.cells] at hcs
      obtain ⟨rfl, rfl, rfl⟩ := hcs
      exact ⟨[], .inl ⟨rfl, rfl, rfl, rfl⟩⟩
    · simp [Value.cells] at hcs
      obtain ⟨rfl, rfl, rfl⟩ := hcs
      exact ⟨zs, .inr ⟨_, rfl, hl, hm, by simpa using hz, hcell, hwz⟩⟩
  clear hA0 hval0
  refine (walk a0 len0 cap0 z0 a1 len1 cap1 z1 W w0 w1 (err6_of hL)).mono fun e W' ⟨he, bel⟩ => ?_
  subst he
  exact ⟨_, rfl, _, _, _, [], _, _, hW', trodAll_mk1 (shut_bool Tryd.underlying4 _), (trodAll_cons_mk (Below.trod laidOut (by kernel_rfl) (of_decide_eq_true (by kernel_rfl)) k0 bel lt0) (trodAll_cons_mk (Below.trod laidOut (by kernel_rfl) (of_decide_eq_true (by kernel_rfl)) k1 bel lt1) trodAll_mk0)), Below.trodVars laidOut bel (by kernel_rfl) hV, bel.frame _, fun h => by cases h⟩

theorem said : Rows.FnTapSaid :=
  OpenClaim.holds_of_wide 3 Tryd.f3 rfl rfl rfl rfl rfl rfl rfl ⟨rfl, rfl, rfl, rfl, rfl⟩ rfl rfl rfl rfl rfl (by kernel_rfl) Tryd.func3 (by kernel_rfl)
    (of_decide_eq_true (by kernel_rfl)) (by unfold Func.isWrapper; first | (rw [if_pos (by decide +kernel)]; kernel_rfl) | (rw [if_neg (by decide +kernel)]; exact ⟨rfl, rfl⟩))
    (fun os started H enc _ => lifted os started H enc)

theorem card : Rows.FnTapCardSaid :=
  Claim7.holds_tied_plain_at .later [] _ _ _ _ said (fun _ h => by cases h) (by kernel_rfl) (fun _ h => by cases h) fnTap_row_tie rfl ⟨rfl, rfl⟩ (by kernel_rfl) rfl
    (fun f fn hf hfn => by
      obtain rfl : f = 3 := Option.some.inj ((show Tryd.prog.funcNamed "loop.example/g00644/laws.FnTap" = some 3 by kernel_rfl).symm.trans hf) |>.symm
      obtain rfl : fn = Tryd.f3 := (Option.some.inj (Tryd.func3.symm.trans hfn)).symm
      exact ⟨by kernel_rfl, fun j t ht => by
        rw [Tryd.params3] at ht
        have hm : t ∈ [22, 22] := by simpa using Array.mem_of_getElem? ht
        have hall : ([22, 22].all fun u => !Tryd.prog.wantsStandIn u) = true := by kernel_rfl
        exact (show Tryd.prog.wantsStandIn t = false by simpa using List.all_eq_true.1 hall t hm)⟩)
    (by kernel_rfl)
end Go.Proofs.YtakdhmlegickmaaDoor.fnTap
namespace Go.Proofs.YtakdhmlegickmaaDoor
theorem fnTap_holds : Rows.FnTapCardSaid := fnTap.card
#print axioms fnTap_holds
end Go.Proofs.YtakdhmlegickmaaDoor
