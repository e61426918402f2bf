/- For all bytes the law FnEdges returns true: a tape of drawn blocks has as many edges as pulses, at the sums of these, comes to its end behind them, and rewound it is as it was; the times of bits being as the program's text lays them. -/
import Derived.Test.YtohnddjijedfkaaDoorCards
import Derived.Test.YtohnddjijedfkaaDoorTie
import Derived.Test.YtohnddjijedfkaaDoorSrce
import Derived.Test.YtohnddjijedfkaaDoorZge
import Derived.Test.YtohnddjijedfkaaDoorZqe
import Derived.Test.YtohnddjijedfkaaDoorDze
import Derived.Test.YtohnddjijedfkaaDoorDoe
import Derived.Test.YtohnddjijedfkaaDoorDue
import Derived.Test.YtohnddjijedfkaaDoorDve
import Derived.Test.YtohnddjijedfkaaDoorE49
import Derived.Test.YtohnddjijedfkaaDoorVue
import Derived.WalkKit
import Derived.ProofKit
import Derived.OpenShut
import Derived.ShutString
import Derived.ChangeOld
import Derived.Below
import Derived.LaidMore
import Derived.OpenVars
import Derived.SevenTiedAt
import Derived.Stop.Joined
import Derived.Lib.SmallJoins
namespace Go.Proofs.YtohnddjijedfkaaDoor.fnEdges
open Go.ChangeShapes Go.WideShapes Go.ChangeAt Go.RowKit Go.Joins
open Go.ChangeMaps (open_string shut_string)
set_option linter.unusedVariables false

theorem own : ownKnob Tryd.prog.godebug = none := by kernel_rfl
theorem laidOut : laidOutB Tryd.prog = true := by kernel_rfl

def IsRow (k : IntKind) (w : World) (a : Option Addr) (len cap : Nat) (zs : List Int) : Prop :=
  (a = none ∧ len = 0 ∧ cap = 0 ∧ zs = []) ∨
  ∃ x, a = some x ∧ len ≤ cap ∧ cap ≤ maxLen ∧ zs.length = cap ∧ (∀ i, i < zs.length → w.cell? (x.add i) = some (.int k (zs.getD i 0))) ∧ ∀ n ∈ zs, (Lit.int k n).wf = true

set_option maxRecDepth 100000 in
set_option maxHeartbeats 16000000 in
theorem walk (a0 : Option Addr) (len0 cap0 : Nat) (z0 : List Int) (a1 : Option Addr) (len1 cap1 : Nat) (z1 : List Int) (w : World) (w0 : IsRow .u8 w a0 len0 cap0 z0) (w1 : IsRow .u8 w a1 len1 cap1 z1) (hL : Tim w) :
    Calls Tryd.prog 3 #[.slice a0 len0 cap0, .slice a1 len1 cap1] w fun e w' => e = .returned (.bool true) ∧ Below w.heap.size w w' := by
  have hc0 := codeAt_of w0
  have hc1 := codeAt_of w1
  have hnn : ∀ (zs : List Int) (a : Option Addr) (len cap : Nat), IsRow .u8 w a len cap zs → len ≤ maxLen := by
    intro zs a len cap h
    rcases h with ⟨_, rfl, _, _⟩ | ⟨x, _, hl, hm, _⟩
    · exact Nat.zero_le _
    · omega
  have hl0 := hnn _ _ _ _ w0
  have hl1 := hnn _ _ _ _ w1
  clear hnn w0 w1
  unfold maxLen at hl0 hl1
  by_cases h1 : 1048576 < len0
  · clear hL
    go_enter Tryd.func3, Tryd.ntmps3
    go_wp2
    go_ret
    exact ⟨rfl, Below.refl _ _⟩
  by_cases h2 : 1048576 < len1
  · clear hL
    go_enter Tryd.func3, Tryd.ntmps3
    go_wp2
    go_ret
    exact ⟨rfl, Below.refl _ _⟩
  have hgw : 0 < w.heap.size := World.block_lt_of_cell? w _ hL.1
  have hTm : Hid (∀ W, Below w.heap.size w W → Tim W ∧ 0 < W.heap.size) := fun W hb => ⟨hL.kept (hb.block _ hgw), Nat.lt_of_lt_of_le hgw hb.size⟩
  have hBD := hid (blocksdrawn_any a0 len0 cap0 w hc0 (by omega))
  have hCd : Hid (∀ W, Below w.heap.size w W → CodeAt W W.heap.size a1 len1) := fun W hb => hc1.below hb hb.size
  have hAt : Hid (∀ W, Below w.heap.size w W → ∀ i n : Int, 0 ≤ i → i ≤ 1000000 → n ≤ 1000000000 → Calls Tryd.prog 12 #[.slice a1 len1 cap1, .int .i64 i, .int .i64 n] W fun e w' => (∃ v : Int, e = .returned (.int .i64 v) ∧ 0 ≤ v ∧ (n ≤ 1 → v = 0) ∧ (2 ≤ n → v < n)) ∧ Below W.heap.size W w') := fun W hb i n q1 q2 q3 => at_any a1 len1 cap1 i n W.heap.size W (hCd.out W hb) (by omega) q1 q2 q3
  clear hc0 hc1 hl0 hl1 hL hgw hCd
  go_enter Tryd.func3, Tryd.ntmps3
  go_wp2_with fail
  refine hBD.out.mono ?_
  rintro e w1 ⟨v, l, rfl, hl3, hok, hown, hb1⟩
  obtain ⟨a5, c5, hv5, hR5⟩ : ∃ a cap, v = .slice a l.length cap ∧ BkR w1 a l := (mks_of hown).read
  subst hv5
  obtain ⟨et2, hokT, hsN, hTl, hT0⟩ := tape_facts hl3 hok
  have hsm : ∀ x ∈ l, x.2.size ≤ maxLen := fun x hx => by
    have := ((okB_iff _ _).1 (hok x hx)).2
    unfold maxLen
    omega
  have hNw := hid (newd_impl a5 c5 l w1 hR5 (by omega) hsm (hTm.out w1 hb1).1 (hTm.out w1 hb1).2)
  have en : new2 l = (⟨tpN l l.length, 0, (tpN l l.length).getD 0 0, false, false⟩, 0) := by
    rw [new2_ok (by rw [et2]), et2, goto0]
  rw [en] at hNw
  obtain ⟨T, hT⟩ : ∃ T, tpN l l.length = T := ⟨_, rfl⟩
  rw [hT] at hNw hokT hsN hTl hT0
  have hall : allP T = true := by
    unfold okPl at hokT
    exact (Bool.and_eq_true _ _ ▸ hokT).1
  have hLn := hid (fun W a c hh => lengthof_impl a c T W hh (by omega))
  have el : len2 T = (sumN T T.length, 0) := by unfold len2; rw [if_neg (by omega), if_pos hall]
  rw [el] at hLn
  have hTm2 : T.length ≤ 1048576 := by omega
  have hEd := hid (fun h0 : 0 < T.length => edges_of hokT h0 hsN)
  have hPn := hid (fun h0 : T.length = 0 => play_none hokT h0)
  have hok0 := hid (new_ok hokT)
  have hN0 : 0 ≤ sumN T T.length := (sumN_bd hall _ (Nat.le_refl _)).1
  have hsb : Hid (∀ k, k ≤ T.length → 0 ≤ sumN T k ∧ sumN T k ≤ sumN T T.length) := fun k hk => ⟨(sumN_bd hall k hk).1, sumN_mono hokT hk (Nat.le_refl _)⟩
  obtain ⟨T0, hT00⟩ : ∃ T0, T.getD 0 0 = T0 := ⟨_, rfl⟩
  obtain ⟨N, hNN⟩ : ∃ N, sumN T T.length = N := ⟨_, rfl⟩
  rw [hNN] at hLn hsN hN0 hsb
  rw [hT00] at hNw hok0
  replace hNN := hid hNN
  replace hT00 := hid hT00
  have S1 := hid ((StD.nil w).below hb1)
  have hPl := hid (fun W a c hh => play_impl a c ⟨T, 0, T0, false, false⟩ W hh hTm2)
  have hDk := hid (fun W a c hh => deckok_impl a c ⟨T, 0, T0, false, false⟩ W hh)
  rw [hok0.out] at hDk
  clear et2 en hT hokT hall el hsm hok hown hb1 hR5 hBD
  go_wp2_with fail
  refine (hNw.out).mono ?_
  rintro e w2 ⟨v2, rfl, hG⟩
  have S2 := S1.out.row hG.bel (OwnI.of hG)
  obtain ⟨a2, c2, rfl⟩ := hG.form
  have S2b := S2.box #[.slice a2 T.length c2, .int .i64 0, .int .i64 T0, .bool false, .bool false] 27
  obtain ⟨b2, hb2⟩ : ∃ b, w2.heap.size = b := ⟨_, rfl⟩
  obtain ⟨V2, hV2⟩ : ∃ W, w2.alloc (.cells #[.slice a2 T.length c2, .int .i64 0, .int .i64 T0, .bool false, .bool false] 27) = W := ⟨_, rfl⟩
  rw [hb2, hV2] at S2b
  replace hV2 := hid hV2
  clear hG S2 S1 hNw
  go_upto_region 5 with fail
  (try rw [hb2])
  rw [hV2.out]
  clear hb2 hV2
  have S2 := hid S2b
  clear S2b
  have x2 := (S2.out.at 0 rfl).cell
  go_wp2_with fail
  refine (hLn.out _ _ _ (S2.out.own 1 rfl)).mono ?_
  rintro e w' ⟨rfl, hww⟩
  obtain rfl := hww.symm
  clear hLn
  have h00 : Hid (T.length = 0) ∨ Hid (¬ T.length = 0) := by by_cases h : T.length = 0; exact .inl h; exact .inr h
  rcases h00 with h0 | h0
  · have hP := hid (fun W a c hh => hPl.out W a c hh)
    have eP := hPn.out h0.out |> fun h => by rw [hT00.out] at h; exact h
    rw [eP] at hP
    clear eP hPl
    go_wp2_with fail
    refine (hP.out _ _ _ (S2.out.own 1 rfl)).mono ?_
    rintro e w3 ⟨v3, rfl, hG⟩
    have S3 := S2.out.row hG.bel (OwnI.of hG)
    obtain ⟨a3, c3, rfl⟩ := hG.form
    have S3b := S3.box #[.slice a3 T.length c3, .int .i64 0, .int .i64 T0, .bool false, .bool false] 27
    obtain ⟨b3, hb3⟩ : ∃ b, w3.heap.size = b := ⟨_, rfl⟩
    obtain ⟨V3, hV3⟩ : ∃ W, w3.alloc (.cells #[.slice a3 T.length c3, .int .i64 0, .int .i64 T0, .bool false, .bool false] 27) = W := ⟨_, rfl⟩
    rw [hb3, hV3] at S3b
    replace hV3 := hid hV3
    clear hG S3 S2 x2 hP
    go_upto_region 7 with fail
    (try rw [hb3])
    rw [hV3.out]
    clear hb3 hV3
    have S3 := hid S3b
    clear S3b
    have x2 := (S3.out.at 2 rfl).cell
    go_wp2_with fail
    refine (hDk.out _ _ _ (S3.out.own 3 rfl)).mono ?_
    rintro e w4 ⟨rfl, hb⟩
    have S4 := hid (S3.out.below hb)
    clear hb S3 x2 hDk
    have x2 := (S4.out.at 2 rfl).cell
    have hl00 : (l.length : Int) = 0 := by have := hT0.2 h0.out; omega
    have hTl0 : (T.length : Int) = 0 := by have := h0.out; omega
    have hBe := hid S4.out.bel
    clear S4 hT0
    have hbl : ((l.length : Int) == 0) = true := by rw [beq_iff_eq]; exact hl00
    have hbT : ((T.length : Int) == 0) = true := by rw [beq_iff_eq]; exact hTl0
    clear hl00 hTl0 h0
    go_wp2
    go_ret
    exact ⟨rfl, hBe.out⟩
  have hT1 : 0 < T.length := by have := h0.out; omega
  have hEd2 := hEd.out hT1
  rw [hNN.out] at hEd2
  have f1 := hEd2.play
  have f2 := hEd2.run
  have f3 := hEd2.last
  have f4 := hEd2.rew
  have f5 := hEd2.again
  have f6 := hEd2.some
  rw [hT00.out] at f1 f2 f4 f6
  have hsm2 := hid (same_self hok0.out)
  obtain ⟨LY, hLY⟩ : ∃ LY, decide ((T.length - 1) % 2 = 1) = LY := ⟨_, rfl⟩
  obtain ⟨LZ, hLZ⟩ : ∃ LZ, (!LY) = LZ := ⟨_, rfl⟩
  obtain ⟨n1, hn1⟩ : ∃ n1 : Int, (T.length : Int) - 1 = n1 := ⟨_, rfl⟩
  rw [hLY] at f2 f3 f4 f5
  rw [hLZ] at f3 f4 f5
  rw [hn1] at f2 f3
  have hR1 := hid (fun W a c hh => rund_impl a c ⟨T, 0, T0, false, true⟩ (N - 1) W hh hTm2)
  have hR2 := hid (fun W a c hh => rund_impl a c ⟨T, n1, 1, LY, true⟩ 1 W hh hTm2)
  have hRw := hid (fun W a c hh => rew_impl a c ⟨T, (T.length : Int), 0, LZ, false⟩ W hh hTm2)
  have hP2 := hid (fun W a c hh => play_impl a c ⟨T, (T.length : Int), 0, LZ, false⟩ W hh hTm2)
  have hR3 := hid (fun k (hk : k < T.length) W a c hh => by
    have := rund_impl a c ⟨T, 0, T0, false, true⟩ (sumN T k) W hh hTm2
    rw [f6 k hk] at this
    exact this)
  have hSa := hid (fun W a c a' c' hh hh' => samed_impl a a' c c' ⟨T, 0, T0, false, false⟩ ⟨T, 0, T0, false, false⟩ W hh hh' hTm2 hTm2)
  rw [f2] at hR1
  rw [f3] at hR2
  rw [f4] at hRw
  rw [f5] at hP2
  rw [hsm2.out] at hSa
  have f1h := hid f1
  have hn1h : Hid ((T.length : Int) - 1 = n1) := hn1
  clear f1 f2 f3 f4 f5 f6 hEd2 hEd hPn hLY hLZ hsm2 hn1
  have hP := hid (fun W a c hh => hPl.out W a c hh)
  have eP := f1h.out
  rw [eP] at hP
  clear eP hPl
  go_wp2_with fail
  refine (hP.out _ _ _ (S2.out.own 1 rfl)).mono ?_
  rintro e w3 ⟨v3, rfl, hG⟩
  have S3 := S2.out.row hG.bel (OwnI.of hG)
  obtain ⟨a3, c3, rfl⟩ := hG.form
  have S3b := S3.box #[.slice a3 T.length c3, .int .i64 0, .int .i64 T0, .bool false, .bool true] 27
  obtain ⟨b3, hb3⟩ : ∃ b, w3.heap.size = b := ⟨_, rfl⟩
  obtain ⟨V3, hV3⟩ : ∃ W, w3.alloc (.cells #[.slice a3 T.length c3, .int .i64 0, .int .i64 T0, .bool false, .bool true] 27) = W := ⟨_, rfl⟩
  rw [hb3, hV3] at S3b
  replace hV3 := hid hV3
  clear hG S3 S2 x2 hP
  go_upto_region 7 with fail
  (try rw [hb3])
  rw [hV3.out]
  clear hb3 hV3
  have S3 := hid S3b
  clear S3b
  have x2 := (S3.out.at 2 rfl).cell
  go_wp2_with fail
  refine (hDk.out _ _ _ (S3.out.own 3 rfl)).mono ?_
  rintro e w4 ⟨rfl, hb⟩
  have S4 := hid (S3.out.below hb)
  clear hb S3 x2 hDk
  have hl00 : ((l.length : Int) == 0) = false := by
    rw [beq_eq_false_iff_ne]
    intro h
    exact h0.out (hT0.1 (by omega))
  have x3 := (S4.out.at 0 rfl).cell
  clear hT0
  go_wp2_with fail
  refine (hR1.out _ _ _ (S4.out.own 1 rfl)).mono ?_
  rintro e w5 ⟨v5, rfl, hG⟩
  have S5 := S4.out.row hG.bel (OwnI.of hG)
  obtain ⟨a5, c5, rfl⟩ := hG.form
  have S5b := S5.box #[.slice a5 T.length c5, .int .i64 n1, .int .i64 1, .bool LY, .bool true] 27
  obtain ⟨b5, hb5⟩ : ∃ b, w5.heap.size = b := ⟨_, rfl⟩
  obtain ⟨V5, hV5⟩ : ∃ W, w5.alloc (.cells #[.slice a5 T.length c5, .int .i64 n1, .int .i64 1, .bool LY, .bool true] 27) = W := ⟨_, rfl⟩
  rw [hb5, hV5] at S5b
  replace hV5 := hid hV5
  clear hG S5 S4 x3 hR1
  go_upto_region 12 with fail
  (try rw [hb5])
  rw [hV5.out]
  clear hb5 hV5
  have S5 := hid S5b
  clear S5b
  have x5 := (S5.out.at 0 rfl).cell
  go_wp2_with fail
  refine (hR2.out _ _ _ (S5.out.own 1 rfl)).mono ?_
  rintro e w6 ⟨v6, rfl, hG⟩
  have S6 := S5.out.row hG.bel (OwnI.of hG)
  obtain ⟨a6, c6, rfl⟩ := hG.form
  have S6b := S6.box #[.slice a6 T.length c6, .int .i64 (T.length : Int), .int .i64 0, .bool LZ, .bool false] 27
  obtain ⟨b6, hb6⟩ : ∃ b, w6.heap.size = b := ⟨_, rfl⟩
  obtain ⟨V6, hV6⟩ : ∃ W, w6.alloc (.cells #[.slice a6 T.length c6, .int .i64 (T.length : Int), .int .i64 0, .bool LZ, .bool false] 27) = W := ⟨_, rfl⟩
  rw [hb6, hV6] at S6b
  replace hV6 := hid hV6
  clear hG S6 S5 x5 hR2
  go_upto_region 13 with fail
  (try rw [hb6])
  rw [hV6.out]
  clear hb6 hV6
  have S6 := hid S6b
  clear S6b
  have x6 := (S6.out.at 0 rfl).cell
  go_wp2_with fail
  refine (hRw.out _ _ _ (S6.out.own 1 rfl)).mono ?_
  rintro e w7 ⟨v7, rfl, hG⟩
  have S7 := S6.out.row hG.bel (OwnI.of hG)
  obtain ⟨a7, c7, rfl⟩ := hG.form
  have S7b := S7.box #[.slice a7 T.length c7, .int .i64 0, .int .i64 T0, .bool false, .bool false] 27
  obtain ⟨b7, hb7⟩ : ∃ b, w7.heap.size = b := ⟨_, rfl⟩
  obtain ⟨V7, hV7⟩ : ∃ W, w7.alloc (.cells #[.slice a7 T.length c7, .int .i64 0, .int .i64 T0, .bool false, .bool false] 27) = W := ⟨_, rfl⟩
  rw [hb7, hV7] at S7b
  replace hV7 := hid hV7
  clear hG S7 S6 x6 hRw
  go_upto_region 14 with fail
  (try rw [hb7])
  rw [hV7.out]
  clear hb7 hV7
  have S7 := hid S7b
  clear S7b
  have x6 := (S7.out.at 2 rfl).cell
  go_wp2_with fail
  refine (hP2.out _ _ _ (S7.out.own 3 rfl)).mono ?_
  rintro e w8 ⟨v8, rfl, hG⟩
  have S8 := S7.out.row hG.bel (OwnI.of hG)
  obtain ⟨a8, c8, rfl⟩ := hG.form
  have S8b := S8.box #[.slice a8 T.length c8, .int .i64 (T.length : Int), .int .i64 0, .bool LZ, .bool false] 27
  obtain ⟨b8, hb8⟩ : ∃ b, w8.heap.size = b := ⟨_, rfl⟩
  obtain ⟨V8, hV8⟩ : ∃ W, w8.alloc (.cells #[.slice a8 T.length c8, .int .i64 (T.length : Int), .int .i64 0, .bool LZ, .bool false] 27) = W := ⟨_, rfl⟩
  rw [hb8, hV8] at S8b
  replace hV8 := hid hV8
  clear hG S8 S7 x6 hP2
  go_upto_region 15 with fail
  (try rw [hb8])
  rw [hV8.out]
  clear hb8 hV8
  have S8 := hid S8b
  clear S8b
  have x2 := (S8.out.at 10 rfl).cell
  go_wp2_with fail
  refine (hAt.out _ S8.out.bel 0 (T.length : Int) (by omega) (by omega) (by omega)).mono ?_
  rintro e w9 ⟨⟨kk, rfl, k0, k1, k2⟩, hb⟩
  obtain ⟨k, rfl⟩ : ∃ k : Nat, kk = (k : Int) := ⟨kk.toNat, by omega⟩
  have hkT : k < T.length := by
    by_cases h1 : (T.length : Int) ≤ 1
    · have := k1 h1
      omega
    · have := k2 (by omega)
      omega
  have S9 := hid (S8.out.below hb)
  have hR9 := hid (hR3.out k hkT)
  clear hb S8 x2 k0 k1 k2 hAt hR3
  obtain ⟨SK, hSK⟩ : ∃ SK, sumN T k = SK := ⟨_, rfl⟩
  rw [hSK] at hR9
  replace hSK := hid hSK
  have rr9 := hid (S9.out.own 11 rfl)
  have x2 := (S9.out.at 10 rfl).cell
  have hkb : (k : Int) ≤ 1000000 := by omega
  go_upto_region 18 with fail
  go_loop [23, 24] (fun sv iv => ∃ j : Nat, j ≤ k ∧ iv = .int .i64 (j : Int) ∧ sv = .int .i64 (sumN T j)) (fun _ iv => k - (intOf iv).toNat)
  case atStart => exact ⟨0, by omega, rfl, rfl⟩
  case round =>
    obtain ⟨j, hj, rfl, rfl⟩ := hrel
    by_cases hlt : j < k
    · obtain ⟨g, off, rfl, xj⟩ := rr9.out.at (show j < T.length by omega)
      obtain ⟨hs1, hs2⟩ := hsb.out j (by omega)
      have hs3 := hsb.out (j + 1) (by omega)
      have hsE : Hid (sumN T (j + 1) = sumN T j + T.getD j 0) := rfl
      rw [hsE.out] at hs3
      have hjT : (j : Int) < (T.length : Int) := by omega
      generalize T.getD j 0 = Xj at *
      obtain ⟨sj, hsj⟩ : ∃ s, sumN T j = s := ⟨_, rfl⟩
      rw [hsj] at hs1 hs2 hs3 hsE ⊢
      obtain ⟨hs4, hs5⟩ := hs3
      clear hsj
      go_wp2
      go_round
      case rel => exact ⟨j + 1, by omega, by go_num, by rw [hsE.out]⟩
      case measure => simp [intOf]; omega
    · obtain rfl : j = k := by omega
      rw [hSK.out]
      have x3 := (S9.out.at 8 rfl).cell
      clear x2
      go_wp2_with fail
      refine (hR9.out _ _ _ (S9.out.own 9 rfl)).mono ?_
      rintro e w10 ⟨v10, rfl, hG⟩
      have S10 := S9.out.row hG.bel (OwnI.of hG)
      obtain ⟨a10, c10, rfl⟩ := hG.form
      have hS10 := hid S10
      have hal : Hid (∀ o, StD w (w10.alloc o) _) := fun o => S10.below ((Below.refl _ _).alloc (Nat.le_refl _) o)
      have x2 := (hS10.out.at 11 rfl).cell
      have x5 := (hS10.out.at 7 rfl).cell
      have x6 := (hS10.out.at 5 rfl).cell
      have x7 := (hS10.out.at 3 rfl).cell
      have o2 := (hS10.out.at 11 rfl).lt
      have o5 := (hS10.out.at 7 rfl).lt
      have o6 := (hS10.out.at 5 rfl).lt
      have o7 := (hS10.out.at 3 rfl).lt
      obtain ⟨LK, hLK⟩ : ∃ LK, decide (j % 2 = 1) = LK := ⟨_, rfl⟩
      rw [hLK]
      have hLK2 : ((j : Int).tmod 2 == 1) = LK := by
        rw [← hLK, Bool.eq_iff_iff, beq_iff_eq, decide_eq_true_eq, Int.tmod_eq_emod_of_nonneg (by omega)]
        omega
      have hLK3 : ((j : Int) % 2 == 1) = LK := by
        rw [← hLK, Bool.eq_iff_iff, beq_iff_eq, decide_eq_true_eq]
        omega
      have hn1 := hn1h.out
      obtain ⟨TJ, hTJ⟩ : ∃ z, T.getD j 0 = z := ⟨_, rfl⟩
      rw [hTJ]
      clear hTJ
      have qv := hid (Blk.new w10 #[.slice a10 T.length c10, .int .i64 (j : Int), .int .i64 TJ, .bool LK, .bool true] 27)
      clear hG S10 S9 x3 hS10 hLK
      go_wp2_with fail
      refine (hSa.out _ _ _ _ _ ((hal.out _).own 4 rfl) ((hal.out _).own 12 rfl)).mono ?_
      rintro e w12 ⟨rfl, hb⟩
      have hBe := hid (new_trans (hal.out _).bel hb)
      have xv := (qv.out.below hb qv.out.lt).cell
      clear hb hal x2 x5 x6 x7 o2 o5 o6 o7
      go_wp2
      go_ret
      exact ⟨rfl, hBe.out⟩

theorem door_met (os : Os) (args : Array Value) : laidMetH Tryd.prog Rows.fnEdgesRow.laid ((World.doorLaid Tryd.prog 400 os).forCall (fun _ _ => 0) ⟨#[], args, []⟩).memory :=
  laidMetH_of_parts3 (fuel := 8) (laidMet_of_run' 8 (by kernel_rfl) (by kernel_rfl)) (by kernel_rfl) (by kernel_rfl)

set_option maxRecDepth 100000 in
theorem lifted (os : Os) (started : os.Started) (H : Type) (enc : TypeId × Value → H) :
    ReturnsInHanded {} Tryd.checked os 3 .any (fun w args => (Rows.fnEdgesSpec.pre enc Tryd.prog Tryd.f3 [] false w args ∧ laidMetH Tryd.prog Rows.fnEdgesRow.laid w) ∧ sizedMet enc Tryd.prog Tryd.f3 (OpenSpec.ofChange Rows.fnEdgesSpec) false w args)
      (Rows.fnEdgesSpec.post enc Tryd.prog Tryd.f3 false true false false) := by
  refine returnsInHanded_of_change_and (C := Tryd.checked) (X := fun w _ => laidMetH Tryd.prog Rows.fnEdgesRow.laid w) (fun _ _ _ hh h => h.of_heap hh) own started (by kernel_rfl) Tryd.func3
    (ChangeSpec.witness_shaped (enc := enc) (C := Tryd.checked) (os := os) (X := fun w _ => laidMetH Tryd.prog Rows.fnEdgesRow.laid w) false (World.doorLaid Tryd.prog 400 os) #[.slice none 0 0, .slice none 0 0] 8 rfl (World.shaped_of_RefB (by kernel_rfl) (by kernel_rfl)) (by kernel_rfl) (by kernel_rfl) (by kernel_rfl) (door_met os _)) ?_
  intro W base args ds gs before hval0 hW _ _ hL _
  have hval : ∀ (j : Nat) t v, Tryd.f3.params[j]? = some t → args[j]? = some v → Value.okWide Tryd.prog W .any base t v := hval0
  have hW' := hW
  obtain ⟨p, q, hA0, hV, hbefore, hfz, hnd⟩ := hW
  have hA : DataW.TrodAll enc Tryd.prog W 0 (fun _ => true) true Tryd.f3.params.toList args.toList ds p := hA0
  rw [Tryd.params3] at hA hval
  obtain ⟨v0, vs0, d0, ds0, p0, q0, hargs, rfl, rfl, h0, r0⟩ := trodAll_cons hA
  obtain ⟨v1, vs1, d1, ds1, p1, q1, rfl, rfl, rfl, h1, r1⟩ := trodAll_cons r0
  obtain ⟨rfl, rfl, rfl⟩ := trodAll_nil r1
  obtain rfl : args = #[v0, v1] := by cases args; simp_all
  obtain ⟨g0, rfl⟩ := vars1_form hV
  obtain ⟨a0, len0, cap0, rfl⟩ := okWide_slice Tryd.underlying22 (hval 0 22 v0 rfl rfl)
  have k0 := h0
  have lt0 : ∀ x ∈ p0, x.block < W.heap.size := by obtain ⟨m, hm⟩ := k0; exact DataW.trod_lt m _ _ _ hm
  obtain ⟨z0, w0⟩ : ∃ zs, IsRow .u8 W a0 len0 cap0 zs := by
    obtain ⟨fuel, hf⟩ := h0
    rcases open_ints Tryd.underlying22 Tryd.underlying5 (by kernel_rfl) hf with ⟨hcs, _⟩ | ⟨x, l, c, zs, hcs, _, hl, hm, hz, _, hcell, hwz⟩
    · simp [Value.cells] at hcs
      obtain ⟨rfl, rfl, rfl⟩ := hcs
      exact ⟨[], .inl ⟨rfl, rfl, rfl, rfl⟩⟩
    · simp [Value.cells] at hcs
      obtain ⟨rfl, rfl, rfl⟩ := hcs
      exact ⟨zs, .inr ⟨_, rfl, hl, hm, by simpa using hz, hcell, hwz⟩⟩
  obtain ⟨a1, len1, cap1, rfl⟩ := okWide_slice Tryd.underlying22 (hval 1 22 v1 rfl rfl)
  have k1 := h1
  have lt1 : ∀ x ∈ p1, x.block < W.heap.size := by obtain ⟨m, hm⟩ := k1; exact DataW.trod_lt m _ _ _ hm
  obtain ⟨z1, w1⟩ : ∃ zs, IsRow .u8 W a1 len1 cap1 zs := by
    obtain ⟨fuel, hf⟩ := h1
    rcases open_ints Tryd.underlying22 Tryd.underlying5 (by kernel_rfl) hf with ⟨hcs, _⟩ | ⟨x, l, c, zs, hcs, _, hl, hm, hz, _, hcell, hwz⟩
    · simp [Value.cells] at hcs
      obtain ⟨rfl, rfl, rfl⟩ := hcs
      exact ⟨[], .inl ⟨rfl, rfl, rfl, rfl⟩⟩
    · simp [Value.cells] at hcs
      obtain ⟨rfl, rfl, rfl⟩ := hcs
      exact ⟨zs, .inr ⟨_, rfl, hl, hm, by simpa using hz, hcell, hwz⟩⟩
  clear hA0 hval0
  refine (walk a0 len0 cap0 z0 a1 len1 cap1 z1 W w0 w1 (tim_of hL)).mono fun e W' ⟨he, bel⟩ => ?_
  subst he
  exact ⟨_, rfl, _, _, _, [], _, _, hW', trodAll_mk1 (shut_bool Tryd.underlying4 _), (trodAll_cons_mk (Below.trod laidOut (by kernel_rfl) (of_decide_eq_true (by kernel_rfl)) k0 bel lt0) (trodAll_cons_mk (Below.trod laidOut (by kernel_rfl) (of_decide_eq_true (by kernel_rfl)) k1 bel lt1) trodAll_mk0)), Below.trodVars laidOut bel (by kernel_rfl) hV, bel.frame _, fun h => by cases h⟩

theorem said : Rows.FnEdgesSaid :=
  OpenClaim.holds_of_wide 3 Tryd.f3 rfl rfl rfl rfl rfl rfl rfl ⟨rfl, rfl, rfl, rfl, rfl⟩ rfl rfl rfl rfl rfl (by kernel_rfl) Tryd.func3 (by kernel_rfl)
    (of_decide_eq_true (by kernel_rfl)) (by unfold Func.isWrapper; first | (rw [if_pos (by decide +kernel)]; kernel_rfl) | (rw [if_neg (by decide +kernel)]; exact ⟨rfl, rfl⟩))
    (fun os started H enc _ => lifted os started H enc)

theorem card : Rows.FnEdgesCardSaid :=
  Claim7.holds_tied_plain_at .later [] _ _ _ _ said (fun _ h => by cases h) (by kernel_rfl) (fun _ h => by cases h) fnEdges_row_tie rfl ⟨rfl, rfl⟩ (by kernel_rfl) rfl
    (fun f fn hf hfn => by
      obtain rfl : f = 3 := Option.some.inj ((show Tryd.prog.funcNamed "loop.example/g00644/laws.FnEdges" = some 3 by kernel_rfl).symm.trans hf) |>.symm
      obtain rfl : fn = Tryd.f3 := (Option.some.inj (Tryd.func3.symm.trans hfn)).symm
      exact ⟨by kernel_rfl, fun j t ht => by
        rw [Tryd.params3] at ht
        have hm : t ∈ [22, 22] := by simpa using Array.mem_of_getElem? ht
        have hall : ([22, 22].all fun u => !Tryd.prog.wantsStandIn u) = true := by kernel_rfl
        exact (show Tryd.prog.wantsStandIn t = false by simpa using List.all_eq_true.1 hall t hm)⟩)
    (by kernel_rfl)
end Go.Proofs.YtohnddjijedfkaaDoor.fnEdges
namespace Go.Proofs.YtohnddjijedfkaaDoor
theorem fnEdges_holds : Rows.FnEdgesCardSaid := fnEdges.card
#print axioms fnEdges_holds
end Go.Proofs.YtohnddjijedfkaaDoor
