/- For all bytes the law FnPulses returns true: pulses of blocks give just these blocks, also where each pulse is one shorter or longer; the times of bits and the errors being as the program's text lays them. -/
import Derived.Test.YtakdhmlegickmaaDoorCards
import Derived.Test.YtakdhmlegickmaaDoorTie
import Derived.Test.YtakdhmlegickmaaDoorSrcv
import Derived.Test.YtakdhmlegickmaaDoorV02
import Derived.Test.YtakdhmlegickmaaDoorVrv
import Derived.Test.YtakdhmlegickmaaDoorVcv
import Derived.Test.YtakdhmlegickmaaDoorXev
import Derived.Test.YtakdhmlegickmaaDoorXlv
import Derived.Test.YtakdhmlegickmaaDoorXpv
import Derived.Test.YtakdhmlegickmaaDoorV46
import Derived.Test.YtakdhmlegickmaaDoorZgv
import Derived.Test.YtakdhmlegickmaaDoorV48
import Derived.Test.YtakdhmlegickmaaDoorZqv
import Derived.Test.YtakdhmlegickmaaDoorVuv
import Derived.WalkKit
import Derived.ProofKit
import Derived.OpenShut
import Derived.ShutString
import Derived.ChangeOld
import Derived.Below
import Derived.LaidMore
import Derived.OpenVars
import Derived.SevenTiedAt
import Derived.Stop.Joined
import Derived.Lib.SmallJoins
namespace Go.Proofs.YtakdhmlegickmaaDoor.fnPulses
open Go.ChangeShapes Go.WideShapes Go.ChangeAt Go.RowKit Go.Joins
open Go.ChangeMaps (open_string shut_string)
set_option linter.unusedVariables false

theorem own : ownKnob Tryd.prog.godebug = none := by kernel_rfl
theorem laidOut : laidOutB Tryd.prog = true := by kernel_rfl

def IsRow (k : IntKind) (w : World) (a : Option Addr) (len cap : Nat) (zs : List Int) : Prop :=
  (a = none ∧ len = 0 ∧ cap = 0 ∧ zs = []) ∨
  ∃ x, a = some x ∧ len ≤ cap ∧ cap ≤ maxLen ∧ zs.length = cap ∧ (∀ i, i < zs.length → w.cell? (x.add i) = some (.int k (zs.getD i 0))) ∧ ∀ n ∈ zs, (Lit.int k n).wf = true

set_option maxRecDepth 100000 in
set_option maxHeartbeats 16000000 in
theorem walk (a0 : Option Addr) (len0 cap0 : Nat) (z0 : List Int) (a1 : Option Addr) (len1 cap1 : Nat) (z1 : List Int) (w : World) (w0 : IsRow .u8 w a0 len0 cap0 z0) (w1 : IsRow .u8 w a1 len1 cap1 z1) (hL : (∃ e3 e4 e5 e6 e7 e8, ErrX w e3 e4 e5 e6 e7 e8) ∧ Tim w) :
    Calls Tryd.prog 4 #[.slice a0 len0 cap0, .slice a1 len1 cap1] w fun e w' => e = .returned (.bool true) ∧ Below w.heap.size w w' := by
  have hc0 := codeAt_of w0
  have hc1 := codeAt_of w1
  have hnn : ∀ (zs : List Int) (a : Option Addr) (len cap : Nat), IsRow .u8 w a len cap zs → len ≤ maxLen := by
    intro zs a len cap h
    rcases h with ⟨_, rfl, _, _⟩ | ⟨x, _, hl, hm, _⟩
    · exact Nat.zero_le _
    · omega
  have hl0 := hnn _ _ _ _ w0
  have hl1 := hnn _ _ _ _ w1
  clear hnn w0 w1
  unfold maxLen at hl0 hl1
  obtain ⟨⟨e3, e4, e5, e6, e7, e8, hE⟩, hT⟩ := hL
  by_cases h1 : 1048576 < len0
  · clear hE hT
    go_enter Tryd.func4, Tryd.ntmps4
    go_wp2
    go_ret
    exact ⟨rfl, Below.refl _ _⟩
  by_cases h2 : 1048576 < len1
  · clear hE hT
    go_enter Tryd.func4, Tryd.ntmps4
    go_wp2
    go_ret
    exact ⟨rfl, Below.refl _ _⟩
  have hgw : 3 < w.heap.size := World.block_lt_of_cell? w _ hT.1
  have hTm : Hid (∀ W, Below w.heap.size w W → Tim W ∧ 3 < W.heap.size) := fun W hb => ⟨hT.kept (hb.block _ hgw), Nat.lt_of_lt_of_le hgw hb.size⟩
  have hEx : Hid (∀ W, Below w.heap.size w W → ErrX W e3 e4 e5 e6 e7 e8) := fun W hb => hE.below hb
  have hBD := hid (blocksdrawn_any a0 len0 cap0 w hc0 (by omega))
  have hCd : Hid (∀ W, Below w.heap.size w W → CodeAt W W.heap.size a1 len1) := fun W hb => hc1.below hb hb.size
  have hAt : Hid (∀ W, Below w.heap.size w W → ∀ i n : Int, 0 ≤ i → i ≤ 1000000 → n ≤ 1000000000 → Calls Tryd.prog 11 #[.slice a1 len1 cap1, .int .i64 i, .int .i64 n] W fun e w' => (∃ v : Int, e = .returned (.int .i64 v) ∧ 0 ≤ v ∧ (n ≤ 1 → v = 0) ∧ (2 ≤ n → v < n)) ∧ Below W.heap.size W w') := fun W hb i n q1 q2 q3 => at_any a1 len1 cap1 i n W.heap.size W (hCd.out W hb) (by omega) q1 q2 q3
  clear hc0 hc1 hl0 hl1 hE hT hgw
  go_enter Tryd.func4, Tryd.ntmps4
  go_wp2_with fail
  refine hBD.out.mono ?_
  rintro e w1 ⟨v, l, rfl, hl3, hok, hown, hb1⟩
  obtain ⟨a5, c5, hv5, hR5⟩ : ∃ a cap, v = .slice a l.length cap ∧ BkR w1 a l := (mks_of hown).read
  subst hv5
  have hall : allL l = true := by
    rw [allL_yes (fun k hk => hok _ (getD_mem hk))]
    simpa using by omega
  have hsm : ∀ x ∈ l, x.2.size ≤ maxLen := fun x hx => by
    have := ((okB_iff _ _).1 (hok x hx)).2
    unfold maxLen
    omega
  have et2 : tp2 l = (tpN l l.length, 0) := by
    unfold tp2
    rw [if_neg (by omega), if_pos hall]
  have hTi := hid (fun W (h : BkR W a5 l) (hb : Below w.heap.size w W) => tapepulses_impl a5 c5 l W h (by omega) hsm (hTm.out W hb).1 (hTm.out W hb).2)
  have hTs := hid (fun W (h : BkR W a5 l) => tapepulses_spec a5 c5 l W h (by omega) hsm)
  rw [et2] at hTi hTs
  obtain ⟨hdec, hallp, hlen⟩ := dec_tape l hall (by omega)
  have hln2 : len2 (tpN l l.length) = (sumN (tpN l l.length) (tpN l l.length).length, 0) := by unfold len2; rw [if_neg (by omega), if_pos hallp]
  obtain ⟨TP, hTP⟩ : ∃ TP, tpN l l.length = TP := ⟨_, rfl⟩
  rw [hTP] at hTi hTs hdec hallp hlen hln2
  have hDe := hid (fun W a c (h : RowE W a c TP) (hb : Below w.heap.size w W) => decode_impl a c TP e3 e4 e5 e6 e7 e8 W h (by omega) (hEx.out W hb))
  have hLe := hid (fun W a c (h : RowR W (.slice a TP.length c) TP) => lengthof_impl a c TP W h (by omega))
  rw [hdec] at hDe
  rw [hln2] at hLe
  have hsb : Hid (∀ k, k ≤ TP.length → 0 ≤ sumN TP k ∧ sumN TP k ≤ 1000 * k) := sumN_bd hallp
  have hpa : Hid (∀ k, k < TP.length → 1 ≤ TP.getD k 0 ∧ TP.getD k 0 ≤ 1000) := fun k hk => all_at hallp hk
  have B1 := hid hb1
  replace hR5 := hid hR5
  clear hb1 hown hall hsm et2 hdec hallp hln2 hTP hok hBD
  dsimp only at hTi hTs hDe hLe
  go_wp2_with fail
  refine (hTi.out _ hR5.out B1.out).mono ?_
  rintro e w2 ⟨vp, rfl, hG⟩
  obtain ⟨ap, cp, rfl, hRp⟩ := RowE.of_grow hG
  have B2 := hid (new_trans B1.out hG.bel)
  have hR52 := hid (hR5.out.below hG.bel)
  replace hRp := hid hRp
  clear hG B1 hR5 hTi
  go_wp2_with fail
  refine (hTs.out _ hR52.out).mono ?_
  rintro e w3 ⟨vw, rfl, hG⟩
  have hRw := hid (OwnI.of hG).read
  obtain ⟨aw, cw, rfl⟩ := hG.form
  have B3 := hid (new_trans B2.out hG.bel)
  have hR53 := hid (hR52.out.below hG.bel)
  have hRp3 := hid (hRp.out.below hG.bel)
  clear hG B2 hR52 hTs hRp
  go_wp2_with fail
  refine (hDe.out _ _ _ hRp3.out B3.out).mono ?_
  rintro e w4 ⟨vb, rfl, hown, hb⟩
  obtain ⟨ab, cb, hvb, hRb⟩ : ∃ a cap, vb = .slice a l.length cap ∧ BkR w4 a l := (mks_of hown).read
  subst hvb
  have B4 := hid (new_trans B3.out hb)
  have hR54 := hid (hR53.out.below hb)
  have hRp4 := hid (hRp3.out.below hb)
  have hRw4 := hid (hRw.out.below hb)
  replace hRb := hid hRb
  clear hown hb B3 hR53 hRp3 hRw
  go_wp2_with fail
  refine (samei_yes _ _ TP _ hRp4.out.row hRw4.out (by omega)).mono ?_
  rintro e w5 ⟨rfl, n5, rfl⟩
  have hb : Below w4.heap.size w4 (w4.drewN n5) := Below.drewN w4 n5 _
  have B5 := hid (new_trans B4.out hb)
  have hR55 := hid (hR54.out.below hb)
  have hRp5 := hid (hRp4.out.below hb)
  have hRb5 := hid (hRb.out.below hb)
  obtain ⟨W5, hW5⟩ : ∃ W, w4.drewN n5 = W := ⟨_, rfl⟩
  rw [hW5] at B5 hR55 hRp5 hRb5 ⊢
  clear hb B4 hR54 hRp4 hRw4 hRb hW5
  go_wp2_with fail
  refine (same_yes _ _ _ _ l _ hRb5.out hR55.out (by omega)).mono ?_
  rintro e w6 ⟨rfl, hb⟩
  have B6 := hid (new_trans B5.out hb)
  have hRp6 := hid (hRp5.out.below hb)
  clear hb B5 hR55 hRp5 hRb5
  go_wp2_with fail
  refine (hAt.out _ B6.out 0 256 (by omega) (by omega) (by omega)).mono ?_
  rintro e w7 ⟨⟨F, rfl, hF0, _, hF1⟩, hb⟩
  have hF2 := hF1 (by omega)
  have B7 := hid (new_trans B6.out hb)
  have hRp7 := hid (hRp6.out.below hb)
  clear hb B6 hRp6 hF1
  go_wp2_with fail
  refine (hAt.out _ B7.out 1 9 (by omega) (by omega) (by omega)).mono ?_
  rintro e w8 ⟨⟨m0, rfl, hm0, _, hm1⟩, hb⟩
  have hm2 := hm1 (by omega)
  obtain ⟨m, rfl⟩ : ∃ m : Nat, m0 = (m : Int) := ⟨m0.toNat, by omega⟩
  have B8 := hid (new_trans B7.out hb)
  have hRp8 := hid (hRp7.out.below hb)
  have hTx := hid (text_any a1 len1 cap1 m w8 (hCd.out _ B8.out) (by omega) (by omega))
  clear hb B7 hRp7 hm1 hm0
  go_wp2_with fail
  refine hTx.out.mono ?_
  rintro e w9 ⟨⟨xs, rfl, hxl, _⟩, hb⟩
  have hDs : (strOfNums xs).size ≤ 8 := by rw [strOfNums_size, hxl]; omega
  obtain ⟨D, hD⟩ : ∃ D, strOfNums xs = D := ⟨_, rfl⟩
  rw [hD] at hDs ⊢
  have hokD : okB F D = true := (okB_iff F D).2 ⟨⟨by omega, by omega⟩, by omega⟩
  have ep2 : pls2 F D = (plsB F D, 0) := by unfold pls2; rw [hokD]; rfl
  have hPi := hid (fun W (hb : Below w.heap.size w W) => pulsesof_impl F D W (by unfold maxLen; omega) (hTm.out W hb).1 (hTm.out W hb).2)
  have hPs := hid (fun W => pulsesof_spec F D W (by unfold maxLen; omega))
  rw [ep2] at hPi hPs
  have hDn : Hid (∀ Q, Near Q (plsB F D) → ∀ W a c, RowE W a c Q → Below w.heap.size w W → Calls Tryd.prog 19 #[.slice a Q.length c] W fun e w' => ∃ v, e = .returned (.tuple #[v, .int .i64 0]) ∧ w'.ownsRow W.heap.size 33 2 v 1 (bkL [(F, D)]) ∧ Below W.heap.size W w') := fun Q hQ W a c h hb => by
    have hq := Near.len _ _ hQ
    have hq2 := plsB_len F D
    have hq3 := pilN_le F
    have := decode_impl a c Q e3 e4 e5 e6 e7 e8 W h (by omega) (hEx.out W hb)
    rw [dec_near F D hokD Q hQ] at this
    exact this
  have hPLl : 0 < (plsB F D).length ∧ (plsB F D).length ≤ 200 := by
    rw [plsB_len]
    have := pilN_le F
    omega
  have hPLr : Hid (∀ p, p ∈ plsB F D → 2 ≤ p ∧ p ≤ 999) := plsB_mem F D
  obtain ⟨PL, hPL⟩ : ∃ PL, plsB F D = PL := ⟨_, rfl⟩
  rw [hPL] at hPi hPs hDn hPLl hPLr
  have B9 := hid ((new_trans B8.out hb).alloc (new_trans B8.out hb).size (.cells (bkA F D) 33))
  have hRp9 := hid ((hRp8.out.below hb).below ((Below.refl w9.heap.size w9).alloc (Nat.le_refl _) (.cells (bkA F D) 33)))
  have q9 := hid (Blk.new w9 (bkA F D) 33)
  clear hb B8 hRp8 hTx hxl hD ep2 hPL hokD
  dsimp only at hPi hPs
  go_upto_region 10 with fail
  obtain ⟨W9, hW9⟩ : ∃ W, w9.alloc (.cells (bkA F D) 33) = W := ⟨_, rfl⟩
  obtain ⟨b9, hb9⟩ : ∃ b, w9.heap.size = b := ⟨_, rfl⟩
  rw [hW9] at B9 hRp9 q9 ⊢
  rw [hb9] at q9 ⊢
  clear hW9 hb9
  have x9 := q9.out.cell
  go_wp2_with fail
  refine (hPi.out _ B9.out).mono ?_
  rintro e w10 ⟨vq, rfl, hG⟩
  obtain ⟨gq, hgq, hOq⟩ := RowO.of_owns hG.own hPLl.1
  obtain ⟨cq, hvq, hcq⟩ : ∃ cap, vq = .slice (some ⟨gq, 0, none⟩) PL.length cap ∧ PL.length ≤ cap := by
    obtain ⟨_, ⟨_, h0⟩ | ⟨g', cap, _, h1, _, _, h4, _⟩⟩ := hG.own
    · omega
    · obtain ⟨c2, _, _, h5, _⟩ := id hOq
      rw [h1] at h5
      cases h5
      exact ⟨cap, h1, h4⟩
  subst hvq
  have hB910 := hid hG.bel
  have B10 := hid (new_trans B9.out hG.bel)
  have q10 := hid (q9.out.below hG.bel q9.out.lt)
  have hgq9 : b9 ≠ gq := fun e => by have := q9.out.lt; omega
  replace hOq := hid hOq
  clear hG x9
  have x10 := q10.out.cell
  go_wp2_with fail
  refine (hPs.out _).mono ?_
  rintro e w11 ⟨vd, rfl, hG⟩
  obtain ⟨ad, cd, rfl⟩ := hG.form
  have hOq11 := hid (hOq.out.kept (hG.bel.block gq hOq.out.lt))
  have hB911 := hid (new_trans hB910.out hG.bel)
  clear hG x10 hOq hB910 B10 q10 hPs hPi
  have hgqw : w.heap.size ≤ gq := Nat.le_trans B9.out.size hgq
  obtain ⟨hPL0, hPL1⟩ := hPLl
  go_wp2
  go_loopw [17] (fun i wr => ∃ (k : Nat) (L : List Int), k ≤ PL.length ∧ i = .int .i64 k ∧ Bump PL L k ∧ RowO wr gq (.slice (some ⟨gq, 0, none⟩) PL.length cq) L ∧ Below W9.heap.size W9 wr) (fun i _ => PL.length - (intOf i).toNat)
  case atStart => exact ⟨0, PL, by omega, rfl, Bump.start PL, hOq11.out, hB911.out⟩
  case round =>
    obtain ⟨k, L, hk, rfl, hBu, hO, hbe⟩ := hrel
    clear hOq11 hB911
    by_cases hlt : k < PL.length
    · have hLl := hBu.len
      have x1 := hO.cell k (by omega)
      have hLk := hBu.rest k (Nat.le_refl _)
      have hpr := hPLr.out _ (getD_memI hlt)
      rw [hLk] at x1
      have hfr := hO.frozen k
      have hgl := hO.lt
      have hBw := new_trans B9.out hbe
      have hA3 : Hid (∀ W, Below w.heap.size w W → Calls Tryd.prog 11 #[.slice a1 len1 cap1, .int .i64 (k : Int), .int .i64 3] W fun e w' => (∃ v : Int, e = .returned (.int .i64 v) ∧ 0 ≤ v ∧ v < 3) ∧ Below W.heap.size W w') := fun W hb => (hAt.out W hb k 3 (by omega) (by omega) (by omega)).mono (by
        rintro e w' ⟨⟨v, rfl, g0, _, g1⟩, gb⟩
        exact ⟨⟨v, rfl, g0, g1 (by omega)⟩, gb⟩)
      have hst : Hid (∀ (w' : World) (v : Int), 0 ≤ v → v < 3 → Below wr.heap.size wr w' → Bump PL (L.set k (PL.getD k 0 + (v - 1))) (k + 1) ∧ RowO (w'.setCell ⟨gq, k, none⟩ (.int .i64 (PL.getD k 0 + (v - 1)))) gq (.slice (some ⟨gq, 0, none⟩) PL.length cq) (L.set k (PL.getD k 0 + (v - 1))) ∧ Below W9.heap.size W9 (w'.setCell ⟨gq, k, none⟩ (.int .i64 (PL.getD k 0 + (v - 1))))) := fun w' v g0 g1 gb => by
        refine ⟨hBu.step hlt _ (by omega), (hO.kept (gb.block gq hgl)).set k _, ?_⟩
        exact (new_trans hbe gb).setCell (p := ⟨gq, k, none⟩) hgq _
      generalize PL.getD k 0 = X at *
      replace hBw := hid hBw
      have hBwd : Hid (Below w.heap.size w wr.drew) := hBw.out.drew
      clear hBu hO hbe hLk
      go_wp2_with fail
      have hkI : (k : Int) < (PL.length : Int) := by omega
      have hk0 : (0 : Int) ≤ (k : Int) := by omega
      have hfac : Hid (∀ w' : World, Below wr.drew.heap.size wr.drew w' → w'.cell? ⟨gq, k, none⟩ = some (.int .i64 X) ∧ w'.frozen? ⟨gq, k, none⟩ = false ∧ gq < w'.heap.size) := fun w' hb => ⟨(hb.cell (p := ⟨gq, k, none⟩) hgl).trans x1, (hb.frozen (p := ⟨gq, k, none⟩) hgl).trans hfr, Nat.lt_of_lt_of_le hgl hb.size⟩
      go_region_with (go_at_call 11; refine (hA3.out _ hBwd.out).mono ?_; rintro e w' ⟨⟨v, rfl, g0, g1⟩, hb⟩; obtain ⟨x2, f2, l2⟩ := hfac.out _ hb; replace hb := hid hb; clear hfac hA3)
      all_goals
        have hr := hid (hst.out _ v g0 g1 (below_undrew hb.out))
        clear hst
        go_wp2
        go_roundw
        case rel => exact ⟨k + 1, _, by omega, by go_num, hr.out.1, hr.out.2.1, hr.out.2.2⟩
        case measure => simp [intOf] <;> omega
    · obtain rfl : k = PL.length := by omega
      have hnq : Near L PL := near_of L PL hBu.len (fun i hi => hBu.near i hi)
      have hRq : RowE wr (some ⟨gq, 0, none⟩) cq L := .inr ⟨gq, 0, rfl, by rw [hBu.len]; exact hcq, fun i hi => by rw [Nat.zero_add]; exact hO.cell i hi⟩
      have hLL := hBu.len
      have hDq := hid (hDn.out L hnq _ _ _ hRq (new_trans B9.out hbe))
      rw [hLL] at hDq
      have B12 := hid (new_trans B9.out hbe)
      have hRp12 := hid (hRp9.out.below hbe)
      have q12 := hid (q9.out.below hbe q9.out.lt)
      clear hBu hO hbe hnq hRq hDn hLL
      go_wp2_with fail
      refine hDq.out.mono ?_
      rintro e w13 ⟨vn, rfl, hown, hb⟩
      obtain ⟨an, cn, hvn, hRn⟩ : ∃ a cap, vn = .slice a 1 cap ∧ BkR w13 a [(F, D)] := (mks_of (l := [(F, D)]) hown).read
      subst hvn
      obtain ⟨gn, on, rfl, y1, y2⟩ := hRn.at (k := 0) (by simp)
      have B13 := hid (new_trans B12.out hb)
      have hRp13 := hid (hRp12.out.below hb)
      have q13 := hid (q12.out.below hb q12.out.lt)
      have y1' : Hid (w13.cell? ⟨gn, on, none⟩ = some (.int .i64 F)) := hid (by simpa using y1)
      have y2' : Hid (w13.cell? ⟨gn, on + 1, none⟩ = some (.string D)) := hid (by simpa using y2)
      clear hown hb hRn B12 hRp12 q12 hDq y1 y2
      go_wp2_with fail
      refine (hLe.out _ _ _ hRp13.out.row).mono ?_
      rintro e w14 ⟨rfl, hww⟩
      obtain rfl := hww.symm
      have hE : Hid (∀ k, sumN TP (k + 1) = sumN TP k + TP.getD k 0) := fun _ => rfl
      have h0 : Hid (sumN TP 0 = 0) := rfl
      have hcl : Hid (∀ k, k < TP.length → ∃ b off, ap = some ⟨b, off, none⟩ ∧ w13.cell? ⟨b, off + k, none⟩ = some (.int .i64 (TP.getD k 0))) := fun k hk => hRp13.out.row.at hk
      generalize hBN : sumN TP = BN at *
      clear hBN hLe
      go_wp2
      go_loop [22, 23] (fun s i => ∃ k : Nat, k ≤ TP.length ∧ i = .int .i64 k ∧ s = .int .i64 (BN k)) (fun _ i => TP.length - (intOf i).toNat)
      case atStart => exact ⟨0, by omega, rfl, by rw [h0.out]⟩
      case round =>
        obtain ⟨k, hk, rfl, rfl⟩ := hrel
        by_cases hlt : k < TP.length
        · obtain ⟨b, off, rfl, x1⟩ := hcl.out k hlt
          have hb1 := hsb.out k hk
          have hb2 := hpa.out k hlt
          have hE2 := hid (hE.out k)
          generalize TP.getD k 0 = X at *
          go_wp2
          go_round
          case rel => exact ⟨k + 1, by omega, by go_num, by rw [hE2.out]⟩
          case measure => simp [intOf] <;> omega
        · obtain rfl : k = TP.length := by omega
          have z1 := y1'.out
          have z2 := y2'.out
          have z3 := q13.out.cell
          clear hcl hE h0 hsb hpa
          go_wp2
          go_quiet (fail)
          go_wp2
          go_ret
          exact ⟨rfl, B13.out.trans ⟨rfl, rfl, rfl, Nat.le_refl _, fun _ _ => rfl⟩⟩

theorem door_met (os : Os) (args : Array Value) : laidMetH Tryd.prog Rows.fnPulsesRow.laid ((World.doorLaid Tryd.prog 400 os).forCall (fun _ _ => 0) ⟨#[], args, []⟩).memory :=
  laidMetH_of_parts3 (fuel := 8) (laidMet_of_run' 8 (by kernel_rfl) (by kernel_rfl)) (by kernel_rfl) (by kernel_rfl)

set_option maxRecDepth 100000 in
theorem lifted (os : Os) (started : os.Started) (H : Type) (enc : TypeId × Value → H) :
    ReturnsInHanded {} Tryd.checked os 4 .any (fun w args => (Rows.fnPulsesSpec.pre enc Tryd.prog Tryd.f4 [] false w args ∧ laidMetH Tryd.prog Rows.fnPulsesRow.laid w) ∧ sizedMet enc Tryd.prog Tryd.f4 (OpenSpec.ofChange Rows.fnPulsesSpec) false w args)
      (Rows.fnPulsesSpec.post enc Tryd.prog Tryd.f4 false true false false) := by
  refine returnsInHanded_of_change_and (C := Tryd.checked) (X := fun w _ => laidMetH Tryd.prog Rows.fnPulsesRow.laid w) (fun _ _ _ hh h => h.of_heap hh) own started (by kernel_rfl) Tryd.func4
    (ChangeSpec.witness_shaped (enc := enc) (C := Tryd.checked) (os := os) (X := fun w _ => laidMetH Tryd.prog Rows.fnPulsesRow.laid w) false (World.doorLaid Tryd.prog 400 os) #[.slice none 0 0, .slice none 0 0] 8 rfl (World.shaped_of_RefB (by kernel_rfl) (by kernel_rfl)) (by kernel_rfl) (by kernel_rfl) (by kernel_rfl) (door_met os _)) ?_
  intro W base args ds gs before hval0 hW _ _ hL _
  have hval : ∀ (j : Nat) t v, Tryd.f4.params[j]? = some t → args[j]? = some v → Value.okWide Tryd.prog W .any base t v := hval0
  have hW' := hW
  obtain ⟨p, q, hA0, hV, hbefore, hfz, hnd⟩ := hW
  have hA : DataW.TrodAll enc Tryd.prog W 0 (fun _ => true) true Tryd.f4.params.toList args.toList ds p := hA0
  rw [Tryd.params4] at hA hval
  obtain ⟨v0, vs0, d0, ds0, p0, q0, hargs, rfl, rfl, h0, r0⟩ := trodAll_cons hA
  obtain ⟨v1, vs1, d1, ds1, p1, q1, rfl, rfl, rfl, h1, r1⟩ := trodAll_cons r0
  obtain ⟨rfl, rfl, rfl⟩ := trodAll_nil r1
  obtain rfl : args = #[v0, v1] := by cases args; simp_all
  obtain ⟨g0, g1, g2, g3, g4, g5, g6, g7, g8, rfl⟩ := vars9_form hV
  obtain ⟨a0, len0, cap0, rfl⟩ := okWide_slice Tryd.underlying22 (hval 0 22 v0 rfl rfl)
  have k0 := h0
  have lt0 : ∀ x ∈ p0, x.block < W.heap.size := by obtain ⟨m, hm⟩ := k0; exact DataW.trod_lt m _ _ _ hm
  obtain ⟨z0, w0⟩ : ∃ zs, IsRow .u8 W a0 len0 cap0 zs := by
    obtain ⟨fuel, hf⟩ := h0
    rcases open_ints Tryd.underlying22 Tryd.underlying5 (by kernel_rfl) hf with ⟨hcs, _⟩ | ⟨x, l, c, zs, hcs, _, hl, hm, hz, _, hcell, hwz⟩
    · simp [Value.cells] at hcs
      obtain ⟨rfl, rfl, rfl⟩ := hcs
      exact ⟨[], .inl ⟨rfl, rfl, rfl, rfl⟩⟩
    · simp [Value.cells] at hcs
      obtain ⟨rfl, rfl, rfl⟩ := hcs
      exact ⟨zs, .inr ⟨_, rfl, hl, hm, by simpa using hz, hcell, hwz⟩⟩
  obtain ⟨a1, len1, cap1, rfl⟩ := okWide_slice Tryd.underlying22 (hval 1 22 v1 rfl rfl)
  have k1 := h1
  have lt1 : ∀ x ∈ p1, x.block < W.heap.size := by obtain ⟨m, hm⟩ := k1; exact DataW.trod_lt m _ _ _ hm
  obtain ⟨z1, w1⟩ : ∃ zs, IsRow .u8 W a1 len1 cap1 zs := by
    obtain ⟨fuel, hf⟩ := h1
    rcases open_ints Tryd.underlying22 Tryd.underlying5 (by kernel_rfl) hf with ⟨hcs, _⟩ | ⟨x, l, c, zs, hcs, _, hl, hm, hz, _, hcell, hwz⟩
    · simp [Value.cells] at hcs
      obtain ⟨rfl, rfl, rfl⟩ := hcs
      exact ⟨[], .inl ⟨rfl, rfl, rfl, rfl⟩⟩
    · simp [Value.cells] at hcs
      obtain ⟨rfl, rfl, rfl⟩ := hcs
      exact ⟨zs, .inr ⟨_, rfl, hl, hm, by simpa using hz, hcell, hwz⟩⟩
  clear hA0 hval0
  refine (walk a0 len0 cap0 z0 a1 len1 cap1 z1 W w0 w1 (errxt_of hL)).mono fun e W' ⟨he, bel⟩ => ?_
  subst he
  exact ⟨_, rfl, _, _, _, [], _, _, hW', trodAll_mk1 (shut_bool Tryd.underlying4 _), (trodAll_cons_mk (Below.trod laidOut (by kernel_rfl) (of_decide_eq_true (by kernel_rfl)) k0 bel lt0) (trodAll_cons_mk (Below.trod laidOut (by kernel_rfl) (of_decide_eq_true (by kernel_rfl)) k1 bel lt1) trodAll_mk0)), Below.trodVars laidOut bel (by kernel_rfl) hV, bel.frame _, fun h => by cases h⟩

theorem said : Rows.FnPulsesSaid :=
  OpenClaim.holds_of_wide 4 Tryd.f4 rfl rfl rfl rfl rfl rfl rfl ⟨rfl, rfl, rfl, rfl, rfl⟩ rfl rfl rfl rfl rfl (by kernel_rfl) Tryd.func4 (by kernel_rfl)
    (of_decide_eq_true (by kernel_rfl)) (by unfold Func.isWrapper; first | (rw [if_pos (by decide +kernel)]; kernel_rfl) | (rw [if_neg (by decide +kernel)]; exact ⟨rfl, rfl⟩))
    (fun os started H enc _ => lifted os started H enc)

theorem card : Rows.FnPulsesCardSaid :=
  Claim7.holds_tied_plain_at .later [] _ _ _ _ said (fun _ h => by cases h) (by kernel_rfl) (fun _ h => by cases h) fnPulses_row_tie rfl ⟨rfl, rfl⟩ (by kernel_rfl) rfl
    (fun f fn hf hfn => by
      obtain rfl : f = 4 := Option.some.inj ((show Tryd.prog.funcNamed "loop.example/g00644/laws.FnPulses" = some 4 by kernel_rfl).symm.trans hf) |>.symm
      obtain rfl : fn = Tryd.f4 := (Option.some.inj (Tryd.func4.symm.trans hfn)).symm
      exact ⟨by kernel_rfl, fun j t ht => by
        rw [Tryd.params4] at ht
        have hm : t ∈ [22, 22] := by simpa using Array.mem_of_getElem? ht
        have hall : ([22, 22].all fun u => !Tryd.prog.wantsStandIn u) = true := by kernel_rfl
        exact (show Tryd.prog.wantsStandIn t = false by simpa using List.all_eq_true.1 hall t hm)⟩)
    (by kernel_rfl)
end Go.Proofs.YtakdhmlegickmaaDoor.fnPulses
namespace Go.Proofs.YtakdhmlegickmaaDoor
theorem fnPulses_holds : Rows.FnPulsesCardSaid := fnPulses.card
#print axioms fnPulses_holds
end Go.Proofs.YtakdhmlegickmaaDoor
