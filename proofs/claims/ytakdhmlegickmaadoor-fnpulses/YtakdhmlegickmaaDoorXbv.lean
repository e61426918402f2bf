/- The bytes that are heard: the program. -/
import Derived.Test.YtakdhmlegickmaaDoorXav
import Derived.OwnWalk
import Derived.Deep.AppendLies
import Derived.Deep.DeepCutAuto
import Derived.WalkMore
namespace Go.Proofs.YtakdhmlegickmaaDoor
open Go.ChangeShapes Go.WideShapes Go.ChangeAt Go.RowKit
set_option linter.unusedVariables false
set_option linter.unusedSimpArgs false

def nextH (l : List Int) (n v : Nat) (acc : List Int) : List Int × Nat × List Int := if n = 8 then hear l 0 0 (acc ++ [(v : Int)]) else hear l n v acc
theorem nextH_step {x y : Int} {r : List Int} {n v : Nat} {acc : List Int} (hn : n < 8) (hx : x < 200) : nextH (x :: y :: r) n v acc = nextH r (n + 1) (2 * v + hbit x y) acc := by
  unfold nextH
  rw [if_neg (by omega), hear_pair, if_pos hx]
  by_cases h7 : n = 7
  · rw [if_pos h7, if_pos (by omega)]
  · rw [if_neg h7, if_neg (by omega)]
theorem nextH_end {l : List Int} {n v : Nat} {acc : List Int} (hn : n < 8) (h : ¬ (2 ≤ l.length ∧ l.getD 0 0 < 200)) : nextH l n v acc = (acc, n, l) := by
  unfold nextH
  rw [if_neg (by omega)]
  exact hear_end l n v acc (by omega)
theorem hbit_le (x y : Int) : hbit x y ≤ 1 := by unfold hbit; split <;> omega
/-- a list is what is left of another -/
def Suf (R L : List Int) : Prop := ∃ j, j ≤ R.length ∧ L = R.drop j
theorem Suf.drop {R L : List Int} (h : Suf R L) (n : Nat) (hn : n ≤ L.length) : Suf R (L.drop n) := by
  obtain ⟨j, hj, rfl⟩ := h
  rw [List.length_drop] at hn
  exact ⟨j + n, by omega, by rw [List.drop_drop]⟩
theorem Suf.len {R L : List Int} (h : Suf R L) : L.length ≤ R.length := by
  obtain ⟨j, hj, rfl⟩ := h
  rw [List.length_drop]
  omega
theorem Suf.ok {R L : List Int} (h : Suf R L) (ha : allP R = true) (k : Nat) (hk : k < L.length) : 1 ≤ L.getD k 0 ∧ L.getD k 0 ≤ 1000 := by
  obtain ⟨j, hj, rfl⟩ := h
  rw [List.length_drop] at hk
  rw [drop_getD]
  exact all_at ha (by omega)
theorem Suf.refl (R : List Int) : Suf R R := ⟨0, Nat.zero_le _, rfl⟩
def HbyR (w : World) (b : Nat) (R : List Int) (Z : List Int × Nat × List Int) (e8 : Addr) (s : ByteArray) (sv ev : Value) : Prop :=
  (Z.2.1 ≠ 0 ∧ ev = iE e8) ∨ (Z.2.1 = 0 ∧ ev = .nilIface ∧ s = strOfNums Z.1 ∧ ∃ off cap, Suf R Z.2.2 ∧ sv = .slice (some ⟨b, off, none⟩) Z.2.2.length cap ∧ RowC w b off cap Z.2.2)
def slen : Value → Nat
  | .slice _ n _ => n
  | _ => 0
theorem pow_le8 (n : Nat) (h : n ≤ 8) : 2 ^ n ≤ 256 := Nat.le_trans (Nat.pow_le_pow_right (by omega) h) (by decide)
set_option maxRecDepth 100000 in
set_option maxHeartbeats 4000000 in
theorem heardBytes_impl (b off cap : Nat) (R : List Int) (e8 : Addr) (w : World) (h : RowC w b off cap R) (hl : R.length ≤ 4096) (ha : allP R = true) (hE : w.cell? ⟨6, 0, none⟩ = some (iE e8)) :
    Calls Tryd.prog 90 #[.slice (some ⟨b, off, none⟩) R.length cap] w fun e w' => (∃ s sv ev, e = .returned (.tuple #[.string s, sv, ev]) ∧ HbyR w b R (hear R 0 0 []) e8 s sv ev) ∧ Below w.heap.size w w' := by
  obtain ⟨i0, hi0, hz0, hz1, hz2⟩ := info_parts infoU8
  have hgl : 6 < w.heap.size := World.block_lt_of_cell? w _ hE
  have hE' : Hid (∀ W, Below w.heap.size w W → W.cell? ⟨6, 0, none⟩ = some (iE e8)) := fun W hb => (hb.cell (p := ⟨6, 0, none⟩) hgl).trans hE
  clear hE
  obtain ⟨Z, hZ⟩ : ∃ Z, hear R 0 0 [] = Z := ⟨_, rfl⟩
  rw [hZ]
  replace hZ := hid hZ
  replace ha := hid ha
  replace h := hid h
  go_enter Tryd.func90, Tryd.ntmps90
  go_wp2
  go_step3
  go_wp2
  go_step3
  go_wp2
  go_loopw [0, 5] (fun t0 lv wr => ∃ (off cap : Nat) (L : List Int) (acc : List Int), t0 = .slice (some ⟨b, off, none⟩) L.length cap ∧ RowC w b off cap L ∧ Suf R L ∧ hear L 0 0 acc = Z ∧ acc.length + L.length ≤ 4096 ∧ wr.ownsRow w.heap.size 5 1 lv acc.length (acc.map (Value.int .u8)) ∧ Below w.heap.size w wr) (fun t0 _ _ => slen t0)
  case atStart => exact ⟨off, cap, R, [], rfl, h.out, Suf.refl R, hZ.out, by simp; omega, World.ownsRow_nil _ _ _ _, Below.refl _ _⟩
  case round =>
    obtain ⟨off1, cap1, L1, acc, rfl, hC1, hS1, hZ1, hle, hown, hbel⟩ := hrel
    clear hZ h
    have hN1 : Hid (nextH L1 0 0 acc = Z) := hZ1
    replace hC1 := hid hC1
    replace hS1 := hid hS1
    replace hown := hid hown
    replace hbel := hid hbel
    clear hZ1
    go_wp2
    go_loopw [0, 6, 8] (fun t0 vv pl wx => ∃ (off cap : Nat) (L : List Int) (n v : Nat), t0 = .slice (some ⟨b, off, none⟩) L.length cap ∧ RowC w b off cap L ∧ Suf R L ∧ nextH L n v acc = Z ∧ L.length + 2 * n = L1.length ∧ n ≤ 8 ∧ v < 2 ^ n ∧ vv = .int .i64 v ∧ pl = .int .i64 n ∧ wx.ownsRow w.heap.size 5 1 u5 acc.length (acc.map (Value.int .u8)) ∧ Below w.heap.size w wx) (fun _ _ pl _ => 8 - (intOf pl).toNat)
    case atStart => exact ⟨off1, cap1, L1, 0, 0, rfl, hC1.out, hS1.out, hN1.out, by omega, by omega, by decide, rfl, rfl, hown.out, hbel.out⟩
    case round =>
      obtain ⟨off2, cap2, L, n, v, rfl, hC, hS, hNx, hlen, hn8, hv, rfl, rfl, hown2, hbq⟩ := hrel
      clear hN1 hC1 hS1 hown hbel
      have hvp := pow_le8 n hn8
      by_cases hlt : n < 8
      · have hCq := hC.below hbq
        have hbp := hid (fun W (h : RowC W b off2 cap2 L) => beginPair_impl b off2 cap2 L W h (by omega))
        by_cases hpair : 2 ≤ L.length ∧ L.getD 0 0 < 200
        · rw [show decide (2 ≤ L.length ∧ L.getD 0 0 < 200) = true from decide_eq_true hpair] at hbp
          have e1 := drop_cons (P := L) (a := 0) (by omega)
          have e2 := drop_cons (P := L) (a := 1) (by omega)
          have e3 : L = L.getD 0 0 :: L.getD 1 0 :: L.drop 2 := by
            rw [← e2, ← e1]
            rfl
          have hNs : nextH (L.drop 2) (n + 1) (2 * v + hbit (L.getD 0 0) (L.getD 1 0)) acc = Z := by
            rw [← hNx]
            conv => rhs; rw [e3]
            exact (nextH_step hlt hpair.2).symm
          have x0 : wr.cell? ⟨b, off2, none⟩ = some (.int .i64 (L.getD 0 0)) := hCq.r 0 (by omega)
          have x1 := hCq.r 1 (by omega)
          have k0 := hS.ok ha.out 0 (by omega)
          have k1 := hS.ok ha.out 1 (by omega)
          have hcp := hC.c
          have hHB := hid (fun W => heardBit_impl (L.getD 0 0) (L.getD 1 0) W k0 k1)
          have hb1 := hbit_le (L.getD 0 0) (L.getD 1 0)
          have hL2 := hpair.1
          generalize hbit (L.getD 0 0) (L.getD 1 0) = B at *
          generalize L.getD 0 0 = X at *
          generalize L.getD 1 0 = Y at *
          have hvn : 2 * v + B < 2 ^ (n + 1) := by rw [Nat.pow_succ]; omega
          have hS2 := hid (hS.drop 2 hL2)
          have hl0 : 0 < L.length := by omega
          have hl1 : 1 < L.length := by omega
          have hl2 : (0 : Int) < (L.length : Int) := by omega
          have hl3 : (1 : Int) < (L.length : Int) := by omega
          have hl4 : (2 : Int) ≤ (L.length : Int) := by omega
          have hCC := hid hC
          replace hCq := hid hCq
          replace hNs := hid hNs
          replace hown2 := hid hown2
          replace hbq := hid hbq
          clear e1 e2 e3 hNx hS hC hpair k0 k1
          have hva : v ≤ 256 := by omega
          go_wp2_with fail
          refine (hbp.out _ hCq.out).mono ?_
          rintro e w2 ⟨rfl, hww⟩
          obtain rfl := hww.symm
          clear hbp hCq
          go_wp2_with fail
          go_quiet ((go_at_call 95; exact Calls.quiet_of_same (hHB.out _)))
          go_wp2
          all_goals
            go_roundw
            case rel =>
              by_cases hc2 : cap2 = 2
              · exact ⟨off2, cap2 - 2, L.drop 2, n + 1, 2 * v + B, by rw [if_pos hc2, List.length_drop], ⟨by rw [List.length_drop]; omega, fun i hi => by rw [List.length_drop] at hi; omega⟩, hS2.out, hNs.out, by rw [List.length_drop]; omega, by omega, hvn, by go_num, by go_num, hown2.out, hbq.out.trans ⟨rfl, rfl, rfl, Nat.le_refl _, fun _ _ => rfl⟩⟩
              · exact ⟨off2 + 2, cap2 - 2, L.drop 2, n + 1, 2 * v + B, by rw [if_neg hc2, List.length_drop], hCC.out.drop 2 hL2, hS2.out, hNs.out, by rw [List.length_drop]; omega, by omega, hvn, by go_num, by go_num, hown2.out, hbq.out.trans ⟨rfl, rfl, rfl, Nat.le_refl _, fun _ _ => rfl⟩⟩
            case measure => simp [intOf] <;> omega
        · rw [show decide (2 ≤ L.length ∧ L.getD 0 0 < 200) = false from decide_eq_false hpair] at hbp
          have hNe := nextH_end (v := v) (acc := acc) hlt hpair
          rw [hNx] at hNe
          subst hNe
          have hownq := hid hown2
          replace hCq := hid hCq
          have hbqq := hid hbq
          have hcE := hE'.out _ hbq
          have hSS := hid hS
          have hCC := hid hC
          clear hNx hS hC hpair hown2 hbq
          by_cases hn0 : n = 0
          · subst hn0
            have hcv := own_string hownq.out
            go_wp2_with fail
            refine (hbp.out _ hCq.out).mono ?_
            rintro e w2 ⟨rfl, hww⟩
            obtain rfl := hww.symm
            go_wp2
            rw [Exit.noGoto_ret]
            exact bodyPost_ret (v := .tuple #[.string (strOfNums acc), .slice (some ⟨b, off2, none⟩) L.length cap2, .nilIface]) (by simp [results, Tryd.results90]) rfl ⟨⟨_, _, _, rfl, .inr ⟨rfl, rfl, rfl, off2, cap2, hSS.out, rfl, hCC.out⟩⟩, hbqq.out⟩
          · have hnb : ((n : Int) == 0) = false := by rw [beq_eq_false_iff_ne]; omega
            go_wp2_with fail
            refine (hbp.out _ hCq.out).mono ?_
            rintro e w2 ⟨rfl, hww⟩
            obtain rfl := hww.symm
            go_wp2
            go_region
            go_wp2
            rw [Exit.noGoto_ret]
            exact bodyPost_ret (v := .tuple #[.string ⟨#[]⟩, .slice none 0 0, iE e8]) (by simp [results, Tryd.results90]) rfl ⟨⟨_, _, _, rfl, .inl ⟨hn0, rfl⟩⟩, hbqq.out.drew⟩
      · obtain rfl : n = 8 := by omega
        have hNx2 : hear L 0 0 (acc ++ [(v : Int)]) = Z := by
          unfold nextH at hNx
          rwa [if_pos rfl] at hNx
        have hownq := hid hown2
        obtain ⟨oa, cap5, rfl⟩ : ∃ oa cap, u5 = .slice oa acc.length cap := by
          obtain ⟨_, ⟨h1, h0⟩ | ⟨g, cap, _, h1, _⟩⟩ := hownq.out
          · exact ⟨none, 0, by rw [h1, h0]⟩
          · exact ⟨_, _, h1⟩
        have hbs := hbq.size
        have hfin : Hid (∀ (v' : Value) (w1 : World), w1.ownsRow w.heap.size 5 1 v' (acc.length + 1) (acc.map (Value.int .u8) ++ [.int .u8 (v : Int)]) → (wr.alloc (.cells #[.int .u8 (v : Int)] 5)).grownBy w1 (Value.slice oa acc.length cap5).ownBlock → w1.ownsRow w.heap.size 5 1 v' (acc ++ [(v : Int)]).length ((acc ++ [(v : Int)]).map (Value.int .u8)) ∧ Below w.heap.size w w1) := fun v' w1 ho hg => by
          refine ⟨by rw [List.length_append, List.map_append]; exact ho, ?_⟩
          exact (hbq.alloc (by omega) _).grown hg (by simp; omega) (fun g hg => (hownq.out.lt g hg).1)
        have hvb : v < 256 := by omega
        replace hNx2 := hid hNx2
        have hSS := hid hS
        have hCC := hid hC
        have hal : acc.length ≤ 4096 := by omega
        clear hNx hS hC hown2 hbq
        go_wp2_with (at_builtin; refine wpList_append_lies _ rfl _ _ 22 rfl w.heap.size 5 i0 _ 1 1 Tryd.underlying22 hi0 hz0 hz1 hz2 rfl (by omega) _ acc.length (acc.map (Value.int .u8)) rfl (hownq.out.alloc _) ⟨_, 0, none⟩ 1 1 [.int .u8 (v : Int)] rfl rfl (World.news_of_block (cs := #[.int .u8 (v : Int)]) (t := 5) (fr := (0, 0)) (heap_alloc_new _ _)) (by simp [Value.oneCell']) (by omega) (by unfold maxLen; omega) (by omega) (by simp; omega) _ rfl ?_; intro gg cap9 w1 ho hg hat hlt3; have hF := hid (hfin.out _ _ ho hg); clear ho hg hat hlt3 hfin hownq)
        go_roundw
        case rel => exact ⟨off2, cap2, L, acc ++ [(v : Int)], rfl, hCC.out, hSS.out, hNx2.out, by rw [List.length_append]; simp; omega, hF.out.1, hF.out.2⟩
        case measure => simp [slen]; omega
end Go.Proofs.YtakdhmlegickmaaDoor
