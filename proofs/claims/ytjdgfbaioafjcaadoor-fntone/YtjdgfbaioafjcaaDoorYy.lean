/- A sound chip that the laws draw: it is right. -/
import Derived.Test.YtjdgfbaioafjcaaDoorYv
import Derived.Test.YtjdgfbaioafjcaaDoorYw
namespace Go.Proofs.YtjdgfbaioafjcaaDoor
open Go.ChangeShapes Go.WideShapes Go.ChangeAt Go.RowKit
set_option linter.unusedVariables false
set_option linter.unusedSimpArgs false

theorem growSets {w : World} {p b : Nat} (vs : List Value) (hb : w.heap.size ≤ b) : ∀ (o : Nat) (W : World), w.grownBy W (some p) → w.grownBy (W.setCells b o vs) (some p) := by
  induction vs with
  | nil => exact fun _ _ h => h
  | cons u t ih => exact fun o W h => ih _ _ (growOS h hb)
theorem srcSets {p b : Nat} {a : Option Addr} {len cap nn : Nat} (vs : List Value) (hb : p < b) : ∀ (o : Nat) (W : World), Src W p a len cap nn → Src (W.setCells b o vs) p a len cap nn := by
  induction vs with
  | nil => exact fun _ _ h => h
  | cons u t ih => exact fun o W h => ih _ _ (h.setS hb)
set_option maxRecDepth 100000 in
set_option maxHeartbeats 8000000 in
theorem psg_any (p : Nat) (a : Option Addr) (len cap nn : Nat) (w : World) (hs : Src w p a len cap nn) (hn : nn ≤ 1000) :
    Calls Tryd.prog 27 #[.pointer (some ⟨p, 0, none⟩)] w fun e w' => ∃ c : Sg, e = .returned (sgV c) ∧ okS c = true ∧ (∃ n', n' ≤ 3000 ∧ Src w' p a len cap n') ∧ w.grownBy w' (some p) := by
  have hp := hs.lt
  replace hs := hid hs
  have hnew := hid (fun w1 => news_spec w1)
  obtain ⟨c0, hc0⟩ : ∃ c0, neS = c0 := ⟨_, rfl⟩
  have hok0 : Hid (okS c0 = true) := by rw [← hc0]; exact okS_new
  rw [hc0] at hnew
  clear hc0
  go_enter Tryd.func27, Tryd.ntmps27
  go_wp2_with fail
  refine (hnew.out _).mono ?_
  rintro e w1 ⟨rfl, hb1⟩
  have hB1 : Below w.heap.size w w1 := ((Below.refl _ _).alloc (Nat.le_refl _) _).trans (hb1.mono (by simp))
  have hq := (Blk.new w (sgA zeS) 27).below hb1 (by simp)
  have hz := hq.lt
  have S0 : QSg w (w1.alloc (.cells (sgA c0) 27)) p a len cap nn w1.heap.size (sgA c0) := by
    have hB2 : Below w.heap.size w (w1.alloc (.cells (sgA c0) 27)) := hB1.alloc hB1.size _
    exact ⟨hs.out.kept (r := none) ⟨hB2.os, hB2.tape, hB2.output, hB2.size, fun k hk _ => hB2.block k hk⟩ (by intro g e; cases e), ⟨hp, hz, by simp⟩, hq.alloc _, Blk.new w1 _ _, growBS hB2⟩
  replace S0 := hid S0
  clear hb1 hB1 hq hs hnew
  go_upto_region 2 with fail
  obtain ⟨W1, hW1⟩ : ∃ W1, w1.alloc (.cells (sgA c0) 27) = W1 := ⟨_, rfl⟩
  obtain ⟨bm, hbm⟩ : ∃ bm, w1.heap.size = bm := ⟨_, rfl⟩
  rw [hW1, hbm] at S0
  rw [hW1, hbm]
  clear hW1 hbm hz
  go_wp2_with fail
  refine (next_any p a len cap nn 10 _ S0.out.src (by omega)).mono ?_
  rintro e w2 ⟨⟨v2, rfl, g20, _, g21⟩, ⟨n2, hn2, hs2⟩, hg2⟩
  have S2 := hid (S0.out.next hg2 hs2)
  obtain ⟨v2, rfl⟩ : ∃ m : Nat, v2 = m := ⟨v2.toNat, by omega⟩
  have b2 := g21 (by omega)
  clear hg2 g21 hs2 S0
  go_wp2
  go_loopw [4] (fun i wr => ∃ (k nk : Nat) (c : Sg), k ≤ 9 ∧ i = .int .i64 k ∧ nk + 15 * k ≤ 1300 ∧ okS c = true ∧ QSg w wr p a len cap nk bm (sgA c)) (fun i _ => (intOf i).toNat)
  case atStart => exact ⟨v2, n2, c0, by omega, rfl, by omega, hok0.out, S2.out⟩
  case round =>
    obtain ⟨k, nk, c, hk, rfl, hnk, hok, hS⟩ := hrel
    clear S2 b2 g20 hn2 hok0
    by_cases hlt : 0 < k
    · replace hS := hid hS
      replace hok := hid hok
      go_wp2_with fail
      refine (next_any p a len cap nk 8 _ hS.out.src (by omega)).mono ?_
      rintro e w5 ⟨⟨v5, rfl, g50, _, g51⟩, ⟨n5, hn5, hs5⟩, hg5⟩
      have S5 := hS.out.next hg5 hs5
      have b5 := g51 (by omega)
      have x8 : w5.cell? ⟨bm, 8, none⟩ = some (.int .i64 c.sel) := S5.qm.cell 8
      have f8 := S5.qm.frozen 8
      have S6 := hid (S5.set 8 (.int .i64 v5))
      rw [sgA_sel] at S6
      have hokd := hid (okS_choose hok.out v5 g50 (by omega))
      obtain ⟨d, hd⟩ : ∃ d : Sg, { c with sel := v5 } = d := ⟨_, rfl⟩
      rw [hd] at S6 hokd
      clear hd hg5 g51 hs5 hS S5 hok
      go_upto_region 6 with fail
      obtain ⟨W6, hW6⟩ : ∃ W6, w5.setCell ⟨bm, 8, none⟩ (.int .i64 v5) = W6 := ⟨_, rfl⟩
      rw [hW6] at S6 ⊢
      clear hW6 x8 f8
      refine dr_reg _ W6 w _ d p a len cap n5 bm rfl rfl hokd.out (by omega) (by simp) S6.out ?_
      intro W7 a1 a2 a3 g x n7 hx hn7 hS7
      simp only [putsA, Act.put, List.setIfInBounds_toArray, List.set_cons_zero, List.set_cons_succ]
      have hok7 := hid (okS_write hokd.out x)
      obtain ⟨D, hD⟩ : ∃ D, d.write x = D := ⟨_, rfl⟩
      rw [hD] at hS7 hok7
      replace hS7 := hid hS7
      clear hD S6 hokd
      go_wp2_with fail
      refine (chanceS p a len cap n7 2 _ hS7.out.src (by omega) (by omega) (by omega)).mono ?_
      rintro e w8 ⟨⟨b8, rfl⟩, ⟨n8, hn8, hs8⟩, hg8⟩
      have S8 := hid (hS7.out.next hg8 hs8)
      clear hs8 hg8 hS7
      cases b8
      · go_wp2_with fail
        go_roundw
        case rel => exact ⟨k - 1, n8, D, by omega, by go_num, by omega, hok7.out, S8.out⟩
        case measure => simp [intOf]; omega
      · have hrg := hid (sg_range S8.out.qm)
        have hst := hid (fun w1 => sstep_spec D w1 hok7.out)
        have hok9 := hid (okS_step hok7.out)
        obtain ⟨E, hE⟩ : ∃ E, D.step = E := ⟨_, rfl⟩
        rw [hE] at hst hok9
        clear hE
        go_wp2_with (guard_target = wpList _ _ _ (Oper.mk _ (Op.load _ _) _ _ _ _ :: _) _ _; refine wpList_load_mid rfl 27 _ rfl bm 0 rfl (sgA D).toList _ hrg.out Tryd.underlying27 rfl (sg_size D) ?_)
        refine (hst.out _).mono ?_
        rintro e w9 ⟨rfl, hb9⟩
        have S9 := hid (S8.out.below hb9)
        have hth := hid (sg_there S9.out.qm E)
        have SA := hid (S9.out.lay E)
        clear hb9 S8 hrg S9 hst
        go_wp2_with (guard_target = wpList _ _ _ (Oper.mk _ (Op.store _ _ _) _ _ _ _ :: _) _ _; refine wpList_store_mid rfl 27 _ _ rfl bm 0 (sgA E) rfl rfl hth.out (sg_size E) (sg_one E) ?_)
        go_roundw
        case rel => exact ⟨k - 1, n8, E, by omega, by go_num, by omega, hok9.out, SA.out⟩
        case measure => simp [intOf]; omega
    · obtain rfl : k = 0 := by omega
      replace hok := hid hok
      have hrg := hid (sg_range hS.qm)
      have hth := hid (sg_there hS.q0 c)
      obtain ⟨tt, ht⟩ := sg_laid hS.q0 c
      replace ht := hid ht
      replace hS := hid hS
      go_wp2_with (first | (guard_target = wpList _ _ _ (Oper.mk _ (Op.store _ _ _) _ _ _ _ :: _) _ _; refine wpList_store_mid rfl 27 _ _ rfl w.heap.size 0 (sgA c) rfl rfl hth.out (sg_size c) (sg_one c) ?_) | (guard_target = wpList _ _ _ (Oper.mk _ (Op.load _ _) _ _ _ _ :: _) _ _; refine wpList_load_mid rfl 27 _ rfl bm 0 rfl (sgA c).toList _ hrg.out Tryd.underlying27 rfl (sg_size c) ?_))
      exact bodyPost_ret (v := sgV c) (results_cell_row Tryd.results27 _ _ w.heap.size tt (sgA c) (0, 0) _ rfl ht.out Tryd.underlying27 rfl (sg_size c)) rfl ⟨c, rfl, hok.out, ⟨nk, by omega, srcSets _ hp _ _ hS.out.src⟩, growSets _ (Nat.le_refl _) _ _ hS.out.gro⟩
set_option maxRecDepth 100000 in
theorem psgdrawn_any (a : Option Addr) (len cap : Nat) (w : World) (hc : CodeAt w w.heap.size a len) (hl : len ≤ 1048576) :
    Calls Tryd.prog 9 #[.slice a len cap] w fun e w' => ∃ c : Sg, e = .returned (sgV c) ∧ okS c = true ∧ Below w.heap.size w w' := by
  have hc1 : Hid (∀ o, CodeAt (w.alloc o) (w.alloc o).heap.size a len) := fun o => hc.below ((Below.refl _ _).alloc (Nat.le_refl _) o) (by simp)
  clear hc
  go_enter Tryd.func9, Tryd.ntmps9
  go_wp2_with fail
  refine (source_any a len cap _ (hc1.out _) hl).mono ?_
  rintro e w1 ⟨rfl, hs1, hg1⟩
  rw [World.size_alloc] at hs1 ⊢
  have q1 := (Blk.new w (sgA zeS) 27).grown hg1 (by simp)
  have hB1 : Below w.heap.size w w1 := ((Below.refl _ _).alloc (Nat.le_refl _) _).grown hg1 (by simp) (fun k e => by cases e)
  have hl1 := hs1.lt
  replace hs1 := hid hs1
  replace q1 := hid q1
  replace hB1 := hid hB1
  clear hg1 hc1
  go_wp2_with fail
  refine (psg_any _ a len cap 0 _ hs1.out (by omega)).mono ?_
  rintro e w2 ⟨c, rfl, hok, _, hg2⟩
  have q2 := q1.out.grown hg2 (by simp)
  have hB2 := hid (hB1.out.grown hg2 (by omega) (fun k e => by cases e; omega))
  have hth := hid (sg_there q2 c)
  obtain ⟨tt, ht⟩ := sg_laid q2 c
  replace ht := hid ht
  replace hok := hid hok
  clear q1 q2 hg2 hs1 hB1
  go_wp2_with (guard_target = wpList _ _ _ (Oper.mk _ (Op.store _ _ _) _ _ _ _ :: _) _ _; refine wpList_store_mid rfl 27 _ _ rfl w.heap.size 0 (sgA c) rfl rfl hth.out (sg_size c) (sg_one c) ?_)
  exact bodyPost_ret (v := sgV c) (results_cell_row Tryd.results9 _ _ w.heap.size tt (sgA c) (0, 0) _ rfl ht.out Tryd.underlying27 rfl (sg_size c)) rfl ⟨c, rfl, hok.out, lay_below _ _ _ (Nat.le_refl _) hB2.out⟩
end Go.Proofs.YtjdgfbaioafjcaaDoor
