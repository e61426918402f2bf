/- The law of MachineOK: its drawn statement. -/
import Derived.Test.YtifcdojaocndhaaDoorM45
import Derived.Test.YtifcdojaocndhaaDoorWeem
import Derived.Test.YtifcdojaocndhaaDoorM10
import Derived.Test.YtifcdojaocndhaaDoorWidm
import Derived.Test.YtifcdojaocndhaaDoorM43
namespace Go.Proofs.YtifcdojaocndhaaDoor
open Go.ChangeShapes Go.WideShapes Go.ChangeAt Go.RowKit
set_option linter.unusedVariables false
set_option linter.unusedSimpArgs false

theorem SmallMc.fit {x : Mc} (h : SmallMc x) : FitMc x := ⟨⟨by have := h.m.1; omega, by have := h.m.2.1; omega, fun i hi => by have := h.m.rows i hi; omega⟩, h.d, h.e⟩
theorem tomcB (x : Mc) (v : Value) (w : World) (h : MacB w v x) (hs : SmallMc x) : Calls Tryd.prog 19 #[v] w fun e w' => ∃ ur um ud ue, e = .returned (mcV x ur um ud ue) ∧ MacB w' (mcV x ur um ud ue) x ∧ Below w.heap.size w w' := by
  refine (tomc x v w h hs).mono ?_
  rintro e w' ⟨ur, um, ud, g, m1, m2, L, rfl, S⟩
  exact ⟨ur, um, ud, _, rfl, ⟨ur, um, ud, _, rfl, MemO.reads (S.at 2 rfl), OwnI.read (S.at 1 rfl), EvO.read (S.at 0 rfl)⟩, S.bel⟩
end Go.Proofs.YtifcdojaocndhaaDoor

/- NewMachine of the specification, with the tests of lengths; a machine among a law's things, marked; the row's list. -/
namespace Go.Proofs.YtifcdojaocndhaaDoor
open Go.ChangeShapes Go.WideShapes Go.ChangeAt Go.RowKit Go.Joins
set_option linter.unusedVariables false
set_option linter.unusedSimpArgs false

theorem NewMac.out {w V w1 W : World} {lo hi : Nat} {x : Mc} {vr vm vd ve : Value} (h : NewMac V w1 lo hi x vr vm vd ve) (hb : Below w.heap.size w V) (hz : w.heap.size < V.heap.size) (ho : OutD (fun b => b = w.heap.size) w1 W) : NewMac w W lo hi x vr vm vd ve := by
  refine ⟨h.o.kept (by have := h.o.h; have := ho.size; omega) (fun b hd => ?_), h.z, by have := h.l; omega, fun b hb' => by have := h.d b hb'; omega, fun b hb' => by have := h.e b hb'; omega, OutD.below (new_trans hb h.bel) ho (Nat.le_refl _)⟩
  rcases hd with hd | hd | hd
  · exact ho.block b (by have := h.o.h; omega) (by have := h.l; omega)
  · exact ho.block b (h.o.d.dom hd).2.lt (by have := h.d b hd; omega)
  · exact ho.block b (h.o.e.dom hd).2 (by have := h.e b hd; omega)
theorem StD.markMac {w W W' : World} {L : List Thing} {lo hi : Nat} {x y : Mc} {vr vm vd ve : Value} (h : StD w W L) (i : Nat) (e : L[i]? = some (tMac lo hi x vr vm vd ve)) (hm : MacO lo hi y vr vm vd ve W') (ho : OutD (mcDom lo hi vd ve) W W') (hz : lo < hi) : StD w W' (L.set i (tMac lo hi y vr vm vd ve)) :=
  h.turn i e ho.size ⟨ho.os, ho.tape, ho.output⟩ ho.block (sits_mac hm hz)
theorem newm_small (s : ByteArray) : Small (newM s) := by
  unfold newM
  split
  · rename_i h
    refine ⟨by show (romL s).length ≤ _; rw [romL_len]; omega, by show (List.replicate 4 (List.replicate 64 (0 : Int))).length ≤ _; decide, by show pre (List.replicate 4 (List.replicate 64 (0 : Int))) (List.replicate 4 (List.replicate 64 (0 : Int))).length ≤ _; decide +kernel⟩
  · exact ⟨by decide, by decide, by decide⟩
theorem small_new (s : ByteArray) (l : List (Int × ByteArray)) : SmallMc (newMc s l).1 := by
  have h0 : SmallMc mc0 := ⟨⟨by decide, by decide, by decide⟩, Nat.zero_le _, Nat.zero_le _⟩
  unfold newMc
  split
  · exact h0
  unfold newMc0
  split
  · split
    · refine ⟨newm_small s, ?_, Nat.zero_le _⟩
      show (new2 l).1.pulses.length ≤ _
      have := tp2_len l
      unfold new2
      split
      · show (tp2 l).1.length ≤ _
        omega
      · exact Nat.zero_le _
    · exact h0
  · exact h0
set_option maxRecDepth 100000 in
set_option maxHeartbeats 4000000 in
theorem newM_spec (s : ByteArray) (a : Option Addr) (cap : Nat) (l : List (Int × ByteArray)) (w : World) (hs : s.size ≤ maxLen) (hR : BkR w a l) (hl : l.length ≤ 1048576) (hsz : ∀ y ∈ l, y.2.size ≤ maxLen) : Calls Tryd.prog 8 #[.string s, .slice a l.length cap] w (AnsMac w (newMc s l).1 (newMc s l).2) := by
  have q0 := hid (Blk.new w mcZ 41)
  have hB0 := hid ((Below.refl w.heap.size w).alloc (Nat.le_refl _) (.cells mcZ 41))
  have hN := hid (fun W (hb : Below w.heap.size w W) => lnew_spec s a cap l W hs (hR.below hb) hl hsz)
  clear hR hsz
  have hsi : (s.size : Int) ≤ 9223372036854775807 := by unfold maxLen at hs; omega
  by_cases hf : 65536 < s.size ∨ 4096 < l.length
  · have e : newMc s l = (mc0, 2) := by unfold newMc; rw [if_pos hf]
    rw [e]
    clear e hN
    rcases (show (65536 : Int) < (s.size : Int) ∨ (¬ (65536 : Int) < (s.size : Int) ∧ (4096 : Int) < (l.length : Int)) by omega) with h1 | ⟨h1, h2⟩
    all_goals
      go_enter Tryd.func8, Tryd.ntmps8
      go_upto_region 1 with fail
      obtain ⟨V, hV⟩ : ∃ V, w.alloc (.cells mcZ 41) = V := ⟨_, rfl⟩
      rw [hV] at q0 hB0 ⊢
      clear hV
      have qy := q0.out
      rw [mcZ_eq] at qy
      have qth := hid (mc_there qy (o := 0) (n := (mcA mc0 nlV nlV nlV nlV).size) (by show 0 + 58 ≤ 58; omega))
      go_wp2_with (guard_target = wpList _ _ _ (Oper.mk _ (Op.store 41 _ _) _ _ _ _ :: _) _ _; refine wpList_store_mid rfl 41 _ _ rfl w.heap.size 0 (mcA mc0 nlV nlV nlV nlV) rfl rfl qth.out (szMcA mc0 nlV nlV nlV nlV) (mc_oneV mc0 rfl rfl rfl rfl) ?_)
      have qz := lay_blk w.heap.size (mcA mc0 nlV nlV nlV nlV).toList _ 0 _ qy
      rw [mlay_x] at qz
      obtain ⟨tt, ht⟩ := qz
      have hbz := lay_below (mcA mc0 nlV nlV nlV nlV).toList 0 _ (Nat.le_refl _) hB0.out
      refine bodyPost_ret (v := .tuple #[.agg (mcA mc0 nlV nlV nlV nlV), .int .i64 2]) (results_cell_tmp Tryd.results8 _ _ w.heap.size tt (mcA mc0 nlV nlV nlV nlV) (0, 0) _ _ rfl rfl ht Tryd.underlying41 rfl (szMcA _ _ _ _ _)) rfl ⟨_, _, _, _, _, _, rfl, newmac_zero hbz (by rw [lay_size]; exact q0.out.lt)⟩
  have h1 : ¬ (65536 : Int) < (s.size : Int) := by omega
  have h2 : ¬ (4096 : Int) < (l.length : Int) := by omega
  have e0 : newMc s l = newMc0 s l := by unfold newMc; rw [if_neg hf]
  rw [e0]
  clear e0 hf
  generalize (newMc0 s l).1 = X at *
  generalize (newMc0 s l).2 = C at *
  go_enter Tryd.func8, Tryd.ntmps8
  go_upto_region 1 with fail
  obtain ⟨V, hV⟩ : ∃ V, w.alloc (.cells mcZ 41) = V := ⟨_, rfl⟩
  rw [hV] at q0 hB0 ⊢
  clear hV
  go_wp2_with fail
  refine (hN.out _ hB0.out).mono ?_
  rintro e w1 ⟨lo, hi, vr, vm, vd, ve, rfl, hM⟩
  have q1 := q0.out.below hM.bel q0.out.lt
  rw [mcZ_eq] at q1
  have hth := hid (mc_there q1 (o := 0) (n := (mcA X vr vm vd ve).size) (by show 0 + 58 ≤ 58; omega))
  have hone := hid (mc_one (p := fun _ => false) hM.o.read.macR)
  have qz := lay_blk w.heap.size (mcA X vr vm vd ve).toList _ 0 _ q1
  rw [mlay_x] at qz
  have ho : OutD (fun b => b = w.heap.size) w1 (w1.setCells w.heap.size 0 (mcA X vr vm vd ve).toList) := ⟨(lay_os _ _ 0 w1).1, (lay_os _ _ 0 w1).2.1, (lay_os _ _ 0 w1).2.2, by rw [lay_size]; exact Nat.le_refl _, fun b hb hn => lay_heap _ _ 0 w1 hn⟩
  have hF := hid (hM.out hB0.out q0.out.lt ho)
  replace qz := hid qz
  clear ho q1 hM hN
  go_wp2_with (guard_target = wpList _ _ _ (Oper.mk _ (Op.store 41 _ _) _ _ _ _ :: _) _ _; refine wpList_store_mid rfl 41 _ _ rfl w.heap.size 0 (mcA X vr vm vd ve) rfl rfl hth.out (szMcA _ _ _ _ _) hone.out ?_)
  obtain ⟨tt, ht⟩ := qz.out
  exact bodyPost_ret (v := .tuple #[.agg (mcA X vr vm vd ve), .int .i64 C]) (results_cell_tmp Tryd.results8 _ _ w.heap.size tt _ (0, 0) _ _ rfl rfl ht Tryd.underlying41 rfl (szMcA _ _ _ _ _)) rfl ⟨_, _, _, _, _, _, rfl, hF.out⟩
theorem newm2_of {W : World} (h : laidMetH Tryd.prog [("loop.example/g00644/impl.psgBits", Rows.laid_loop_example_g00644_impl_psgBits), ("loop.example/g00644/impl.bitTimes", Rows.laid_loop_example_g00644_impl_bitTimes)] W) : PBit W ∧ Tim W := by
  rw [MakeChecks.laidMetH_plain _ _ _ (by kernel_rfl)] at h
  obtain ⟨h0, h1⟩ := laid_twoM h
  exact ⟨pbit_of (by rw [MakeChecks.laidMetH_plain _ _ _ (by kernel_rfl)]; exact h0), tim_of (by rw [MakeChecks.laidMetH_plain _ _ _ (by kernel_rfl)]; exact h1)⟩
end Go.Proofs.YtifcdojaocndhaaDoor
