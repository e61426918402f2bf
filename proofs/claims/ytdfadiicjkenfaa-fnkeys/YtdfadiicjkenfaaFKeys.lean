/- For all bytes the law FnKeys returns true: a key that is down is seen by its row, and by all rows together, and nowhere else. -/
import Derived.Test.YtdfadiicjkenfaaRows
import Derived.Test.YtdfadiicjkenfaaOa
import Derived.Test.YtdfadiicjkenfaaOb
import Derived.Test.YtdfadiicjkenfaaOd
import Derived.Test.YtdfadiicjkenfaaOc
import Derived.Test.YtdfadiicjkenfaaOf
import Derived.Test.YtdfadiicjkenfaaOg
import Derived.Test.YtdfadiicjkenfaaOh
import Derived.Test.YtdfadiicjkenfaaOi
import Derived.Test.YtdfadiicjkenfaaOj
import Derived.Test.YtdfadiicjkenfaaAx
import Derived.Test.YtdfadiicjkenfaaOk
import Derived.WalkKit
import Derived.ProofKit
import Derived.OpenShut
import Derived.ShutString
import Derived.ChangeOld
import Derived.Below
import Derived.Lib.SmallJoins
import Derived.Deep.RegionHeld3
import Derived.Deep.RegionWith
import Derived.Deep.DeepCutAuto
namespace Go.Proofs.Ytdfadiicjkenfaa.fnKeys
open Go.ChangeShapes Go.WideShapes Go.ChangeAt Go.RowKit Go.Joins
open Go.ChangeMaps (open_string shut_string)
set_option linter.unusedVariables false

theorem own : ownKnob Try.prog.godebug = none := by kernel_rfl
theorem laidOut : laidOutB Try.prog = true := by kernel_rfl

def IsRow (k : IntKind) (w : World) (a : Option Addr) (len cap : Nat) (zs : List Int) : Prop :=
  (a = none ∧ len = 0 ∧ cap = 0 ∧ zs = []) ∨
  ∃ x, a = some x ∧ len ≤ cap ∧ cap ≤ maxLen ∧ zs.length = cap ∧ (∀ i, i < zs.length → w.cell? (x.add i) = some (.int k (zs.getD i 0))) ∧ ∀ n ∈ zs, (Lit.int k n).wf = true

set_option maxRecDepth 100000 in
set_option maxHeartbeats 8000000 in
theorem walk (a0 : Option Addr) (len0 cap0 : Nat) (z0 : List Int) (a1 : Option Addr) (len1 cap1 : Nat) (z1 : List Int) (w : World) (w0 : IsRow .u8 w a0 len0 cap0 z0) (w1 : IsRow .u8 w a1 len1 cap1 z1) :
    Calls Try.prog 3 #[.slice a0 len0 cap0, .slice a1 len1 cap1] w fun e w' => e = .returned (.bool true) ∧ Below w.heap.size w w' := by
  have hc0 := codeAt_of w0
  have hc1 := codeAt_of w1
  have hnn : ∀ (zs : List Int) (a : Option Addr) (len cap : Nat), IsRow .u8 w a len cap zs → len ≤ maxLen := by
    intro zs a len cap h
    rcases h with ⟨_, rfl, _, _⟩ | ⟨x, _, hl, hm, _⟩
    · exact Nat.zero_le _
    · omega
  have hl0 := hnn _ _ _ _ w0
  have hl1 := hnn _ _ _ _ w1
  clear hnn w0 w1
  unfold maxLen at hl0 hl1
  by_cases h1 : 1048576 < len0
  · go_enter Try.func3, Try.ntmps3
    go_wp2
    go_ret
    exact ⟨rfl, Below.refl _ _⟩
  by_cases h2 : 1048576 < len1
  · go_enter Try.func3, Try.ntmps3
    go_wp2
    go_ret
    exact ⟨rfl, Below.refl _ _⟩
  go_enter Try.func3, Try.ntmps3
  go_wp2_with fail
  refine (at_val _ _ _ 0 8 _ _ hc1 (by omega) (by omega) (by omega)).mono ?_
  rintro e w1 ⟨rfl, hb1⟩
  obtain ⟨r, er, hr⟩ : ∃ a : Nat, atV w a1 len1 0 8 = (a : Int) ∧ a < 8 := by
    have := atV_bd (w := w) (a := a1) (len := len1) (i := 0) (n := 8) (by omega)
    exact ⟨(atV w a1 len1 0 8).toNat, by omega, by omega⟩
  rw [er]
  clear er
  replace hb1 := hid hb1
  go_wp2_with fail
  refine (at_val _ _ _ 1 5 _ _ (hc1.below hb1.out hb1.out.size) (by omega) (by omega) (by omega)).mono ?_
  rintro e w2 ⟨rfl, hb⟩
  obtain ⟨k, ek, hk⟩ : ∃ a : Nat, atV w1 a1 len1 1 5 = (a : Int) ∧ a < 5 := by
    have := atV_bd (w := w1) (a := a1) (len := len1) (i := 1) (n := 5) (by omega)
    exact ⟨(atV w1 a1 len1 1 5).toNat, by omega, by omega⟩
  rw [ek]
  clear ek
  have hb2 := hid (new_trans hb1.out hb)
  clear hb hb1
  obtain ⟨P, hP⟩ : ∃ P, onP r k = P := ⟨_, rfl⟩
  have pA := hid (fun w1 => press_impl neP (r : Int) (k : Int) true w1)
  rw [on_press r k hr hk, hP] at pA
  have pB := hid (fun w1 => press_impl P (r : Int) (k : Int) false w1)
  rw [← hP, on_back r k hr hk, hP] at pB
  have rN := hid (fun w1 => read_impl neP 0 false w1)
  rw [new_read] at rN
  obtain ⟨a1', a2', a3'⟩ := on_all r hr k hk
  have kp := pow_lt k (by omega)
  have rp := pow_lt r hr
  have sp := pow_lt ((r + 1) % 8) (Nat.mod_lt _ (by omega))
  have kp2 : 2 ^ k ≤ 16 := by rcases (by omega : k = 0 ∨ k = 1 ∨ k = 2 ∨ k = 3 ∨ k = 4) with rfl | rfl | rfl | rfl | rfl <;> decide
  have rA := hid (fun w1 => read_impl P ((0 : Nat) : Int) true w1)
  rw [← hP, on_read r k 0 true hk (by omega), hP, a1'] at rA
  obtain ⟨s, hs, hs8⟩ : ∃ s : Nat, ((r : Int) + 1) % 8 = (s : Int) ∧ s = (r + 1) % 8 := ⟨(r + 1) % 8, by omega, rfl⟩
  have sp2 := pow_lt s (by omega)
  have hs9 := wrap_tmod r hr
  rw [← hs8] at hs9
  replace hs9 := hid hs9
  rw [← hs8] at a3'
  have rO := hid (fun w1 => read_impl P ((255 - 2 ^ r : Nat) : Int) false w1)
  rw [← hP, on_read r k _ false hk (by omega), hP, a2'] at rO
  have rE := hid (fun w1 => read_impl P ((255 - 2 ^ s : Nat) : Int) false w1)
  rw [← hP, on_read r k _ false hk (by omega), hP, a3'] at rE
  have wr := wrap_255 r hr
  have ws := wrap_255 s (by omega)
  generalize 255 - 2 ^ r = vR at *
  generalize 255 - 2 ^ s = vS at *
  obtain ⟨vA, hvA⟩ : ∃ vA, vA = 255 - 2 ^ k := ⟨_, rfl⟩
  obtain ⟨vB, hvB⟩ : ∃ vB, vB = 191 - 2 ^ k := ⟨_, rfl⟩
  rw [← hvA] at rA
  rw [← hvB] at rO
  replace hvA := hid hvA
  replace hvB := hid hvB
  clear kp rp sp kp2 sp2 hs8
  replace wr := hid wr
  replace ws := hid ws
  replace hs := hid hs
  have okp : Hid (okP P = true) := by rw [← hP]; exact on_ok r k hk
  clear hP a1' a2' a3'
  go_wp2_with fail
  refine (newp_impl _).mono ?_
  rintro e w3 ⟨rfl, hb⟩
  have hb3 := hid (new_trans hb2.out hb)
  clear hb hb2
  go_wp2_with fail
  refine (pA.out _).mono ?_
  rintro e w4 ⟨rfl, hb⟩
  have hb4 := hid ((new_trans hb3.out hb).alloc (new_trans hb3.out hb).size (.cells (poA P) 26))
  have q4 := hid (Blk.new w4 (poA P) 26)
  clear hb hb3 pA
  go_upto_region 6 with fail
  obtain ⟨b4, hB4⟩ : ∃ b4, w4.heap.size = b4 := ⟨_, rfl⟩
  obtain ⟨W4, hW4⟩ : ∃ W4, w4.alloc (.cells (poA P) 26) = W4 := ⟨_, rfl⟩
  rw [hW4] at q4 hb4 ⊢
  rw [hB4] at q4 ⊢
  clear hW4 hB4
  go_wp2_with fail
  refine (newp_impl _).mono ?_
  rintro e w5 ⟨rfl, hb⟩
  have hb5 := hid (new_trans hb4.out hb)
  have q5 := hid (q4.out.below hb q4.out.lt)
  clear hb hb4 q4
  go_wp2_with fail
  refine (rN.out _).mono ?_
  rintro e w6 ⟨rfl, hb⟩
  have hb6 := hid (new_trans hb5.out hb)
  have q6 := hid (q5.out.below hb q5.out.lt)
  have x6 := q6.out.cell
  clear hb hb5 q5 rN
  go_wp2_with fail
  refine (rA.out _).mono ?_
  rintro e w7 ⟨rfl, hb⟩
  have hb7 := hid (new_trans hb6.out hb)
  have q7 := hid (q6.out.below hb q6.out.lt)
  have x7 := q7.out.cell
  clear hb hb6 q6 x6 rA
  go_wp2_with fail
  go_region_with (go_at_call 12; rw [wr.out]; refine (rO.out _).mono ?_; rintro e w8 ⟨rfl, hb⟩; have hb8 := hid (new_trans hb7.out.drew hb); have q8 := hid (Blk.below (w := w7.drew) q7.out hb q7.out.lt); clear hb)
  have x8 := q8.out.cell
  clear hb7 q7 x7 rO wr
  have hs2 := hs.out
  have hs3 := hs9.out
  go_upto_region 9 with fail
  go_region_with (go_at_call 12; rw [ws.out]; refine (rE.out _).mono ?_; rintro e w9 ⟨rfl, hb⟩; have hb9 := hid (new_trans hb8.out.drew hb); have q9 := hid (Blk.below (w := w8.drew) q8.out hb q8.out.lt); clear hb)
  have x9 := q9.out.cell
  clear hb8 q8 x8 rE ws hs2 hs hs3 hs9
  go_wp2_with fail
  refine (pB.out _).mono ?_
  rintro e w10 ⟨rfl, hb⟩
  have hb10 := hid ((new_trans hb9.out hb).alloc (new_trans hb9.out hb).size (.cells (poA neP) 26))
  have q10 := hid ((q9.out.below hb q9.out.lt).alloc (.cells (poA neP) 26))
  have r10 := hid (Blk.new w10 (poA neP) 26)
  clear hb hb9 q9 x9 pB
  go_upto_region 11 with fail
  obtain ⟨b10, hB10⟩ : ∃ b10, w10.heap.size = b10 := ⟨_, rfl⟩
  obtain ⟨W10, hW10⟩ : ∃ W10, w10.alloc (.cells (poA neP) 26) = W10 := ⟨_, rfl⟩
  rw [hW10] at q10 r10 hb10 ⊢
  rw [hB10] at r10 ⊢
  clear hW10 hB10
  go_wp2_with fail
  refine (portsdrawn_any _ _ _ _ (hc0.below hb10.out hb10.out.size) (by omega)).mono ?_
  rintro e w11 ⟨c, rfl, hok, hb⟩
  have hb11 := hid ((new_trans hb10.out hb).alloc (new_trans hb10.out hb).size (.cells (poA c) 26))
  have q11 := hid ((q10.out.below hb q10.out.lt).alloc (.cells (poA c) 26))
  have r11 := hid ((r10.out.below hb r10.out.lt).alloc (.cells (poA c) 26))
  have s11 := hid (Blk.new w11 (poA c) 26)
  clear hb hb10 q10 r10 hc0
  go_upto_region 12 with fail
  obtain ⟨b11, hB11⟩ : ∃ b11, w11.heap.size = b11 := ⟨_, rfl⟩
  obtain ⟨W11, hW11⟩ : ∃ W11, w11.alloc (.cells (poA c) 26) = W11 := ⟨_, rfl⟩
  rw [hW11] at q11 r11 s11 hb11 ⊢
  rw [hB11] at s11 ⊢
  clear hW11 hB11
  have hc2 := hid (hc1.below hb11.out hb11.out.size)
  obtain ⟨v, ev, hv⟩ : ∃ a : Nat, atV W11 a1 len1 2 256 = (a : Int) ∧ a < 256 := by
    have := atV_bd (w := W11) (a := a1) (len := len1) (i := 2) (n := 256) (by omega)
    exact ⟨(atV W11 a1 len1 2 256).toNat, by omega, by omega⟩
  have hat : Hid (∀ W, Below W11.heap.size W11 W → Calls Try.prog 9 #[.slice a1 len1 cap1, .int .i64 2, .int .i64 256] W fun e w' => e = .returned (.int .i64 (v : Int)) ∧ Below W.heap.size W w') := fun W hW => by
    have := at_val a1 len1 cap1 2 256 _ W (hc2.out.below hW hW.size) (by omega) (by omega) (by omega)
    rw [atV_below hc2.out hW, ev] at this
    exact this
  have rI := hid (fun w1 => read_impl c (v : Int) true w1)
  have rS := hid (fun w1 => read_spec c (v : Int) true w1)
  rw [read_ok c hok v hv true] at rI rS
  generalize readN (fun k => (c.key k).toNat) v true = R at *
  clear hc1 hc2 ev hok hv
  have x11 := s11.out.cell
  have D11 : Hid (Below W11.heap.size W11 W11) := Below.refl _ _
  go_cut [20, 21] (fun aa bb wx => aa = .int .i64 (R : Int) ∧ bb = .int .i64 0 ∧ Below W11.heap.size W11 wx)
  case first =>
    go_region_with (first | (go_at_call 9; refine (hat.out _ (by first | exact D11.out.drew | exact D11.out)).mono ?_; rintro e w12 ⟨rfl, hb⟩; have B12 : Hid (Below W11.heap.size W11 w12) := (by first | exact new_trans D11.out.drew hb | exact new_trans D11.out hb); have x12 := (s11.out.below B12.out s11.out.lt).cell; clear hb) | (go_at_call 12; refine (rI.out _).mono ?_; rintro e w13 ⟨rfl, hb⟩; have B13 := hid (new_trans B12.out hb); clear hb))
    all_goals go_wp2_with fail
    all_goals go_meet
    all_goals exact ⟨rfl, rfl, B13.out⟩
  case rest =>
    obtain ⟨rfl, rfl, hcb⟩ := hcut
    replace hcb := hid hcb
    have s12 := hid (s11.out.below hcb.out s11.out.lt)
    have x12 := s12.out.cell
    clear x11 rI
    go_upto_region 13 with fail
    go_cut [22, 23] (fun aa bb wx => aa = .int .i64 (R : Int) ∧ bb = .int .i64 0 ∧ Below W11.heap.size W11 wx)
    case first =>
      go_region_with (first | (go_at_call 9; refine (hat.out _ (by first | exact hcb.out.drew | exact hcb.out)).mono ?_; rintro e w14 ⟨rfl, hb⟩; have B14 : Hid (Below W11.heap.size W11 w14) := (by first | exact new_trans hcb.out.drew hb | exact new_trans hcb.out hb); have x14 := (s11.out.below B14.out s11.out.lt).cell; clear hb) | (go_at_call 14; refine (rS.out _).mono ?_; rintro e w15 ⟨rfl, hb⟩; have B15 := hid (new_trans B14.out hb); clear hb))
      all_goals go_wp2_with fail
      all_goals go_meet
      all_goals exact ⟨rfl, rfl, B15.out⟩
    case rest =>
      obtain ⟨rfl, rfl, hcc⟩ := hcut
      have q15 := hid (q11.out.below hcc q11.out.lt)
      have r15 := hid (r11.out.below hcc r11.out.lt)
      have hb15 := hid (new_trans hb11.out hcc)
      clear hcc hcb s11 s12 x12 q11 r11 hb11 hat rS D11
      go_upto_region 14 with fail
      refine keys_cmp _ _ _ _ _ _ _ _ _ _ _ _ _ _ _ _ _ _ _ _ _ _ _ _ _ _ _ _ _ _ _ _ _ _ _ _ _ _ _ _ _ _ _ _ _ _ _ _ _ _ _ _ _ _ _ _ _ _ _ _ _ _ _ _ _ _ _ _ _ _ _ _ _ _ _ _ _ _ _ _ _ _ _ _ _ _ _ _ _ _ _ _ _ _ _ _ _ _ _ _ _ _ _ _ _ _ _ _ _ _ _ _ _ _ _ _ _ _ _ _ _ _ _ _ _ _ _ _ _ _ _ _ _ _ _ _ _ _ _ _ P k b4 b10 vA vB R _ _ hk hvA.out hvB.out q15.out r15.out okp.out ?_
      intro y94 y95 y96 y97 y98 y99 y100 y101 y102 y103 y104 y105 y106 y107 y108 y109 y110 y111 y112 y113 y114 y115 y116 y117 y118 y119 y120 y121 y122 y123 y124 y125 y126 y127 y128 y129 y130 y131 y132 y133 y134 y135 y136 y137 y138 y139 y140 y141 y142 y143 y144 y145 y146 y147 y148 y149 y150 y151 y152 y153 y154 y155 wd hb
      have hb16 := hid (new_trans hb15.out hb)
      clear hb hb15 q15 r15
      go_wp2
      go_ret
      exact ⟨rfl, hb16.out⟩

set_option maxRecDepth 100000 in
theorem lifted (os : Os) (started : os.Started) (H : Type) (enc : TypeId × Value → H) :
    ReturnsInHanded {} Try.checked os 3 .any (Rows.fnKeysSpec.pre6 enc Try.prog Try.f3 Rows.fnKeysRow.domain false) (Rows.fnKeysSpec.post enc Try.prog Try.f3 false true false false) := by
  refine returnsInHanded_of_change (C := Try.checked) own started (by kernel_rfl) Try.func3
    (ChangeSpec.witness6 (enc := enc) (C := Try.checked) false ⟨#[], #[.slice none 0 0, .slice none 0 0], []⟩ 8 (by kernel_rfl) (by kernel_rfl) (by kernel_rfl) (by kernel_rfl)) ?_
  intro W base args ds gs before hval0 hW hcnd _
  have hval : ∀ (j : Nat) t v, Try.f3.params[j]? = some t → args[j]? = some v → Value.okWide Try.prog W .any base t v := hval0
  have hW' := hW
  obtain ⟨p, q, hA0, hV, rfl, hfz, hnd⟩ := hW
  have hA : DataW.TrodAll enc Try.prog W 0 (fun _ => true) true Try.f3.params.toList args.toList ds p := hA0
  rw [Try.params3] at hA hval
  obtain ⟨v0, vs0, d0, ds0, p0, q0, hargs, rfl, rfl, h0, r0⟩ := trodAll_cons hA
  obtain ⟨v1, vs1, d1, ds1, p1, q1, rfl, rfl, rfl, h1, r1⟩ := trodAll_cons r0
  obtain ⟨rfl, rfl, rfl⟩ := trodAll_nil r1
  obtain rfl : args = #[v0, v1] := by cases args; simp_all
  obtain ⟨rfl, rfl⟩ := trodVars_none hV
  obtain ⟨a0, len0, cap0, rfl⟩ := okWide_slice Try.underlying22 (hval 0 22 v0 rfl rfl)
  have k0 := h0
  have lt0 : ∀ x ∈ p0, x.block < W.heap.size := by obtain ⟨m, hm⟩ := k0; exact DataW.trod_lt m _ _ _ hm
  obtain ⟨z0, w0⟩ : ∃ zs, IsRow .u8 W a0 len0 cap0 zs := by
    obtain ⟨fuel, hf⟩ := h0
    rcases open_ints Try.underlying22 Try.underlying5 (by kernel_rfl) hf with ⟨hcs, _⟩ | ⟨x, l, c, zs, hcs, _, hl, hm, hz, _, hcell, hwz⟩
    · simp [Value.cells] at hcs
      obtain ⟨rfl, rfl, rfl⟩ := hcs
      exact ⟨[], .inl ⟨rfl, rfl, rfl, rfl⟩⟩
    · simp [Value.cells] at hcs
      obtain ⟨rfl, rfl, rfl⟩ := hcs
      exact ⟨zs, .inr ⟨_, rfl, hl, hm, by simpa using hz, hcell, hwz⟩⟩
  obtain ⟨a1, len1, cap1, rfl⟩ := okWide_slice Try.underlying22 (hval 1 22 v1 rfl rfl)
  have k1 := h1
  have lt1 : ∀ x ∈ p1, x.block < W.heap.size := by obtain ⟨m, hm⟩ := k1; exact DataW.trod_lt m _ _ _ hm
  obtain ⟨z1, w1⟩ : ∃ zs, IsRow .u8 W a1 len1 cap1 zs := by
    obtain ⟨fuel, hf⟩ := h1
    rcases open_ints Try.underlying22 Try.underlying5 (by kernel_rfl) hf with ⟨hcs, _⟩ | ⟨x, l, c, zs, hcs, _, hl, hm, hz, _, hcell, hwz⟩
    · simp [Value.cells] at hcs
      obtain ⟨rfl, rfl, rfl⟩ := hcs
      exact ⟨[], .inl ⟨rfl, rfl, rfl, rfl⟩⟩
    · simp [Value.cells] at hcs
      obtain ⟨rfl, rfl, rfl⟩ := hcs
      exact ⟨zs, .inr ⟨_, rfl, hl, hm, by simpa using hz, hcell, hwz⟩⟩
  clear hA0 hval0
  refine (walk a0 len0 cap0 z0 a1 len1 cap1 z1 W w0 w1).mono fun e W' ⟨he, bel⟩ => ?_
  subst he
  exact ⟨_, rfl, _, _, _, [], _, [], hW', (trodAll_cons_mk (shut_bool Try.underlying4 _) trodAll_mk0), (trodAll_cons_mk (Below.trod laidOut (by kernel_rfl) (of_decide_eq_true (by kernel_rfl)) k0 bel lt0) (trodAll_cons_mk (Below.trod laidOut (by kernel_rfl) (of_decide_eq_true (by kernel_rfl)) k1 bel lt1) trodAll_mk0)), rfl, bel.frame _, fun h => by cases h⟩

theorem said : Rows.FnKeysSaid :=
  OpenClaim.holds_of_wide 3 Try.f3 rfl rfl rfl rfl rfl rfl rfl ⟨rfl, rfl, rfl, rfl, rfl⟩ rfl rfl rfl rfl rfl (by kernel_rfl) Try.func3 (by kernel_rfl)
    (of_decide_eq_true (by kernel_rfl)) (by unfold Func.isWrapper; first | (rw [if_pos (by decide +kernel)]; kernel_rfl) | (rw [if_neg (by decide +kernel)]; exact ⟨rfl, rfl⟩))
    (fun os started H enc _ => lifted os started H enc)
end Go.Proofs.Ytdfadiicjkenfaa.fnKeys
namespace Go.Proofs.Ytdfadiicjkenfaa
theorem fnKeys_holds : Rows.FnKeysSaid := fnKeys.said
#print axioms fnKeys_holds
end Go.Proofs.Ytdfadiicjkenfaa
