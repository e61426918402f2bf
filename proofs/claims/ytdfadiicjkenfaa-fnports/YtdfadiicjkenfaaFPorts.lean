/- For all bytes the law FnPorts returns true: an even port is the screen's, and what it is told is the border, the tape's bit and the beeper's. -/
import Derived.Test.YtdfadiicjkenfaaRows
import Derived.Test.YtdfadiicjkenfaaOa
import Derived.Test.YtdfadiicjkenfaaOb
import Derived.Test.YtdfadiicjkenfaaOc
import Derived.Test.YtdfadiicjkenfaaOd
import Derived.Test.YtdfadiicjkenfaaOg
import Derived.Test.YtdfadiicjkenfaaOh
import Derived.Test.YtdfadiicjkenfaaOi
import Derived.Test.YtdfadiicjkenfaaAx
import Derived.WalkKit
import Derived.ProofKit
import Derived.OpenShut
import Derived.ShutString
import Derived.ChangeOld
import Derived.Below
import Derived.Lib.SmallJoins
namespace Go.Proofs.Ytdfadiicjkenfaa.fnPorts
open Go.ChangeShapes Go.WideShapes Go.ChangeAt Go.RowKit Go.Joins
open Go.ChangeMaps (open_string shut_string)
set_option linter.unusedVariables false

theorem own : ownKnob Try.prog.godebug = none := by kernel_rfl
theorem laidOut : laidOutB Try.prog = true := by kernel_rfl

def IsRow (k : IntKind) (w : World) (a : Option Addr) (len cap : Nat) (zs : List Int) : Prop :=
  (a = none ∧ len = 0 ∧ cap = 0 ∧ zs = []) ∨
  ∃ x, a = some x ∧ len ≤ cap ∧ cap ≤ maxLen ∧ zs.length = cap ∧ (∀ i, i < zs.length → w.cell? (x.add i) = some (.int k (zs.getD i 0))) ∧ ∀ n ∈ zs, (Lit.int k n).wf = true

set_option maxRecDepth 100000 in
set_option maxHeartbeats 4000000 in
theorem walk (a0 : Option Addr) (len0 cap0 : Nat) (z0 : List Int) (a1 : Option Addr) (len1 cap1 : Nat) (z1 : List Int) (w : World) (w0 : IsRow .u8 w a0 len0 cap0 z0) (w1 : IsRow .u8 w a1 len1 cap1 z1) :
    Calls Try.prog 4 #[.slice a0 len0 cap0, .slice a1 len1 cap1] w fun e w' => e = .returned (.bool true) ∧ Below w.heap.size w w' := by
  have hc0 := codeAt_of w0
  have hc1 := codeAt_of w1
  have hnn : ∀ (zs : List Int) (a : Option Addr) (len cap : Nat), IsRow .u8 w a len cap zs → len ≤ maxLen := by
    intro zs a len cap h
    rcases h with ⟨_, rfl, _, _⟩ | ⟨x, _, hl, hm, _⟩
    · exact Nat.zero_le _
    · omega
  have hl0 := hnn _ _ _ _ w0
  have hl1 := hnn _ _ _ _ w1
  clear hnn w0 w1
  unfold maxLen at hl0 hl1
  by_cases h1 : 1048576 < len0
  · go_enter Try.func4, Try.ntmps4
    go_wp2
    go_ret
    exact ⟨rfl, Below.refl _ _⟩
  by_cases h2 : 1048576 < len1
  · go_enter Try.func4, Try.ntmps4
    go_wp2
    go_ret
    exact ⟨rfl, Below.refl _ _⟩
  go_enter Try.func4, Try.ntmps4
  go_wp2_with fail
  refine (at_val _ _ _ 0 256 _ _ hc1 (by omega) (by omega) (by omega)).mono ?_
  rintro e w1 ⟨rfl, hb1⟩
  obtain ⟨n, en, hn⟩ : ∃ a : Nat, atV w a1 len1 0 256 = (a : Int) ∧ a < 256 := by
    have := atV_bd (w := w) (a := a1) (len := len1) (i := 0) (n := 256) (by omega)
    exact ⟨(atV w a1 len1 0 256).toNat, by omega, by omega⟩
  rw [en]
  clear en
  have eK : kind2 (n : Int) = .tuple #[.int .i64 (kindN n : Nat), .int .i64 0] := by unfold kind2; rw [if_pos (in_yes (by omega) (by omega)), Int.toNat_natCast]
  have k1 := hid (fun w1 => kind_impl (n : Int) w1)
  have k2 := hid (fun w1 => kind_spec (n : Int) w1)
  rw [eK] at k1 k2
  have hke : (((kindN n : Nat) : Int) == 0) = (((n : Int) % 2) == 0) := by
    have h1 := kind_even n hn
    rw [show (((kindN n : Nat) : Int) == 0) = Nat.beq (kindN n) 0 from beq_nat _ 0, h1, ← beq_nat]
    congr 1
  generalize kindN n = K at *
  clear eK
  replace hb1 := hid hb1
  go_wp2_with fail
  refine (k1.out _).mono ?_
  rintro e w2 ⟨rfl, hb⟩
  have hb2 := hid (new_trans hb1.out hb)
  clear hb hb1
  go_wp2_with fail
  refine (k2.out _).mono ?_
  rintro e w3 ⟨rfl, hb⟩
  have hb3 := hid (new_trans hb2.out hb)
  clear hb hb2 k1 k2
  go_wp2_with fail
  refine (portsdrawn_any _ _ _ _ (hc0.below hb3.out hb3.out.size) (by omega)).mono ?_
  rintro e w4 ⟨c, rfl, hok, hb⟩
  have hb4 := hid ((new_trans hb3.out hb).alloc (new_trans hb3.out hb).size (.cells (poA c) 26))
  have q4 := hid (Blk.new w4 (poA c) 26)
  clear hb hb3 hc0
  go_upto_region 7 with fail
  obtain ⟨b4, hB4⟩ : ∃ b4, w4.heap.size = b4 := ⟨_, rfl⟩
  obtain ⟨W4, hW4⟩ : ∃ W4, w4.alloc (.cells (poA c) 26) = W4 := ⟨_, rfl⟩
  rw [hW4] at q4 hb4 ⊢
  rw [hB4] at q4 ⊢
  clear hW4 hB4
  go_wp2_with fail
  refine (at_val _ _ _ 1 256 _ _ (hc1.below hb4.out hb4.out.size) (by omega) (by omega) (by omega)).mono ?_
  rintro e w5 ⟨rfl, hb⟩
  obtain ⟨v, ev, hv⟩ : ∃ a : Nat, atV W4 a1 len1 1 256 = (a : Int) ∧ a < 256 := by
    have := atV_bd (w := W4) (a := a1) (len := len1) (i := 1) (n := 256) (by omega)
    exact ⟨(atV W4 a1 len1 1 256).toNat, by omega, by omega⟩
  rw [ev]
  clear ev
  have hb5 := hid (new_trans hb4.out hb)
  have q5 := hid (q4.out.below hb q4.out.lt)
  clear hb hb4 q4 hc1
  have x5 := q5.out.cell
  have eU : ula2 c (v : Int) = (c.ula v, 0) := by unfold ula2; rw [if_pos hok, if_pos (in_yes (by omega) (by omega)), Int.toNat_natCast]
  have u1 := hid (fun w1 => ula_impl c (v : Int) w1)
  have u2 := hid (fun w1 => ula_spec c (v : Int) w1)
  rw [eU] at u1 u2
  have eC : c.ula v = { c with border := (Nat.land v 7 : Nat), mic := micN v, beep := beepN v } := rfl
  rw [eC] at u1 u2
  have hB7 : (v : Int) % 8 = ((Nat.land v 7 : Nat) : Int) := by rw [land7 v hv]; omega
  have hM : ((v : Int) / 8 % 2 == 1) = micN v := by
    rw [mic_div v hv, ← beq_nat]
    congr 1
  have hP : ((v : Int) / 16 % 2 == 1) = beepN v := by
    rw [beep_div v hv, ← beq_nat]
    congr 1
  generalize Nat.land v 7 = B at *
  generalize micN v = m at *
  generalize beepN v = bp at *
  have q8a := eqP8a c.k0 c.k1 c.k2 c.k3 c.k4 c.k5 c.k6 c.k7
  have q8b := eqP8b c.k0 c.k1 c.k2 c.k3 c.k4 c.k5 c.k6 c.k7
  clear eU eC hok
  go_wp2_with fail
  refine (u1.out _).mono ?_
  rintro e w6 ⟨rfl, hb⟩
  have hb6 := hid ((new_trans hb5.out hb).alloc (new_trans hb5.out hb).size (.cells (poA { c with border := B, mic := m, beep := bp }) 26))
  have q6 := hid ((q5.out.below hb q5.out.lt).alloc (.cells (poA { c with border := B, mic := m, beep := bp }) 26))
  have r6 := hid (Blk.new w6 (poA { c with border := B, mic := m, beep := bp }) 26)
  clear hb hb5 q5 x5
  go_upto_region 9 with fail
  obtain ⟨b6, hB6⟩ : ∃ b6, w6.heap.size = b6 := ⟨_, rfl⟩
  obtain ⟨W6, hW6⟩ : ∃ W6, w6.alloc (.cells (poA { c with border := B, mic := m, beep := bp }) 26) = W6 := ⟨_, rfl⟩
  rw [hW6] at q6 r6 hb6 ⊢
  rw [hB6] at r6 ⊢
  clear hW6 hB6
  have x6 := q6.out.cell
  go_wp2_with fail
  refine (u2.out _).mono ?_
  rintro e w7 ⟨rfl, hb⟩
  have hb7 := hid ((new_trans hb6.out hb).alloc (new_trans hb6.out hb).size (.cells (poA { c with border := B, mic := m, beep := bp }) 26))
  have q7 := hid ((q6.out.below hb q6.out.lt).alloc (.cells (poA { c with border := B, mic := m, beep := bp }) 26))
  have r7 := hid ((r6.out.below hb r6.out.lt).alloc (.cells (poA { c with border := B, mic := m, beep := bp }) 26))
  have s7 := hid (Blk.new w7 (poA { c with border := B, mic := m, beep := bp }) 26)
  clear hb hb6 q6 r6 x6
  go_upto_region 10 with fail
  obtain ⟨b7, hB7'⟩ : ∃ b7, w7.heap.size = b7 := ⟨_, rfl⟩
  obtain ⟨W7, hW7⟩ : ∃ W7, w7.alloc (.cells (poA { c with border := B, mic := m, beep := bp }) 26) = W7 := ⟨_, rfl⟩
  rw [hW7] at q7 r7 s7 hb7 ⊢
  rw [hB7'] at s7 ⊢
  clear hW7 hB7' u1 u2
  have x7 := q7.out.cell
  have y7 := r7.out.cell
  have z7 := s7.out.cell
  clear q7 r7 s7
  cases hbK : ((K : Int) == 0)
  all_goals
    rw [hbK] at hke
    replace hke := hke.symm
    go_wp2
    go_ret
    exact ⟨ret_bool (by simp), hb7.out⟩

set_option maxRecDepth 100000 in
theorem lifted (os : Os) (started : os.Started) (H : Type) (enc : TypeId × Value → H) :
    ReturnsInHanded {} Try.checked os 4 .any (Rows.fnPortsSpec.pre6 enc Try.prog Try.f4 Rows.fnPortsRow.domain false) (Rows.fnPortsSpec.post enc Try.prog Try.f4 false true false false) := by
  refine returnsInHanded_of_change (C := Try.checked) own started (by kernel_rfl) Try.func4
    (ChangeSpec.witness6 (enc := enc) (C := Try.checked) false ⟨#[], #[.slice none 0 0, .slice none 0 0], []⟩ 8 (by kernel_rfl) (by kernel_rfl) (by kernel_rfl) (by kernel_rfl)) ?_
  intro W base args ds gs before hval0 hW hcnd _
  have hval : ∀ (j : Nat) t v, Try.f4.params[j]? = some t → args[j]? = some v → Value.okWide Try.prog W .any base t v := hval0
  have hW' := hW
  obtain ⟨p, q, hA0, hV, rfl, hfz, hnd⟩ := hW
  have hA : DataW.TrodAll enc Try.prog W 0 (fun _ => true) true Try.f4.params.toList args.toList ds p := hA0
  rw [Try.params4] at hA hval
  obtain ⟨v0, vs0, d0, ds0, p0, q0, hargs, rfl, rfl, h0, r0⟩ := trodAll_cons hA
  obtain ⟨v1, vs1, d1, ds1, p1, q1, rfl, rfl, rfl, h1, r1⟩ := trodAll_cons r0
  obtain ⟨rfl, rfl, rfl⟩ := trodAll_nil r1
  obtain rfl : args = #[v0, v1] := by cases args; simp_all
  obtain ⟨rfl, rfl⟩ := trodVars_none hV
  obtain ⟨a0, len0, cap0, rfl⟩ := okWide_slice Try.underlying22 (hval 0 22 v0 rfl rfl)
  have k0 := h0
  have lt0 : ∀ x ∈ p0, x.block < W.heap.size := by obtain ⟨m, hm⟩ := k0; exact DataW.trod_lt m _ _ _ hm
  obtain ⟨z0, w0⟩ : ∃ zs, IsRow .u8 W a0 len0 cap0 zs := by
    obtain ⟨fuel, hf⟩ := h0
    rcases open_ints Try.underlying22 Try.underlying5 (by kernel_rfl) hf with ⟨hcs, _⟩ | ⟨x, l, c, zs, hcs, _, hl, hm, hz, _, hcell, hwz⟩
    · simp [Value.cells] at hcs
      obtain ⟨rfl, rfl, rfl⟩ := hcs
      exact ⟨[], .inl ⟨rfl, rfl, rfl, rfl⟩⟩
    · simp [Value.cells] at hcs
      obtain ⟨rfl, rfl, rfl⟩ := hcs
      exact ⟨zs, .inr ⟨_, rfl, hl, hm, by simpa using hz, hcell, hwz⟩⟩
  obtain ⟨a1, len1, cap1, rfl⟩ := okWide_slice Try.underlying22 (hval 1 22 v1 rfl rfl)
  have k1 := h1
  have lt1 : ∀ x ∈ p1, x.block < W.heap.size := by obtain ⟨m, hm⟩ := k1; exact DataW.trod_lt m _ _ _ hm
  obtain ⟨z1, w1⟩ : ∃ zs, IsRow .u8 W a1 len1 cap1 zs := by
    obtain ⟨fuel, hf⟩ := h1
    rcases open_ints Try.underlying22 Try.underlying5 (by kernel_rfl) hf with ⟨hcs, _⟩ | ⟨x, l, c, zs, hcs, _, hl, hm, hz, _, hcell, hwz⟩
    · simp [Value.cells] at hcs
      obtain ⟨rfl, rfl, rfl⟩ := hcs
      exact ⟨[], .inl ⟨rfl, rfl, rfl, rfl⟩⟩
    · simp [Value.cells] at hcs
      obtain ⟨rfl, rfl, rfl⟩ := hcs
      exact ⟨zs, .inr ⟨_, rfl, hl, hm, by simpa using hz, hcell, hwz⟩⟩
  clear hA0 hval0
  refine (walk a0 len0 cap0 z0 a1 len1 cap1 z1 W w0 w1).mono fun e W' ⟨he, bel⟩ => ?_
  subst he
  exact ⟨_, rfl, _, _, _, [], _, [], hW', (trodAll_cons_mk (shut_bool Try.underlying4 _) trodAll_mk0), (trodAll_cons_mk (Below.trod laidOut (by kernel_rfl) (of_decide_eq_true (by kernel_rfl)) k0 bel lt0) (trodAll_cons_mk (Below.trod laidOut (by kernel_rfl) (of_decide_eq_true (by kernel_rfl)) k1 bel lt1) trodAll_mk0)), rfl, bel.frame _, fun h => by cases h⟩

theorem said : Rows.FnPortsSaid :=
  OpenClaim.holds_of_wide 4 Try.f4 rfl rfl rfl rfl rfl rfl rfl ⟨rfl, rfl, rfl, rfl, rfl⟩ rfl rfl rfl rfl rfl (by kernel_rfl) Try.func4 (by kernel_rfl)
    (of_decide_eq_true (by kernel_rfl)) (by unfold Func.isWrapper; first | (rw [if_pos (by decide +kernel)]; kernel_rfl) | (rw [if_neg (by decide +kernel)]; exact ⟨rfl, rfl⟩))
    (fun os started H enc _ => lifted os started H enc)
end Go.Proofs.Ytdfadiicjkenfaa.fnPorts
namespace Go.Proofs.Ytdfadiicjkenfaa
theorem fnPorts_holds : Rows.FnPortsSaid := fnPorts.said
#print axioms fnPorts_holds
end Go.Proofs.Ytdfadiicjkenfaa
