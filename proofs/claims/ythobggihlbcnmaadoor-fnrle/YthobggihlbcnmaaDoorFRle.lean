/- For all bytes the law FnRle returns true: what is compressed is expanded to what it was, and is not longer than twice; runs are told as the specification tells them. -/
import Derived.Test.YthobggihlbcnmaaDoorCards
import Derived.Test.YthobggihlbcnmaaDoorTie
import Derived.Test.YthobggihlbcnmaaDoorSrc
import Derived.Test.YthobggihlbcnmaaDoorLe
import Derived.Test.YthobggihlbcnmaaDoorLf
import Derived.Test.YthobggihlbcnmaaDoorLo
import Derived.Test.YthobggihlbcnmaaDoorLt
import Derived.Test.YthobggihlbcnmaaDoorEl
import Derived.WalkKit
import Derived.ProofKit
import Derived.OpenShut
import Derived.ShutString
import Derived.ChangeOld
import Derived.Below
import Derived.LaidMore
import Derived.OpenVars
import Derived.SevenTiedAt
import Derived.Stop.Joined
import Derived.Lib.SmallJoins
namespace Go.Proofs.YthobggihlbcnmaaDoor.fnRle
open Go.ChangeShapes Go.WideShapes Go.ChangeAt Go.RowKit Go.Joins
open Go.ChangeMaps (open_string shut_string)
set_option linter.unusedVariables false

theorem own : ownKnob Tryd.prog.godebug = none := by kernel_rfl
theorem laidOut : laidOutB Tryd.prog = true := by kernel_rfl

def IsRow (k : IntKind) (w : World) (a : Option Addr) (len cap : Nat) (zs : List Int) : Prop :=
  (a = none ∧ len = 0 ∧ cap = 0 ∧ zs = []) ∨
  ∃ x, a = some x ∧ len ≤ cap ∧ cap ≤ maxLen ∧ zs.length = cap ∧ (∀ i, i < zs.length → w.cell? (x.add i) = some (.int k (zs.getD i 0))) ∧ ∀ n ∈ zs, (Lit.int k n).wf = true

set_option maxRecDepth 100000 in
set_option maxHeartbeats 8000000 in
theorem walk (a0 : Option Addr) (len0 cap0 : Nat) (z0 : List Int) (a1 : Option Addr) (len1 cap1 : Nat) (z1 : List Int) (w : World) (w0 : IsRow .u8 w a0 len0 cap0 z0) (w1 : IsRow .u8 w a1 len1 cap1 z1) (hL : ∃ e0 e1 e2, Errs w e0 e1 e2) :
    Calls Tryd.prog 3 #[.slice a0 len0 cap0, .slice a1 len1 cap1] w fun e w' => e = .returned (.bool true) ∧ Below w.heap.size w w' := by
  obtain ⟨e0, e1, e2, hE⟩ := hL
  replace hE := hid hE
  have hc0 := codeAt_of w0
  have hc1 := codeAt_of w1
  have hnn : ∀ (zs : List Int) (a : Option Addr) (len cap : Nat), IsRow .u8 w a len cap zs → len ≤ maxLen := by
    intro zs a len cap h
    rcases h with ⟨_, rfl, _, _⟩ | ⟨x, _, hl, hm, _⟩
    · exact Nat.zero_le _
    · omega
  have hl0 := hnn _ _ _ _ w0
  have hl1 := hnn _ _ _ _ w1
  clear hnn w0 w1
  unfold maxLen at hl0 hl1
  by_cases h1 : 1048576 < len0
  · go_enter Tryd.func3, Tryd.ntmps3
    go_wp2
    go_ret
    exact ⟨rfl, Below.refl _ _⟩
  by_cases h2 : 1048576 < len1
  · go_enter Tryd.func3, Tryd.ntmps3
    go_wp2
    go_ret
    exact ⟨rfl, Below.refl _ _⟩
  have hDD := hid (runsdrawn_any a0 len0 cap0 w hc0 (by omega))
  have hCd : Hid (∀ W, Below w.heap.size w W → CodeAt W W.heap.size a1 len1) := fun W hb => hc1.below hb hb.size
  have hAt : Hid (∀ W, Below w.heap.size w W → ∀ i n : Int, 0 ≤ i → i ≤ 1000000 → n ≤ 1000000000 → Calls Tryd.prog 9 #[.slice a1 len1 cap1, .int .i64 i, .int .i64 n] W fun e w' => (∃ v : Int, e = .returned (.int .i64 v) ∧ 0 ≤ v ∧ (n ≤ 1 → v = 0) ∧ (2 ≤ n → v < n)) ∧ Below W.heap.size W w') := fun W hb i n q1 q2 q3 => at_any a1 len1 cap1 i n W.heap.size W (hCd.out W hb) (by omega) q1 q2 q3
  clear hc0 hc1 hl0 hl1 hCd
  go_enter Tryd.func3, Tryd.ntmps3
  go_wp2_with fail
  refine hDD.out.mono ?_
  rintro e w2 ⟨⟨t, rfl, ht⟩, hb⟩
  have B2 := hid hb
  clear hb hDD
  obtain ⟨x, f1, f2, f3, y, f4⟩ := rle_facts (t := t) (by omega)
  have htm : t.size ≤ maxLen := by unfold maxLen; omega
  have hxm : x.size ≤ maxLen := by unfold maxLen; omega
  have hI1 := hid (fun W => cmp_impl t W htm)
  have hS1 := hid (fun W => cmp_spec t W htm)
  have hI2 := hid (fun W (hb : Below w.heap.size w W) => exp_implE x (t.size : Int) e0 e1 e2 W hxm (hE.out.below hb))
  have hI3 := hid (fun W (hb : Below w.heap.size w W) => exp_implE x ((t.size : Int) + 1) e0 e1 e2 W hxm (hE.out.below hb))
  rw [f1] at hI1 hS1
  rw [f3] at hI2
  rw [f4] at hI3
  have hRa := hid (fun k (hk : k < t.size) => rat_facts (t := t) (by omega) hk)
  have hlen : ¬ 2 * (t.size : Int) < (x.size : Int) := by omega
  clear f1 f2 f3 f4
  go_wp2_with fail
  refine (hI1.out _).mono ?_
  rintro e w3 ⟨rfl, hb⟩
  have B3 := hid (new_trans B2.out hb)
  clear hb B2 hI1
  go_wp2_with fail
  refine (hS1.out _).mono ?_
  rintro e w4 ⟨rfl, hb⟩
  have B4 := hid (new_trans B3.out hb)
  clear hb B3 hS1
  go_wp2_with fail
  refine (hI2.out _ B4.out).mono ?_
  rintro e w5 ⟨rfl, hb⟩
  have B5 := hid (new_trans B4.out hb)
  clear hb B4 hI2
  go_wp2_with fail
  refine (hI3.out _ B5.out).mono ?_
  rintro e w6 ⟨rfl, hb⟩
  have B6 := hid (new_trans B5.out hb)
  clear hb B5 hI3
  have h00 : Hid (t.size = 0) ∨ Hid (0 < t.size) := by
    rcases Nat.eq_zero_or_pos t.size with h | h
    · exact .inl h
    · exact .inr h
  rcases h00 with h0 | h0
  · have ht0 : t = ⟨#[]⟩ := by
      have := h0.out
      cases t with
      | mk d =>
        congr 1
        exact Array.eq_empty_of_size_eq_zero this
    have hx0 : ¬ (0 : Int) < (x.size : Int) := by have := h0.out; omega
    subst ht0
    clear hlen
    clear hRa h0
    go_wp2
    go_ret
    exact ⟨rfl, B6.out⟩
  · have hte : (t.toList == ([] : List UInt8)) = false := by
      rw [beq_eq_false_iff_ne]
      intro e
      have h := h0.out
      have h2 : t.toList.length = t.size := by rw [bl_listL]; simp
      rw [e] at h2
      simp at h2
      omega
    go_wp2_with fail
    refine (hAt.out _ B6.out 0 (t.size : Int) (by omega) (by omega) (by omega)).mono ?_
    rintro e w7 ⟨⟨kk, rfl, k0, k1, k2⟩, hb⟩
    obtain ⟨k, rfl⟩ : ∃ k : Nat, kk = (k : Int) := ⟨kk.toNat, by omega⟩
    have hkT : k < t.size := by
      have := h0.out
      by_cases h1 : (t.size : Int) ≤ 1
      · have := k1 h1
        omega
      · have := k2 (by omega)
        omega
    have B7 := hid (new_trans B6.out hb)
    clear hb B6 k0 k1 k2 hAt
    obtain ⟨n, r1, r2, r3, r4, r5⟩ := hRa.out k hkT
    have hI4 := hid (fun W => rat_impl t (k : Int) W htm)
    have hS4 := hid (fun W => rat_spec t (k : Int) W htm)
    rw [r1] at hI4 hS4
    clear r1 hRa
    go_wp2_with fail
    refine (hI4.out _).mono ?_
    rintro e w8 ⟨rfl, hb⟩
    have B8 := hid (new_trans B7.out hb)
    clear hb B7 hI4
    go_wp2_with fail
    refine (hS4.out _).mono ?_
    rintro e w9 ⟨rfl, hb⟩
    have B9 := hid (new_trans B8.out hb)
    clear hb B8 hS4
    obtain ⟨q, hq⟩ : ∃ q : Nat, k + n = q := ⟨_, rfl⟩
    have hqI : (k : Int) + (n : Int) = (q : Int) := by omega
    have hqw : IntKind.i64.wrap (q : Int) = (q : Int) := by rw [IntKind.wrap_i64]; omega
    obtain ⟨r, hr⟩ : ∃ r : Nat, q - 1 = r := ⟨_, rfl⟩
    have hrI : (q : Int) - 1 = (r : Int) := by omega
    have hrw : IntKind.i64.wrap (r : Int) = (r : Int) := by rw [IntKind.wrap_i64]; omega
    have hx1 := run_idx t (r : Int) (k + n - 1) (by omega) (by omega)
    have hx2 := run_idx t (k : Int) k rfl hkT
    rw [r5] at hx1
    have hn1 : (1 : Int) ≤ (n : Int) := by omega
    have hn2 : (n : Int) ≤ 255 := by omega
    have hnn : ((n : Int) == (n : Int)) = true := by simp
    generalize byt t k = Bk at *
    have hBk : (Bk == Bk) = true := by simp
    clear hq hr r2 r3 r4 r5
    go_wp2
    go_quiet (fail)
    go_wp2
    go_ret
    exact ⟨rfl, B9.out.trans (⟨rfl, rfl, rfl, Nat.le_refl _, fun _ _ => rfl⟩)⟩

theorem door_met (os : Os) (args : Array Value) : laidMetH Tryd.prog Rows.fnRleRow.laid ((World.doorLaid Tryd.prog 400 os).forCall (fun _ _ => 0) ⟨#[], args, []⟩).memory :=
  laidMetH_of_parts3 (fuel := 8) (laidMet_of_run' 8 (by kernel_rfl) (by kernel_rfl)) (by kernel_rfl) (by kernel_rfl)

set_option maxRecDepth 100000 in
theorem lifted (os : Os) (started : os.Started) (H : Type) (enc : TypeId × Value → H) :
    ReturnsInHanded {} Tryd.checked os 3 .any (fun w args => (Rows.fnRleSpec.pre enc Tryd.prog Tryd.f3 [] false w args ∧ laidMetH Tryd.prog Rows.fnRleRow.laid w) ∧ sizedMet enc Tryd.prog Tryd.f3 (OpenSpec.ofChange Rows.fnRleSpec) false w args)
      (Rows.fnRleSpec.post enc Tryd.prog Tryd.f3 false true false false) := by
  refine returnsInHanded_of_change_and (C := Tryd.checked) (X := fun w _ => laidMetH Tryd.prog Rows.fnRleRow.laid w) (fun _ _ _ hh h => h.of_heap hh) own started (by kernel_rfl) Tryd.func3
    (ChangeSpec.witness_shaped (enc := enc) (C := Tryd.checked) (os := os) (X := fun w _ => laidMetH Tryd.prog Rows.fnRleRow.laid w) false (World.doorLaid Tryd.prog 400 os) #[.slice none 0 0, .slice none 0 0] 8 rfl (World.shaped_of_RefB (by kernel_rfl) (by kernel_rfl)) (by kernel_rfl) (by kernel_rfl) (by kernel_rfl) (door_met os _)) ?_
  intro W base args ds gs before hval0 hW _ _ hL _
  have hval : ∀ (j : Nat) t v, Tryd.f3.params[j]? = some t → args[j]? = some v → Value.okWide Tryd.prog W .any base t v := hval0
  have hW' := hW
  obtain ⟨p, q, hA0, hV, hbefore, hfz, hnd⟩ := hW
  have hA : DataW.TrodAll enc Tryd.prog W 0 (fun _ => true) true Tryd.f3.params.toList args.toList ds p := hA0
  rw [Tryd.params3] at hA hval
  obtain ⟨v0, vs0, d0, ds0, p0, q0, hargs, rfl, rfl, h0, r0⟩ := trodAll_cons hA
  obtain ⟨v1, vs1, d1, ds1, p1, q1, rfl, rfl, rfl, h1, r1⟩ := trodAll_cons r0
  obtain ⟨rfl, rfl, rfl⟩ := trodAll_nil r1
  obtain rfl : args = #[v0, v1] := by cases args; simp_all
  obtain ⟨g0, g1, g2, rfl⟩ := vars3_form hV
  obtain ⟨a0, len0, cap0, rfl⟩ := okWide_slice Tryd.underlying22 (hval 0 22 v0 rfl rfl)
  have k0 := h0
  have lt0 : ∀ x ∈ p0, x.block < W.heap.size := by obtain ⟨m, hm⟩ := k0; exact DataW.trod_lt m _ _ _ hm
  obtain ⟨z0, w0⟩ : ∃ zs, IsRow .u8 W a0 len0 cap0 zs := by
    obtain ⟨fuel, hf⟩ := h0
    rcases open_ints Tryd.underlying22 Tryd.underlying5 (by kernel_rfl) hf with ⟨hcs, _⟩ | ⟨x, l, c, zs, hcs, _, hl, hm, hz, _, hcell, hwz⟩
    · simp [Value.cells] at hcs
      obtain ⟨rfl, rfl, rfl⟩ := hcs
      exact ⟨[], .inl ⟨rfl, rfl, rfl, rfl⟩⟩
    · simp [Value.cells] at hcs
      obtain ⟨rfl, rfl, rfl⟩ := hcs
      exact ⟨zs, .inr ⟨_, rfl, hl, hm, by simpa using hz, hcell, hwz⟩⟩
  obtain ⟨a1, len1, cap1, rfl⟩ := okWide_slice Tryd.underlying22 (hval 1 22 v1 rfl rfl)
  have k1 := h1
  have lt1 : ∀ x ∈ p1, x.block < W.heap.size := by obtain ⟨m, hm⟩ := k1; exact DataW.trod_lt m _ _ _ hm
  obtain ⟨z1, w1⟩ : ∃ zs, IsRow .u8 W a1 len1 cap1 zs := by
    obtain ⟨fuel, hf⟩ := h1
    rcases open_ints Tryd.underlying22 Tryd.underlying5 (by kernel_rfl) hf with ⟨hcs, _⟩ | ⟨x, l, c, zs, hcs, _, hl, hm, hz, _, hcell, hwz⟩
    · simp [Value.cells] at hcs
      obtain ⟨rfl, rfl, rfl⟩ := hcs
      exact ⟨[], .inl ⟨rfl, rfl, rfl, rfl⟩⟩
    · simp [Value.cells] at hcs
      obtain ⟨rfl, rfl, rfl⟩ := hcs
      exact ⟨zs, .inr ⟨_, rfl, hl, hm, by simpa using hz, hcell, hwz⟩⟩
  clear hA0 hval0
  refine (walk a0 len0 cap0 z0 a1 len1 cap1 z1 W w0 w1 (errs_of hL)).mono fun e W' ⟨he, bel⟩ => ?_
  subst he
  exact ⟨_, rfl, _, _, _, [], _, _, hW', trodAll_mk1 (shut_bool Tryd.underlying4 _), (trodAll_cons_mk (Below.trod laidOut (by kernel_rfl) (of_decide_eq_true (by kernel_rfl)) k0 bel lt0) (trodAll_cons_mk (Below.trod laidOut (by kernel_rfl) (of_decide_eq_true (by kernel_rfl)) k1 bel lt1) trodAll_mk0)), Below.trodVars laidOut bel (by kernel_rfl) hV, bel.frame _, fun h => by cases h⟩

theorem said : Rows.FnRleSaid :=
  OpenClaim.holds_of_wide 3 Tryd.f3 rfl rfl rfl rfl rfl rfl rfl ⟨rfl, rfl, rfl, rfl, rfl⟩ rfl rfl rfl rfl rfl (by kernel_rfl) Tryd.func3 (by kernel_rfl)
    (of_decide_eq_true (by kernel_rfl)) (by unfold Func.isWrapper; first | (rw [if_pos (by decide +kernel)]; kernel_rfl) | (rw [if_neg (by decide +kernel)]; exact ⟨rfl, rfl⟩))
    (fun os started H enc _ => lifted os started H enc)

theorem card : Rows.FnRleCardSaid :=
  Claim7.holds_tied_plain_at .later [] _ _ _ _ said (fun _ h => by cases h) (by kernel_rfl) (fun _ h => by cases h) fnRle_row_tie rfl ⟨rfl, rfl⟩ (by kernel_rfl) rfl
    (fun f fn hf hfn => by
      obtain rfl : f = 3 := Option.some.inj ((show Tryd.prog.funcNamed "loop.example/g00644/laws.FnRle" = some 3 by kernel_rfl).symm.trans hf) |>.symm
      obtain rfl : fn = Tryd.f3 := (Option.some.inj (Tryd.func3.symm.trans hfn)).symm
      exact ⟨by kernel_rfl, fun j t ht => by
        rw [Tryd.params3] at ht
        have hm : t ∈ [22, 22] := by simpa using Array.mem_of_getElem? ht
        have hall : ([22, 22].all fun u => !Tryd.prog.wantsStandIn u) = true := by kernel_rfl
        exact (show Tryd.prog.wantsStandIn t = false by simpa using List.all_eq_true.1 hall t hm)⟩)
    (by kernel_rfl)
end Go.Proofs.YthobggihlbcnmaaDoor.fnRle
namespace Go.Proofs.YthobggihlbcnmaaDoor
theorem fnRle_holds : Rows.FnRleCardSaid := fnRle.card
#print axioms fnRle_holds
end Go.Proofs.YthobggihlbcnmaaDoor
