/- For all bytes the law FnDeck returns true: a drawn deck that is run in two parts is as one that is run at once, as the specification's; stopped it stands. -/
import Derived.Test.YtohnddjijedfkaaRows
import Derived.Test.YtohnddjijedfkaaSrck
import Derived.Test.YtohnddjijedfkaaDik
import Derived.Test.YtohnddjijedfkaaDmk
import Derived.Test.YtohnddjijedfkaaDuk
import Derived.Test.YtohnddjijedfkaaDvk
import Derived.Test.YtohnddjijedfkaaDlk
import Derived.Test.YtohnddjijedfkaaDfak
import Derived.WalkKit
import Derived.ProofKit
import Derived.OpenShut
import Derived.ShutString
import Derived.ChangeOld
import Derived.Below
import Derived.Lib.SmallJoins
namespace Go.Proofs.Ytohnddjijedfkaa.fnDeck
open Go.ChangeShapes Go.WideShapes Go.ChangeAt Go.RowKit Go.Joins
open Go.ChangeMaps (open_string shut_string)
set_option linter.unusedVariables false

theorem own : ownKnob Try.prog.godebug = none := by kernel_rfl
theorem laidOut : laidOutB Try.prog = true := by kernel_rfl

def IsRow (k : IntKind) (w : World) (a : Option Addr) (len cap : Nat) (zs : List Int) : Prop :=
  (a = none ∧ len = 0 ∧ cap = 0 ∧ zs = []) ∨
  ∃ x, a = some x ∧ len ≤ cap ∧ cap ≤ maxLen ∧ zs.length = cap ∧ (∀ i, i < zs.length → w.cell? (x.add i) = some (.int k (zs.getD i 0))) ∧ ∀ n ∈ zs, (Lit.int k n).wf = true

set_option maxRecDepth 100000 in
set_option maxHeartbeats 16000000 in
theorem walk (a0 : Option Addr) (len0 cap0 : Nat) (z0 : List Int) (a1 : Option Addr) (len1 cap1 : Nat) (z1 : List Int) (w : World) (w0 : IsRow .u8 w a0 len0 cap0 z0) (w1 : IsRow .u8 w a1 len1 cap1 z1) :
    Calls Try.prog 3 #[.slice a0 len0 cap0, .slice a1 len1 cap1] w fun e w' => e = .returned (.bool true) ∧ Below w.heap.size w w' := by
  have hc0 := codeAt_of w0
  have hc1 := codeAt_of w1
  have hnn : ∀ (zs : List Int) (a : Option Addr) (len cap : Nat), IsRow .u8 w a len cap zs → len ≤ maxLen := by
    intro zs a len cap h
    rcases h with ⟨_, rfl, _, _⟩ | ⟨x, _, hl, hm, _⟩
    · exact Nat.zero_le _
    · omega
  have hl0 := hnn _ _ _ _ w0
  have hl1 := hnn _ _ _ _ w1
  clear hnn w0 w1
  unfold maxLen at hl0 hl1
  by_cases h1 : 1048576 < len0
  · go_enter Try.func3, Try.ntmps3
    go_wp2
    go_ret
    exact ⟨rfl, Below.refl _ _⟩
  by_cases h2 : 1048576 < len1
  · go_enter Try.func3, Try.ntmps3
    go_wp2
    go_ret
    exact ⟨rfl, Below.refl _ _⟩
  have hDD := hid (deckdrawn_any a0 len0 cap0 w hc0 (by omega))
  have hCd : Hid (∀ W, Below w.heap.size w W → CodeAt W W.heap.size a1 len1) := fun W hb => hc1.below hb hb.size
  have hAt : Hid (∀ W, Below w.heap.size w W → ∀ i n : Int, 0 ≤ i → i ≤ 1000000 → n ≤ 1000000000 → Calls Try.prog 8 #[.slice a1 len1 cap1, .int .i64 i, .int .i64 n] W fun e w' => (∃ v : Int, e = .returned (.int .i64 v) ∧ 0 ≤ v ∧ (n ≤ 1 → v = 0) ∧ (2 ≤ n → v < n)) ∧ Below W.heap.size W w') := fun W hb i n q1 q2 q3 => at_any a1 len1 cap1 i n W.heap.size W (hCd.out W hb) (by omega) q1 q2 q3
  clear hc0 hc1 hl0 hl1 hCd
  go_enter Try.func3, Try.ntmps3
  go_wp2_with fail
  refine hDD.out.mono ?_
  rintro e w2 ⟨v2, ⟨T, ix, lf, lv, pl⟩, rfl, hok, hO, hb⟩
  have S2 := (StD.nil w).row hb hO
  obtain ⟨a2, c2, rfl⟩ := hO.form
  replace hok := hid hok
  have S2b := S2.box #[.slice a2 T.length c2, .int .i64 ix, .int .i64 lf, .bool lv, .bool pl] 25
  obtain ⟨b2, hb2⟩ : ∃ b, w2.heap.size = b := ⟨_, rfl⟩
  obtain ⟨V2, hV2⟩ : ∃ W, w2.alloc (.cells #[.slice a2 T.length c2, .int .i64 ix, .int .i64 lf, .bool lv, .bool pl] 25) = W := ⟨_, rfl⟩
  rw [hb2, hV2] at S2b
  replace hV2 := hid hV2
  clear hO hb hDD S2
  go_upto_region 4 with fail
  (try rw [hb2])
  rw [hV2.out]
  clear hb2 hV2
  have S2 := hid S2b
  clear S2b
  go_wp2_with fail
  refine (hAt.out _ S2.out.bel 0 900 (by omega) (by omega) (by omega)).mono ?_
  rintro e w3 ⟨⟨n, rfl, n0, _, n1⟩, hb⟩
  have n2 := n1 (by omega)
  have S3 := hid (S2.out.below hb)
  clear hb S2 n1
  go_wp2_with fail
  refine (hAt.out _ S3.out.bel 1 900 (by omega) (by omega) (by omega)).mono ?_
  rintro e w4 ⟨⟨k, rfl, k0, _, k1⟩, hb⟩
  have k2 := k1 (by omega)
  have S4 := hid (S3.out.below hb)
  clear hb S3 k1 hAt
  obtain ⟨hTl, -⟩ := ok_lens hok.out
  have hTm : T.length ≤ 1048576 := by omega
  have hF := deck_facts hok.out n0 (by omega) k0 (by omega)
  obtain ⟨⟨I1, L1, V1, P1⟩, E1, ⟨I2, L2, V2, P2⟩, E2, E3, C, f1, f2, f3, f4, f5, fE, fb, fs1, fs2, fz, fC⟩ := hF
  obtain ⟨m, hm⟩ : ∃ m, n + k = m := ⟨_, rfl⟩
  rw [hm] at f3
  have hR1 := hid (fun W a c hh => rund_impl a c ⟨T, ix, lf, lv, pl⟩ n W hh hTm)
  have hR2 := hid (fun W a c hh => rund_impl a c ⟨T, I1, L1, V1, P1⟩ k W hh hTm)
  have hR3 := hid (fun W a c hh => rund_impl a c ⟨T, ix, lf, lv, pl⟩ m W hh hTm)
  have hR4 := hid (fun W a c hh => rund_spec a c ⟨T, ix, lf, lv, pl⟩ m W hh hTm)
  have hSt := hid (fun W a c hh => stop_impl a c ⟨T, ix, lf, lv, pl⟩ W hh hTm)
  have hR5 := hid (fun W a c hh => rund_impl a c ⟨T, ix, lf, lv, false⟩ k W hh hTm)
  have hSa := hid (fun W a c a' c' hh hh' => samed_impl a a' c c' ⟨T, I2, L2, V2, P2⟩ ⟨T, I2, L2, V2, P2⟩ W hh hh' hTm hTm)
  have hSs := hid (fun W a c a' c' hh hh' => samed_impl a a' c c' ⟨T, ix, lf, lv, false⟩ ⟨T, ix, lf, lv, false⟩ W hh hh' hTm hTm)
  have hDk := hid (fun W a c hh => deckok_impl a c ⟨T, I2, L2, V2, P2⟩ W hh)
  rw [f1] at hR1
  rw [f2] at hR2
  rw [f3] at hR3 hR4
  rw [f4] at hSt
  rw [f5] at hR5
  rw [fs1] at hSa
  rw [fs2] at hSs
  rw [fz] at hDk
  have hmh : Hid (n + k = m) := hm
  replace fE := hid fE
  replace fC := hid fC
  clear f1 f2 f3 f4 f5 fs1 fs2 fz hm hok
  have xd := (S4.out.at 0 rfl).cell
  go_wp2_with fail
  refine (hR1.out _ _ _ (S4.out.own 1 rfl)).mono ?_
  rintro e w5 ⟨v5, rfl, hG⟩
  have S5 := S4.out.row hG.bel (OwnI.of hG)
  obtain ⟨a5, c5, rfl⟩ := hG.form
  have S5b := S5.box #[.slice a5 T.length c5, .int .i64 I1, .int .i64 L1, .bool V1, .bool P1] 25
  obtain ⟨b5, hb5⟩ : ∃ b, w5.heap.size = b := ⟨_, rfl⟩
  obtain ⟨V5, hV5⟩ : ∃ W, w5.alloc (.cells #[.slice a5 T.length c5, .int .i64 I1, .int .i64 L1, .bool V1, .bool P1] 25) = W := ⟨_, rfl⟩
  rw [hb5, hV5] at S5b
  replace hV5 := hid hV5
  clear hG S4 xd hR1 S5
  go_upto_region 7 with fail
  (try rw [hb5])
  rw [hV5.out]
  clear hb5 hV5
  have S5 := hid S5b
  clear S5b
  have xx := (S5.out.at 0 rfl).cell
  go_wp2_with fail
  refine (hR2.out _ _ _ (S5.out.own 1 rfl)).mono ?_
  rintro e w6 ⟨v6, rfl, hG⟩
  have S6 := S5.out.row hG.bel (OwnI.of hG)
  obtain ⟨a6, c6, rfl⟩ := hG.form
  have S6b := S6.box #[.slice a6 T.length c6, .int .i64 I2, .int .i64 L2, .bool V2, .bool P2] 25
  obtain ⟨b6, hb6⟩ : ∃ b, w6.heap.size = b := ⟨_, rfl⟩
  obtain ⟨V6, hV6⟩ : ∃ W, w6.alloc (.cells #[.slice a6 T.length c6, .int .i64 I2, .int .i64 L2, .bool V2, .bool P2] 25) = W := ⟨_, rfl⟩
  rw [hb6, hV6] at S6b
  replace hV6 := hid hV6
  clear hG S5 xx hR2 S6
  go_upto_region 8 with fail
  (try rw [hb6])
  rw [hV6.out]
  clear hb6 hV6
  have S6 := hid S6b
  clear S6b
  have xd := (S6.out.at 4 rfl).cell
  have hm := hmh.out
  have hm0 : 0 ≤ m ∧ m ≤ 2000 := by omega
  go_wp2_with fail
  refine (hR3.out _ _ _ (S6.out.own 5 rfl)).mono ?_
  rintro e w7 ⟨v7, rfl, hG⟩
  have S7 := S6.out.row hG.bel (OwnI.of hG)
  obtain ⟨a7, c7, rfl⟩ := hG.form
  have S7b := S7.box #[.slice a7 T.length c7, .int .i64 I2, .int .i64 L2, .bool V2, .bool P2] 25
  obtain ⟨b7, hb7⟩ : ∃ b, w7.heap.size = b := ⟨_, rfl⟩
  obtain ⟨V7, hV7⟩ : ∃ W, w7.alloc (.cells #[.slice a7 T.length c7, .int .i64 I2, .int .i64 L2, .bool V2, .bool P2] 25) = W := ⟨_, rfl⟩
  rw [hb7, hV7] at S7b
  replace hV7 := hid hV7
  clear hG S6 xd hR3 S7
  go_upto_region 9 with fail
  (try rw [hb7])
  rw [hV7.out]
  clear hb7 hV7
  have S7 := hid S7b
  clear S7b
  have xd := (S7.out.at 6 rfl).cell
  go_wp2_with fail
  refine (hR4.out _ _ _ (S7.out.own 7 rfl)).mono ?_
  rintro e w8 ⟨v8, rfl, hG⟩
  have S8 := S7.out.row hG.bel (OwnI.of hG)
  obtain ⟨a8, c8, rfl⟩ := hG.form
  have S8b := S8.box #[.slice a8 T.length c8, .int .i64 I2, .int .i64 L2, .bool V2, .bool P2] 25
  obtain ⟨b8, hb8⟩ : ∃ b, w8.heap.size = b := ⟨_, rfl⟩
  obtain ⟨V8, hV8⟩ : ∃ W, w8.alloc (.cells #[.slice a8 T.length c8, .int .i64 I2, .int .i64 L2, .bool V2, .bool P2] 25) = W := ⟨_, rfl⟩
  rw [hb8, hV8] at S8b
  replace hV8 := hid hV8
  clear hG S7 xd hR4 hm S8
  go_upto_region 10 with fail
  (try rw [hb8])
  rw [hV8.out]
  clear hb8 hV8
  have S8 := hid S8b
  clear S8b
  have xd := (S8.out.at 8 rfl).cell
  go_wp2_with fail
  refine (hSt.out _ _ _ (S8.out.own 9 rfl)).mono ?_
  rintro e w9 ⟨v9, rfl, hG⟩
  have S9 := S8.out.row hG.bel (OwnI.of hG)
  obtain ⟨a9, c9, rfl⟩ := hG.form
  have S9b := S9.box #[.slice a9 T.length c9, .int .i64 ix, .int .i64 lf, .bool lv, .bool false] 25
  obtain ⟨b9, hb9⟩ : ∃ b, w9.heap.size = b := ⟨_, rfl⟩
  obtain ⟨V9, hV9⟩ : ∃ W, w9.alloc (.cells #[.slice a9 T.length c9, .int .i64 ix, .int .i64 lf, .bool lv, .bool false] 25) = W := ⟨_, rfl⟩
  rw [hb9, hV9] at S9b
  replace hV9 := hid hV9
  clear hG S8 xd hSt S9
  go_upto_region 11 with fail
  (try rw [hb9])
  rw [hV9.out]
  clear hb9 hV9
  have S9 := hid S9b
  clear S9b
  have xs := (S9.out.at 0 rfl).cell
  go_wp2_with fail
  refine (hR5.out _ _ _ (S9.out.own 1 rfl)).mono ?_
  rintro e w10 ⟨v10, rfl, hG⟩
  have S10 := S9.out.row hG.bel (OwnI.of hG)
  obtain ⟨a10, c10, rfl⟩ := hG.form
  have S10b := S10.box #[.slice a10 T.length c10, .int .i64 ix, .int .i64 lf, .bool lv, .bool false] 25
  obtain ⟨b10, hb10⟩ : ∃ b, w10.heap.size = b := ⟨_, rfl⟩
  obtain ⟨V10, hV10⟩ : ∃ W, w10.alloc (.cells #[.slice a10 T.length c10, .int .i64 ix, .int .i64 lf, .bool lv, .bool false] 25) = W := ⟨_, rfl⟩
  rw [hb10, hV10] at S10b
  replace hV10 := hid hV10
  clear hG S9 xs hR5 S10
  go_upto_region 12 with fail
  (try rw [hb10])
  rw [hV10.out]
  clear hb10 hV10
  have S10 := hid S10b
  clear S10b
  have xy := (S10.out.at 8 rfl).cell
  have xz := (S10.out.at 6 rfl).cell
  go_wp2_with fail
  refine (hSa.out _ _ _ _ _ (S10.out.own 9 rfl) (S10.out.own 7 rfl)).mono ?_
  rintro e w11 ⟨rfl, hb⟩
  have S11 := hid (S10.out.below hb)
  clear hb S10
  clear xy xz
  have xz := (S11.out.at 6 rfl).cell
  have xw := (S11.out.at 4 rfl).cell
  go_wp2_with fail
  refine (hSa.out _ _ _ _ _ (S11.out.own 7 rfl) (S11.out.own 5 rfl)).mono ?_
  rintro e w12 ⟨rfl, hb⟩
  have S12 := hid (S11.out.below hb)
  clear hb S11
  clear xz xw
  have xt := (S12.out.at 0 rfl).cell
  have xs := (S12.out.at 2 rfl).cell
  have xd := (S12.out.at 12 rfl).cell
  have hE3 := fE.out
  have hC0 := fC.out
  have hpl : (pl == pl) = true := by simp
  go_wp2_with fail
  refine (hSs.out _ _ _ _ _ (S12.out.own 1 rfl) (S12.out.own 3 rfl)).mono ?_
  rintro e w13 ⟨rfl, hb⟩
  have S13 := hid (S12.out.below hb)
  clear hb S12 hE3 hC0
  clear xt xs xd
  have xz := (S13.out.at 6 rfl).cell
  go_wp2_with fail
  refine (hDk.out _ _ _ (S13.out.own 7 rfl)).mono ?_
  rintro e w14 ⟨rfl, hb⟩
  have hBe := hid (S13.out.below hb).bel
  clear hb S13 xz
  go_wp2
  go_ret
  exact ⟨rfl, hBe.out⟩

set_option maxRecDepth 100000 in
theorem lifted (os : Os) (started : os.Started) (H : Type) (enc : TypeId × Value → H) :
    ReturnsInHanded {} Try.checked os 3 .any (Rows.fnDeckSpec.pre6 enc Try.prog Try.f3 Rows.fnDeckRow.domain false) (Rows.fnDeckSpec.post enc Try.prog Try.f3 false true false false) := by
  refine returnsInHanded_of_change (C := Try.checked) own started (by kernel_rfl) Try.func3
    (ChangeSpec.witness6 (enc := enc) (C := Try.checked) false ⟨#[], #[.slice none 0 0, .slice none 0 0], []⟩ 8 (by kernel_rfl) (by kernel_rfl) (by kernel_rfl) (by kernel_rfl)) ?_
  intro W base args ds gs before hval0 hW hcnd _
  have hval : ∀ (j : Nat) t v, Try.f3.params[j]? = some t → args[j]? = some v → Value.okWide Try.prog W .any base t v := hval0
  have hW' := hW
  obtain ⟨p, q, hA0, hV, rfl, hfz, hnd⟩ := hW
  have hA : DataW.TrodAll enc Try.prog W 0 (fun _ => true) true Try.f3.params.toList args.toList ds p := hA0
  rw [Try.params3] at hA hval
  obtain ⟨v0, vs0, d0, ds0, p0, q0, hargs, rfl, rfl, h0, r0⟩ := trodAll_cons hA
  obtain ⟨v1, vs1, d1, ds1, p1, q1, rfl, rfl, rfl, h1, r1⟩ := trodAll_cons r0
  obtain ⟨rfl, rfl, rfl⟩ := trodAll_nil r1
  obtain rfl : args = #[v0, v1] := by cases args; simp_all
  obtain ⟨rfl, rfl⟩ := trodVars_none hV
  obtain ⟨a0, len0, cap0, rfl⟩ := okWide_slice Try.underlying22 (hval 0 22 v0 rfl rfl)
  have k0 := h0
  have lt0 : ∀ x ∈ p0, x.block < W.heap.size := by obtain ⟨m, hm⟩ := k0; exact DataW.trod_lt m _ _ _ hm
  obtain ⟨z0, w0⟩ : ∃ zs, IsRow .u8 W a0 len0 cap0 zs := by
    obtain ⟨fuel, hf⟩ := h0
    rcases open_ints Try.underlying22 Try.underlying5 (by kernel_rfl) hf with ⟨hcs, _⟩ | ⟨x, l, c, zs, hcs, _, hl, hm, hz, _, hcell, hwz⟩
    · simp [Value.cells] at hcs
      obtain ⟨rfl, rfl, rfl⟩ := hcs
      exact ⟨[], .inl ⟨rfl, rfl, rfl, rfl⟩⟩
    · simp [Value.cells] at hcs
      obtain ⟨rfl, rfl, rfl⟩ := hcs
      exact ⟨zs, .inr ⟨_, rfl, hl, hm, by simpa using hz, hcell, hwz⟩⟩
  obtain ⟨a1, len1, cap1, rfl⟩ := okWide_slice Try.underlying22 (hval 1 22 v1 rfl rfl)
  have k1 := h1
  have lt1 : ∀ x ∈ p1, x.block < W.heap.size := by obtain ⟨m, hm⟩ := k1; exact DataW.trod_lt m _ _ _ hm
  obtain ⟨z1, w1⟩ : ∃ zs, IsRow .u8 W a1 len1 cap1 zs := by
    obtain ⟨fuel, hf⟩ := h1
    rcases open_ints Try.underlying22 Try.underlying5 (by kernel_rfl) hf with ⟨hcs, _⟩ | ⟨x, l, c, zs, hcs, _, hl, hm, hz, _, hcell, hwz⟩
    · simp [Value.cells] at hcs
      obtain ⟨rfl, rfl, rfl⟩ := hcs
      exact ⟨[], .inl ⟨rfl, rfl, rfl, rfl⟩⟩
    · simp [Value.cells] at hcs
      obtain ⟨rfl, rfl, rfl⟩ := hcs
      exact ⟨zs, .inr ⟨_, rfl, hl, hm, by simpa using hz, hcell, hwz⟩⟩
  clear hA0 hval0
  refine (walk a0 len0 cap0 z0 a1 len1 cap1 z1 W w0 w1).mono fun e W' ⟨he, bel⟩ => ?_
  subst he
  exact ⟨_, rfl, _, _, _, [], _, [], hW', (trodAll_cons_mk (shut_bool Try.underlying4 _) trodAll_mk0), (trodAll_cons_mk (Below.trod laidOut (by kernel_rfl) (of_decide_eq_true (by kernel_rfl)) k0 bel lt0) (trodAll_cons_mk (Below.trod laidOut (by kernel_rfl) (of_decide_eq_true (by kernel_rfl)) k1 bel lt1) trodAll_mk0)), rfl, bel.frame _, fun h => by cases h⟩

theorem said : Rows.FnDeckSaid :=
  OpenClaim.holds_of_wide 3 Try.f3 rfl rfl rfl rfl rfl rfl rfl ⟨rfl, rfl, rfl, rfl, rfl⟩ rfl rfl rfl rfl rfl (by kernel_rfl) Try.func3 (by kernel_rfl)
    (of_decide_eq_true (by kernel_rfl)) (by unfold Func.isWrapper; first | (rw [if_pos (by decide +kernel)]; kernel_rfl) | (rw [if_neg (by decide +kernel)]; exact ⟨rfl, rfl⟩))
    (fun os started H enc _ => lifted os started H enc)
end Go.Proofs.Ytohnddjijedfkaa.fnDeck
namespace Go.Proofs.Ytohnddjijedfkaa
theorem fnDeck_holds : Rows.FnDeckSaid := fnDeck.said
#print axioms fnDeck_holds
end Go.Proofs.Ytohnddjijedfkaa
