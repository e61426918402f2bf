/- For all bytes the law FnHex returns true: bytes are read back from their digits, what is xored twice is nothing, and Parity counts the bits. -/
import Derived.Test.YtaadobdanhpkkaaRows
import Derived.Test.YtaadobdanhpkkaaBase
import Derived.Test.YtaadobdanhpkkaaSrc
import Derived.Test.YtaadobdanhpkkaaHx
import Derived.Test.YtaadobdanhpkkaaBy
import Derived.Test.YtaadobdanhpkkaaXo
import Derived.Test.YtaadobdanhpkkaaPa
import Derived.Test.YtaadobdanhpkkaaHm
import Derived.WalkKit
import Derived.ProofKit
import Derived.OpenShut
import Derived.ShutString
import Derived.ChangeOld
import Derived.Below
namespace Go.Proofs.Ytaadobdanhpkkaa.fnHex
open Go.ChangeShapes Go.WideShapes Go.ChangeAt Go.RowKit
open Go.ChangeMaps (open_string shut_string)
set_option linter.unusedVariables false

theorem own : ownKnob Try.prog.godebug = none := by kernel_rfl
theorem laidOut : laidOutB Try.prog = true := by kernel_rfl

/-- WHAT THE WALK IS TOLD OF A SLICE OF INTEGERS THAT CAME IN: it is nil; or it leads to a row of 'cap' cells, the numbers 'zs' (the first 'len' are its elements, the rest its spare room), each fitting its kind. -/
def IsRow (k : IntKind) (w : World) (a : Option Addr) (len cap : Nat) (zs : List Int) : Prop :=
  (a = none ∧ len = 0 ∧ cap = 0 ∧ zs = []) ∨
  ∃ x, a = some x ∧ len ≤ cap ∧ cap ≤ maxLen ∧ zs.length = cap ∧ (∀ i, i < zs.length → w.cell? (x.add i) = some (.int k (zs.getD i 0))) ∧ ∀ n ∈ zs, (Lit.int k n).wf = true

theorem walk (a0 : Option Addr) (len0 cap0 : Nat) (z0 : List Int) (a1 : Option Addr) (len1 cap1 : Nat) (z1 : List Int) (w : World) (w0 : IsRow .u8 w a0 len0 cap0 z0) (w1 : IsRow .u8 w a1 len1 cap1 z1) :
    Calls Try.prog 3 #[.slice a0 len0 cap0, .slice a1 len1 cap1] w fun e w' => e = .returned (.bool true) ∧ Below w.heap.size w w' := by
  have hc0 := codeAt_of w0
  have hc1 := codeAt_of w1
  have hnn : ∀ (zs : List Int) (a : Option Addr) (len cap : Nat), IsRow .u8 w a len cap zs → len ≤ maxLen := by
    intro zs a len cap h
    rcases h with ⟨_, rfl, _, _⟩ | ⟨x, _, hl, hm, _⟩
    · exact Nat.zero_le _
    · omega
  have hl0 := hnn _ _ _ _ w0
  have hl1 := hnn _ _ _ _ w1
  clear hnn w0 w1
  unfold maxLen at hl0 hl1
  by_cases h1 : 1048576 < len0
  · go_enter Try.func3, Try.ntmps3
    go_wp2
    go_ret
    exact ⟨rfl, Below.refl _ _⟩
  by_cases h2 : 1048576 < len1
  · go_enter Try.func3, Try.ntmps3
    go_wp2
    go_ret
    exact ⟨rfl, Below.refl _ _⟩
  go_enter Try.func3, Try.ntmps3
  go_wp2_with fail
  refine (at_any _ _ _ _ _ _ _ hc0 (by omega) (by omega) (by omega) (by omega)).mono ?_
  rintro e w1 ⟨⟨v, rfl, hv0, _, hv1⟩, hb1⟩
  have hv2 := hv1 (by omega)
  clear hv1
  obtain ⟨m, hm⟩ : ∃ m : Nat, 1 + v = (m : Int) := ⟨(1 + v).toNat, by omega⟩
  go_wp2_with fail
  refine (text_any _ _ _ _ _ (hc0.below hb1 hb1.size) (by omega) (by omega)).mono ?_
  rintro e w2 ⟨⟨xs, rfl, hx1, hx2⟩, hb2⟩
  have hbb := bytes_back xs hx2 (by omega)
  have hsz : (strOfNums xs).size = m := by rw [strOfNums_size, hx1]
  have hxx := xor_twice (strOfNums xs) (by omega)
  have B2 : Below w.heap.size w w2 := hb1.trans (hb2.mono hb1.size)
  have hm9 : m ≤ 9 := by omega
  clear hb1 hb2 hx1 hx2 hm
  generalize strOfNums xs = T at hbb hsz hxx ⊢
  obtain ⟨hbb1, hbb2⟩ := hbb
  have hT : T.size ≤ maxLen := by unfold maxLen; omega
  have hHT : (hexV T).size ≤ maxLen := by unfold maxLen; omega
  go_wp2_with fail
  refine (hex_impl _ _ hT).mono ?_
  rintro e w3 ⟨rfl, hb3⟩
  go_wp2_with fail
  refine (bytes_impl _ _ hHT).mono ?_
  rintro e w4 ⟨rfl, hb4⟩
  go_wp2_with fail
  refine (xor_impl _ _ hT).mono ?_
  rintro e w5 ⟨rfl, rfl⟩
  have B4 : Below w.heap.size w w5 := (B2.trans (hb3.mono B2.size)).trans (hb4.mono (by have := B2.size; have := hb3.size; omega))
  clear B2 hb3 hb4
  go_wp2_with fail
  refine (at_any _ _ _ _ _ _ _ (hc1.below B4 (Nat.le_refl _)) (by omega) (by omega) (by omega) (by omega)).mono ?_
  rintro e w6 ⟨⟨v6, rfl, hv60, _, hv61⟩, hb6⟩
  have hv62 := hv61 (by omega)
  clear hv61
  have B6 : Below w.heap.size w w6 := B4.trans hb6
  clear B4 hb6
  go_wp2
  obtain ⟨V, rfl⟩ : ∃ V : Nat, v6 = (V : Int) := ⟨v6.toNat, by omega⟩
  go_loop [11, 12] (fun k i => ∃ j : Nat, j ≤ 8 ∧ i = .int .i64 j ∧ ∃ q : Nat, q ≤ j ∧ k = .int .i64 q ∧ q = bsum V j) (fun _ i => 8 - (intOf i).toNat)
  case atStart => exact ⟨0, by omega, rfl, 0, by omega, rfl, rfl⟩
  case round =>
    obtain ⟨j, hj, rfl, q, hq, rfl, hqe⟩ := hrel
    by_cases hlt : j < 8
    · have hj8 : j = 0 ∨ j = 1 ∨ j = 2 ∨ j = 3 ∨ j = 4 ∨ j = 5 ∨ j = 6 ∨ j = 7 := by omega
      have HQ : Hid (q = bsum V j) := hqe
      clear hqe
      have b0 := i64_and1 V (by omega)
      have b1 := i64_and1 (V / 2) (by omega)
      have b2 := i64_and1 (V / 4) (by omega)
      have b3 := i64_and1 (V / 8) (by omega)
      have b4 := i64_and1 (V / 16) (by omega)
      have b5 := i64_and1 (V / 32) (by omega)
      have b6 := i64_and1 (V / 64) (by omega)
      have b7 := i64_and1 (V / 128) (by omega)
      simp only [Int.natCast_ediv, Int.cast_ofNat_Int] at b1 b2 b3 b4 b5 b6 b7
      rcases hj8 with rfl | rfl | rfl | rfl | rfl | rfl | rfl | rfl
      · have HS : Hid (q + V % 2 = bsum V 1) := by have h := bsum_succ V 0 q HQ.out; unfold Hid; simpa using h
        go_wp2
        go_round
        case rel => exact ⟨1, by omega, rfl, q + V % 2, by omega, by go_num, HS.out⟩
        case measure => simp [intOf]
      · have HS : Hid (q + V / 2 % 2 = bsum V 2) := by have h := bsum_succ V 1 q HQ.out; unfold Hid; simpa using h
        go_wp2
        go_round
        case rel => exact ⟨2, by omega, rfl, q + V / 2 % 2, by omega, by go_num, HS.out⟩
        case measure => simp [intOf]
      · have HS : Hid (q + V / 4 % 2 = bsum V 3) := by have h := bsum_succ V 2 q HQ.out; unfold Hid; simpa using h
        go_wp2
        go_round
        case rel => exact ⟨3, by omega, rfl, q + V / 4 % 2, by omega, by go_num, HS.out⟩
        case measure => simp [intOf]
      · have HS : Hid (q + V / 8 % 2 = bsum V 4) := by have h := bsum_succ V 3 q HQ.out; unfold Hid; simpa using h
        go_wp2
        go_round
        case rel => exact ⟨4, by omega, rfl, q + V / 8 % 2, by omega, by go_num, HS.out⟩
        case measure => simp [intOf]
      · have HS : Hid (q + V / 16 % 2 = bsum V 5) := by have h := bsum_succ V 4 q HQ.out; unfold Hid; simpa using h
        go_wp2
        go_round
        case rel => exact ⟨5, by omega, rfl, q + V / 16 % 2, by omega, by go_num, HS.out⟩
        case measure => simp [intOf]
      · have HS : Hid (q + V / 32 % 2 = bsum V 6) := by have h := bsum_succ V 5 q HQ.out; unfold Hid; simpa using h
        go_wp2
        go_round
        case rel => exact ⟨6, by omega, rfl, q + V / 32 % 2, by omega, by go_num, HS.out⟩
        case measure => simp [intOf]
      · have HS : Hid (q + V / 64 % 2 = bsum V 7) := by have h := bsum_succ V 6 q HQ.out; unfold Hid; simpa using h
        go_wp2
        go_round
        case rel => exact ⟨7, by omega, rfl, q + V / 64 % 2, by omega, by go_num, HS.out⟩
        case measure => simp [intOf]
      · have HS : Hid (q + V / 128 % 2 = bsum V 8) := by have h := bsum_succ V 7 q HQ.out; unfold Hid; simpa using h
        go_wp2
        go_round
        case rel => exact ⟨8, by omega, rfl, q + V / 128 % 2, by omega, by go_num, HS.out⟩
        case measure => simp [intOf]
    · obtain rfl : j = 8 := by omega
      subst hqe
      have hpar := par_bsum ⟨V, by omega⟩
      simp only at hpar
      have hTT : (T ++ T).size ≤ maxLen := by rw [ByteArray.size_append]; unfold maxLen; omega
      have hTT2 : (T ++ T).size = T.size + T.size := ByteArray.size_append
      go_wp2_with (first | (go_at_call 9; refine (hexof_spec _ _ hT).mono ?_; rintro e w7 ⟨rfl, hb7⟩) | (go_at_call 10; refine (xorof_spec _ _ hT).mono ?_; rintro e w8 ⟨rfl, rfl⟩) | (go_at_call 8; refine (xor_impl _ _ hTT).mono ?_; rintro e w9 ⟨rfl, rfl⟩) | (go_at_call 11; refine (par_impl _ _).mono ?_; rintro e w10 ⟨rfl, rfl⟩))
      go_ret
      exact ⟨rfl, B6.trans ((show Below _ _ _ from by assumption).mono B6.size)⟩

set_option maxRecDepth 100000 in
theorem lifted (os : Os) (started : os.Started) (H : Type) (enc : TypeId × Value → H) :
    ReturnsInHanded {} Try.checked os 3 .any (Rows.fnHexSpec.pre6 enc Try.prog Try.f3 Rows.fnHexRow.domain false) (Rows.fnHexSpec.post enc Try.prog Try.f3 false true false false) := by
  refine returnsInHanded_of_change (C := Try.checked) own started (by kernel_rfl) Try.func3
    (ChangeSpec.witness6 (enc := enc) (C := Try.checked) false ⟨#[], #[.slice none 0 0, .slice none 0 0], []⟩ 8 (by kernel_rfl) (by kernel_rfl) (by kernel_rfl) (by kernel_rfl)) ?_
  intro W base args ds gs before hval0 hW hcnd _
  have hval : ∀ (j : Nat) t v, Try.f3.params[j]? = some t → args[j]? = some v → Value.okWide Try.prog W .any base t v := hval0
  have hW' := hW
  obtain ⟨p, q, hA0, hV, rfl, hfz, hnd⟩ := hW
  have hA : DataW.TrodAll enc Try.prog W 0 (fun _ => true) true Try.f3.params.toList args.toList ds p := hA0
  rw [Try.params3] at hA hval
  obtain ⟨v0, vs0, d0, ds0, p0, q0, hargs, rfl, rfl, h0, r0⟩ := trodAll_cons hA
  obtain ⟨v1, vs1, d1, ds1, p1, q1, rfl, rfl, rfl, h1, r1⟩ := trodAll_cons r0
  obtain ⟨rfl, rfl, rfl⟩ := trodAll_nil r1
  obtain rfl : args = #[v0, v1] := by cases args; simp_all
  obtain ⟨rfl, rfl⟩ := trodVars_none hV
  obtain ⟨a0, len0, cap0, rfl⟩ := okWide_slice Try.underlying22 (hval 0 22 v0 rfl rfl)
  have k0 := h0
  have lt0 : ∀ x ∈ p0, x.block < W.heap.size := by obtain ⟨m, hm⟩ := k0; exact DataW.trod_lt m _ _ _ hm
  obtain ⟨z0, w0⟩ : ∃ zs, IsRow .u8 W a0 len0 cap0 zs := by
    obtain ⟨fuel, hf⟩ := h0
    rcases open_ints Try.underlying22 Try.underlying5 (by kernel_rfl) hf with ⟨hcs, _⟩ | ⟨x, l, c, zs, hcs, _, hl, hm, hz, _, hcell, hwz⟩
    · simp [Value.cells] at hcs
      obtain ⟨rfl, rfl, rfl⟩ := hcs
      exact ⟨[], .inl ⟨rfl, rfl, rfl, rfl⟩⟩
    · simp [Value.cells] at hcs
      obtain ⟨rfl, rfl, rfl⟩ := hcs
      exact ⟨zs, .inr ⟨_, rfl, hl, hm, by simpa using hz, hcell, hwz⟩⟩
  obtain ⟨a1, len1, cap1, rfl⟩ := okWide_slice Try.underlying22 (hval 1 22 v1 rfl rfl)
  have k1 := h1
  have lt1 : ∀ x ∈ p1, x.block < W.heap.size := by obtain ⟨m, hm⟩ := k1; exact DataW.trod_lt m _ _ _ hm
  obtain ⟨z1, w1⟩ : ∃ zs, IsRow .u8 W a1 len1 cap1 zs := by
    obtain ⟨fuel, hf⟩ := h1
    rcases open_ints Try.underlying22 Try.underlying5 (by kernel_rfl) hf with ⟨hcs, _⟩ | ⟨x, l, c, zs, hcs, _, hl, hm, hz, _, hcell, hwz⟩
    · simp [Value.cells] at hcs
      obtain ⟨rfl, rfl, rfl⟩ := hcs
      exact ⟨[], .inl ⟨rfl, rfl, rfl, rfl⟩⟩
    · simp [Value.cells] at hcs
      obtain ⟨rfl, rfl, rfl⟩ := hcs
      exact ⟨zs, .inr ⟨_, rfl, hl, hm, by simpa using hz, hcell, hwz⟩⟩
  clear hA0 hval0
  refine (walk a0 len0 cap0 z0 a1 len1 cap1 z1 W w0 w1).mono fun e W' ⟨he, bel⟩ => ?_
  subst he
  exact ⟨_, rfl, _, _, _, [], _, [], hW', trodAll_mk1 (shut_bool Try.underlying4 _), (trodAll_cons_mk (Below.trod laidOut (by kernel_rfl) (of_decide_eq_true (by kernel_rfl)) k0 bel lt0) (trodAll_cons_mk (Below.trod laidOut (by kernel_rfl) (of_decide_eq_true (by kernel_rfl)) k1 bel lt1) trodAll_mk0)), rfl, bel.frame _, fun h => by cases h⟩

theorem over : Rows.fnHexRow.holds Try.pinned (OpenSpec.ofChange Rows.fnHexSpec) :=
  OpenClaim.holds_of_wide 3 Try.f3 rfl rfl rfl rfl rfl rfl rfl ⟨rfl, rfl, rfl, rfl, rfl⟩ rfl rfl rfl rfl rfl (by kernel_rfl) Try.func3 (by kernel_rfl)
    (of_decide_eq_true (by kernel_rfl)) (by unfold Func.isWrapper; first | (rw [if_pos (by decide +kernel)]; kernel_rfl) | (rw [if_neg (by decide +kernel)]; exact ⟨rfl, rfl⟩))
    (fun os started H enc _ => lifted os started H enc)

theorem proved : Rows.FnHexSaid := over
end Go.Proofs.Ytaadobdanhpkkaa.fnHex
namespace Go.Proofs.Ytaadobdanhpkkaa
theorem fnHex_holds : Rows.FnHexSaid := fnHex.proved
#print axioms fnHex_holds
end Go.Proofs.Ytaadobdanhpkkaa
