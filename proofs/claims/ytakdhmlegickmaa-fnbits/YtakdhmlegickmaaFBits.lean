/- For all bytes the law FnBits returns true: bytes are read back from their bits. -/
import Derived.Test.YtakdhmlegickmaaRows
import Derived.Test.YtakdhmlegickmaaSrc
import Derived.Test.YtakdhmlegickmaaVq
import Derived.Test.YtakdhmlegickmaaVt
import Derived.Test.YtakdhmlegickmaaVv
import Derived.Test.YtakdhmlegickmaaVw
import Derived.WalkKit
import Derived.ProofKit
import Derived.OpenShut
import Derived.ShutString
import Derived.ChangeOld
import Derived.Below
import Derived.Lib.SmallJoins
namespace Go.Proofs.Ytakdhmlegickmaa.fnBits
open Go.ChangeShapes Go.WideShapes Go.ChangeAt Go.RowKit Go.Joins
open Go.ChangeMaps (open_string shut_string)
set_option linter.unusedVariables false

theorem own : ownKnob Try.prog.godebug = none := by kernel_rfl
theorem laidOut : laidOutB Try.prog = true := by kernel_rfl

def IsRow (k : IntKind) (w : World) (a : Option Addr) (len cap : Nat) (zs : List Int) : Prop :=
  (a = none ∧ len = 0 ∧ cap = 0 ∧ zs = []) ∨
  ∃ x, a = some x ∧ len ≤ cap ∧ cap ≤ maxLen ∧ zs.length = cap ∧ (∀ i, i < zs.length → w.cell? (x.add i) = some (.int k (zs.getD i 0))) ∧ ∀ n ∈ zs, (Lit.int k n).wf = true

set_option maxRecDepth 100000 in
set_option maxHeartbeats 8000000 in
theorem walk (a0 : Option Addr) (len0 cap0 : Nat) (z0 : List Int) (a1 : Option Addr) (len1 cap1 : Nat) (z1 : List Int) (w : World) (w0 : IsRow .u8 w a0 len0 cap0 z0) (w1 : IsRow .u8 w a1 len1 cap1 z1) :
    Calls Try.prog 3 #[.slice a0 len0 cap0, .slice a1 len1 cap1] w fun e w' => e = .returned (.bool true) ∧ Below w.heap.size w w' := by
  have hc0 := codeAt_of w0
  have hnn : ∀ (zs : List Int) (a : Option Addr) (len cap : Nat), IsRow .u8 w a len cap zs → len ≤ maxLen := by
    intro zs a len cap h
    rcases h with ⟨_, rfl, _, _⟩ | ⟨x, _, hl, hm, _⟩
    · exact Nat.zero_le _
    · omega
  have hl0 := hnn _ _ _ _ w0
  have hl1 := hnn _ _ _ _ w1
  clear hnn w0 w1
  unfold maxLen at hl0 hl1
  by_cases h1 : 1048576 < len0
  · go_enter Try.func3, Try.ntmps3
    go_wp2
    go_ret
    exact ⟨rfl, Below.refl _ _⟩
  by_cases h2 : 1048576 < len1
  · go_enter Try.func3, Try.ntmps3
    go_wp2
    go_ret
    exact ⟨rfl, Below.refl _ _⟩
  have hAt := hid (at_any a0 len0 cap0 0 5 w.heap.size w hc0 (by omega) (by omega) (by omega) (by omega))
  replace hc0 := hid hc0
  go_enter Try.func3, Try.ntmps3
  go_wp2_with fail
  refine hAt.out.mono ?_
  rintro e w1 ⟨⟨x, rfl, hx0, _, hx5⟩, hb1⟩
  have hx := hx5 (by omega)
  obtain ⟨m, rfl⟩ : ∃ m : Nat, x = (m : Int) := ⟨x.toNat, by omega⟩
  have hc1 := hid (hc0.out.below hb1 hb1.size)
  replace hb1 := hid hb1
  have em : (1 : Int) + (m : Int) = ((1 + m : Nat) : Int) := by omega
  have hTx := hid (text_any a0 len0 cap0 (1 + m) w1 hc1.out (by omega) (by omega))
  rw [← em] at hTx
  clear hAt hx5 hx0 em
  have hm5 : (m : Int) < 5 := hx
  go_wp2_with fail
  refine hTx.out.mono ?_
  rintro e w2 ⟨⟨xs, rfl, hxl, _⟩, hb2⟩
  have hB2 := hid (new_trans hb1.out hb2)
  have hts : (strOfNums xs).size = 1 + m := by rw [strOfNums_size, hxl]
  obtain ⟨t, ht⟩ : ∃ t, strOfNums xs = t := ⟨_, rfl⟩
  rw [ht] at hts ⊢
  have hIm := hid (fun W => bitsof_impl t W (by unfold maxLen; omega))
  have e2 : bits2 t = (bitL t (8 * t.size), 0) := by unfold bits2; rw [if_neg (by omega), if_neg (by omega)]
  rw [e2] at hIm
  have hLn := bitL_len t (8 * t.size)
  have hts5 : t.size ≤ 5 ∧ 0 < t.size := by omega
  clear ht hxl hb2 hb1 hTx hts e2 hc1 hc0 hl0 hl1
  go_wp2_with fail
  refine (hIm.out _).mono ?_
  rintro e w3 ⟨v3, rfl, hG⟩
  obtain ⟨g, hg, hR⟩ := RowO.of_owns hG.own (by rw [hLn]; omega)
  obtain ⟨cap, hv, hcap⟩ : ∃ cap, v3 = .slice (some ⟨g, 0, none⟩) (8 * t.size) cap ∧ 8 * t.size ≤ cap := by
    obtain ⟨_, ⟨_, h0⟩ | ⟨g', cap, _, h1, _, _, h4, _⟩⟩ := hG.own
    · rw [hLn] at h0
      omega
    · obtain ⟨c2, _, _, h5, _⟩ := hR
      rw [h1] at h5
      rw [hLn] at h4 h1
      cases h5
      exact ⟨cap, h1, h4⟩
  subst hv
  have hB3 := hid (new_trans hB2.out hG.bel)
  have hcl : Hid (∀ i, i < t.size → RowR w3 (.slice (some ⟨g, 8 * i, none⟩) (bits8 (byt t i).toNat).length (cap - 8 * i)) (bits8 (byt t i).toNat)) := fun i hi => by
    refine ⟨_, _, rfl, .inr ⟨g, 8 * i, rfl, fun j hj => ?_⟩⟩
    rw [bits8_len] at hj
    have h9 := hR.cell (8 * i + j) (by rw [hLn]; omega)
    rw [bits_byte t _ i j (by omega) hj] at h9
    exact h9
  have hby : Hid (∀ i, i < t.size → ∀ a c, RowR w3 (.slice a (bits8 (byt t i).toNat).length c) (bits8 (byt t i).toNat) → Calls Try.prog 9 #[.slice a 8 c] w3 fun e w' => e = .returned (.tuple #[.int .i64 (byt t i), .int .i64 0]) ∧ w' = w3) := fun i hi a c h => by
    have := byteof_impl a c _ w3 h (by rw [bits8_len]; omega)
    rw [byt_byte2, bits8_len] at this
    exact this
  clear hG hR hB2 hIm hLn hg
  obtain ⟨ht5, ht0⟩ := hts5
  go_wp2
  go_loop [8] (fun i => ∃ k : Nat, k ≤ t.size ∧ i = .int .i64 k) (fun i => t.size - (intOf i).toNat)
  case atStart => exact ⟨0, by omega, rfl⟩
  case round =>
    obtain ⟨k, hk, rfl⟩ := hrel
    by_cases hlt : k < t.size
    · have hrow := hcl.out k hlt
      have hc := hid (hby.out k hlt _ _ hrow)
      have hix := run_idx t k k rfl hlt
      have hbb := byt_bd t k
      clear hcl hby hrow
      go_wp2_with fail
      refine hc.out.mono ?_
      rintro e w4 ⟨rfl, hww⟩
      obtain rfl := hww.symm
      clear hc
      generalize byt t k = B at *
      go_wp2_with fail
      go_round
      case rel => exact ⟨k + 1, by omega, by go_num⟩
      case measure => simp [intOf] <;> omega
    · obtain rfl : k = t.size := by omega
      go_wp2
      go_ret
      exact ⟨rfl, hB3.out⟩

set_option maxRecDepth 100000 in
theorem lifted (os : Os) (started : os.Started) (H : Type) (enc : TypeId × Value → H) :
    ReturnsInHanded {} Try.checked os 3 .any (Rows.fnBitsSpec.pre6 enc Try.prog Try.f3 Rows.fnBitsRow.domain false) (Rows.fnBitsSpec.post enc Try.prog Try.f3 false true false false) := by
  refine returnsInHanded_of_change (C := Try.checked) own started (by kernel_rfl) Try.func3
    (ChangeSpec.witness6 (enc := enc) (C := Try.checked) false ⟨#[], #[.slice none 0 0, .slice none 0 0], []⟩ 8 (by kernel_rfl) (by kernel_rfl) (by kernel_rfl) (by kernel_rfl)) ?_
  intro W base args ds gs before hval0 hW hcnd _
  have hval : ∀ (j : Nat) t v, Try.f3.params[j]? = some t → args[j]? = some v → Value.okWide Try.prog W .any base t v := hval0
  have hW' := hW
  obtain ⟨p, q, hA0, hV, rfl, hfz, hnd⟩ := hW
  have hA : DataW.TrodAll enc Try.prog W 0 (fun _ => true) true Try.f3.params.toList args.toList ds p := hA0
  rw [Try.params3] at hA hval
  obtain ⟨v0, vs0, d0, ds0, p0, q0, hargs, rfl, rfl, h0, r0⟩ := trodAll_cons hA
  obtain ⟨v1, vs1, d1, ds1, p1, q1, rfl, rfl, rfl, h1, r1⟩ := trodAll_cons r0
  obtain ⟨rfl, rfl, rfl⟩ := trodAll_nil r1
  obtain rfl : args = #[v0, v1] := by cases args; simp_all
  obtain ⟨rfl, rfl⟩ := trodVars_none hV
  obtain ⟨a0, len0, cap0, rfl⟩ := okWide_slice Try.underlying22 (hval 0 22 v0 rfl rfl)
  have k0 := h0
  have lt0 : ∀ x ∈ p0, x.block < W.heap.size := by obtain ⟨m, hm⟩ := k0; exact DataW.trod_lt m _ _ _ hm
  obtain ⟨z0, w0⟩ : ∃ zs, IsRow .u8 W a0 len0 cap0 zs := by
    obtain ⟨fuel, hf⟩ := h0
    rcases open_ints Try.underlying22 Try.underlying5 (by kernel_rfl) hf with ⟨hcs, _⟩ | ⟨x, l, c, zs, hcs, _, hl, hm, hz, _, hcell, hwz⟩
    · simp [Value.cells] at hcs
      obtain ⟨rfl, rfl, rfl⟩ := hcs
      exact ⟨[], .inl ⟨rfl, rfl, rfl, rfl⟩⟩
    · simp [Value.cells] at hcs
      obtain ⟨rfl, rfl, rfl⟩ := hcs
      exact ⟨zs, .inr ⟨_, rfl, hl, hm, by simpa using hz, hcell, hwz⟩⟩
  obtain ⟨a1, len1, cap1, rfl⟩ := okWide_slice Try.underlying22 (hval 1 22 v1 rfl rfl)
  have k1 := h1
  have lt1 : ∀ x ∈ p1, x.block < W.heap.size := by obtain ⟨m, hm⟩ := k1; exact DataW.trod_lt m _ _ _ hm
  obtain ⟨z1, w1⟩ : ∃ zs, IsRow .u8 W a1 len1 cap1 zs := by
    obtain ⟨fuel, hf⟩ := h1
    rcases open_ints Try.underlying22 Try.underlying5 (by kernel_rfl) hf with ⟨hcs, _⟩ | ⟨x, l, c, zs, hcs, _, hl, hm, hz, _, hcell, hwz⟩
    · simp [Value.cells] at hcs
      obtain ⟨rfl, rfl, rfl⟩ := hcs
      exact ⟨[], .inl ⟨rfl, rfl, rfl, rfl⟩⟩
    · simp [Value.cells] at hcs
      obtain ⟨rfl, rfl, rfl⟩ := hcs
      exact ⟨zs, .inr ⟨_, rfl, hl, hm, by simpa using hz, hcell, hwz⟩⟩
  clear hA0 hval0
  refine (walk a0 len0 cap0 z0 a1 len1 cap1 z1 W w0 w1).mono fun e W' ⟨he, bel⟩ => ?_
  subst he
  exact ⟨_, rfl, _, _, _, [], _, [], hW', (trodAll_cons_mk (shut_bool Try.underlying4 _) trodAll_mk0), (trodAll_cons_mk (Below.trod laidOut (by kernel_rfl) (of_decide_eq_true (by kernel_rfl)) k0 bel lt0) (trodAll_cons_mk (Below.trod laidOut (by kernel_rfl) (of_decide_eq_true (by kernel_rfl)) k1 bel lt1) trodAll_mk0)), rfl, bel.frame _, fun h => by cases h⟩

theorem said : Rows.FnBitsSaid :=
  OpenClaim.holds_of_wide 3 Try.f3 rfl rfl rfl rfl rfl rfl rfl ⟨rfl, rfl, rfl, rfl, rfl⟩ rfl rfl rfl rfl rfl (by kernel_rfl) Try.func3 (by kernel_rfl)
    (of_decide_eq_true (by kernel_rfl)) (by unfold Func.isWrapper; first | (rw [if_pos (by decide +kernel)]; kernel_rfl) | (rw [if_neg (by decide +kernel)]; exact ⟨rfl, rfl⟩))
    (fun os started H enc _ => lifted os started H enc)
end Go.Proofs.Ytakdhmlegickmaa.fnBits
namespace Go.Proofs.Ytakdhmlegickmaa
theorem fnBits_holds : Rows.FnBitsSaid := fnBits.said
#print axioms fnBits_holds
end Go.Proofs.Ytakdhmlegickmaa
