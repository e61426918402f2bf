/- For every cursor the law FnExactTakeWord returns true: impl.TakeWord answers as spec.TakeWord, the cursor's errors being as the program's text lays them. -/
import Derived.Test.YthffhfafnohndaaDoorCards
import Derived.Test.YthffhfafnohndaaDoorTie
import Derived.Test.YthffhfafnohndaaDoorBase
import Derived.Test.YthffhfafnohndaaDoorIn
import Derived.Test.YthffhfafnohndaaDoorIs
import Derived.Test.YthffhfafnohndaaDoorTk
import Derived.Test.YthffhfafnohndaaDoorTm
import Derived.Test.YthffhfafnohndaaDoorTn
import Derived.Test.YthffhfafnohndaaDoorTo
import Derived.Test.YthffhfafnohndaaDoorEl
import Derived.WalkKit
import Derived.ProofKit
import Derived.OpenShut
import Derived.ShutString
import Derived.ChangeOld
import Derived.Below
import Derived.LaidMore
import Derived.OpenVars
import Derived.SevenTiedAt
import Derived.Stop.Joined
import Derived.Lib.SmallJoins
namespace Go.Proofs.YthffhfafnohndaaDoor.fnExactTakeWord
open Go.ChangeShapes Go.WideShapes Go.ChangeAt Go.RowKit Go.Joins
open Go.ChangeMaps (open_string shut_string)
set_option linter.unusedVariables false

theorem own : ownKnob Tryd.prog.godebug = none := by kernel_rfl
theorem laidOut : laidOutB Tryd.prog = true := by kernel_rfl

theorem walk (s0 : ByteArray) (a0 : Int) (w : World) (w0 : s0.size ≤ maxLen) (hL : ∃ e0 e1 e2, Errs w e0 e1 e2) :
    Calls Tryd.prog 5 #[.agg #[.string s0, .int .i64 a0]] w fun e w' => e = .returned (.bool true) ∧ Below w.heap.size w w' := by
  obtain ⟨e0, e1, e2, hE⟩ := hL
  have hE1 : Errs (w.alloc (.cells #[.string s0, .int .i64 a0] 48)) e0 e1 e2 := hE.below ((Below.refl _ _).alloc (Nat.le_refl _) _)
  go_enter Tryd.func5, Tryd.ntmps5
  go_wp2_with fail
  refine (sz_any _ _ _ w0).mono ?_
  rintro e w1 ⟨⟨v, rfl, hv⟩, hb1⟩
  have B1 : Below w.heap.size w w1 := ((Below.refl _ _).alloc (Nat.le_refl _) _).trans (hb1.mono (by simp))
  have hc0 : w1.cell? ⟨w.heap.size, 0, none⟩ = some (.string s0) := by rw [(bcell hb1).1 _ _ (by simp)]; simp
  have hc1 : w1.cell? ⟨w.heap.size, 1, none⟩ = some (.int .i64 a0) := by rw [(bcell hb1).1 _ _ (by simp)]; simp
  have hE2 := hE1.below hb1
  have hz1 := hb1.size
  simp only [World.size_alloc] at hz1
  clear hb1 hE1 hE
  by_cases h : 1048576 < s0.size
  · have hv2 : v < 0 := hv.2 h
    clear hv
    go_wp2
    go_ret
    exact ⟨rfl, B1⟩
  have hv2 : ¬ v < 0 := fun h2 => h (hv.1 h2)
  clear hv
  have hSp := fun W => takeWord_spec s0 a0 W w0
  have hIm := fun W (h : Errs W e0 e1 e2) => takeWord_impl s0 a0 e0 e1 e2 W w0 h
  generalize takeV s0 a0 2 = X at hSp hIm
  obtain ⟨⟨S, A⟩, T, C⟩ := X
  obtain ⟨R, hR⟩ : ∃ R : Int, twV ((S, A), T, C) = .tuple #[cur S A, .int .i64 R, .int .i64 C] := ⟨_, rfl⟩
  rw [hR] at hSp hIm
  clear hR
  go_wp2_with fail
  refine (to_any _ _ _).mono ?_
  rintro e w2 ⟨rfl, hb2⟩
  go_wp2_with fail
  refine (hSp _).mono ?_
  rintro e w3 ⟨rfl, hb3⟩
  have B13 := new_trans hb2 hb3
  have hd0 : w3.cell? ⟨w.heap.size, 0, none⟩ = some (.string s0) := by rw [(bcell B13).1 _ _ (by omega)]; exact hc0
  have hd1 : w3.cell? ⟨w.heap.size, 1, none⟩ = some (.int .i64 a0) := by rw [(bcell B13).1 _ _ (by omega)]; exact hc1
  have hE3 := hE2.below B13
  have B3 : Below w.heap.size w w3 := new_trans B1 (B13.mono (Nat.le_refl _))
  have hz3 : w.heap.size < w3.heap.size := by have := B13.size; omega
  clear hb2 hb3 B13 hc0 hc1 hE2 B1 hz1 hSp
  go_wp2_with fail
  refine (to_any _ _ _).mono ?_
  rintro e w4 ⟨rfl, hb4⟩
  have hE4 : Errs w4 e0 e1 e2 := (hE3.below ((Below.refl _ _).alloc (Nat.le_refl _) _)).below hb4
  go_wp2_with fail
  refine (hIm _ hE4).mono ?_
  rintro e w5 ⟨rfl, hb5⟩
  have B45 := new_trans hb4 hb5
  have hf0 : w5.cell? ⟨w3.heap.size, 0, none⟩ = some (.string S) := by rw [(bcell B45).1 _ _ (by simp)]; simp
  have hf1 : w5.cell? ⟨w3.heap.size, 1, none⟩ = some (.int .i64 A) := by rw [(bcell B45).1 _ _ (by simp)]; simp
  have B5 : Below w.heap.size w w5 := new_trans (B3.alloc (by omega) _) (B45.mono (Nat.le_refl _))
  have hz5 : w3.heap.size < w5.heap.size := by have := B45.size; simp only [World.size_alloc] at this; omega
  clear hb4 hb5 B45 hE3 hE4 hIm hd0 hd1 B3
  go_wp2_with fail
  refine (eq_any _ _ _).mono ?_
  rintro e w6 ⟨rfl, hb6⟩
  have hz6 := hb6.size
  go_wp2
  go_ret
  exact ⟨rfl, new_trans (B5.alloc (by omega) _) (hb6.mono (Nat.le_refl _))⟩

theorem door_met (os : Os) (args : Array Value) : laidMetH Tryd.prog Rows.fnExactTakeWordRow.laid ((World.doorLaid Tryd.prog 400 os).forCall (fun _ _ => 0) ⟨#[], args, []⟩).memory :=
  laidMetH_of_parts3 (fuel := 8) (laidMet_of_run' 8 (by kernel_rfl) (by kernel_rfl)) (by kernel_rfl) (by kernel_rfl)

set_option maxRecDepth 100000 in
theorem lifted (os : Os) (started : os.Started) (H : Type) (enc : TypeId × Value → H) :
    ReturnsInHanded {} Tryd.checked os 5 .any (fun w args => (Rows.fnExactTakeWordSpec.pre enc Tryd.prog Tryd.f5 [] false w args ∧ laidMetH Tryd.prog Rows.fnExactTakeWordRow.laid w) ∧ sizedMet enc Tryd.prog Tryd.f5 (OpenSpec.ofChange Rows.fnExactTakeWordSpec) false w args)
      (Rows.fnExactTakeWordSpec.post enc Tryd.prog Tryd.f5 false true false false) := by
  refine returnsInHanded_of_change_and (C := Tryd.checked) (X := fun w _ => laidMetH Tryd.prog Rows.fnExactTakeWordRow.laid w) (fun _ _ _ hh h => h.of_heap hh) own started (by kernel_rfl) Tryd.func5
    (ChangeSpec.witness_shaped (enc := enc) (C := Tryd.checked) (os := os) (X := fun w _ => laidMetH Tryd.prog Rows.fnExactTakeWordRow.laid w) false (World.doorLaid Tryd.prog 400 os) #[.agg #[.string ByteArray.empty, .int .i64 0]] 8 rfl (World.shaped_of_RefB (by kernel_rfl) (by kernel_rfl)) (by kernel_rfl) (by kernel_rfl) (by kernel_rfl) (door_met os _)) ?_
  intro W base args ds gs before hval0 hW _ _ hL _
  have hval : ∀ (j : Nat) t v, Tryd.f5.params[j]? = some t → args[j]? = some v → Value.okWide Tryd.prog W .any base t v := hval0
  have hW' := hW
  obtain ⟨p, q, hA0, hV, hbefore, hfz, hnd⟩ := hW
  have hA : DataW.TrodAll enc Tryd.prog W 0 (fun _ => true) true Tryd.f5.params.toList args.toList ds p := hA0
  rw [Tryd.params5] at hA hval
  obtain ⟨v0, vs0, d0, ds0, p0, q0, hargs, rfl, rfl, h0, r0⟩ := trodAll_cons hA
  obtain ⟨rfl, rfl, rfl⟩ := trodAll_nil r0
  obtain rfl : args = #[v0] := by cases args; simp_all
  obtain ⟨g0, g1, g2, rfl⟩ := vars3_form hV
  have k0 := h0
  have lt0 : ∀ x ∈ p0, x.block < W.heap.size := by obtain ⟨m, hm⟩ := k0; exact DataW.trod_lt m _ _ _ hm
  obtain ⟨c0, c1, y0, y1, m, rfl, rfl, rfl, hy0, hy1⟩ := open_agg2 Tryd.underlying48 (by kernel_rfl) (by kernel_rfl) (hval 0 48 v0 rfl rfl) h0
  obtain ⟨s0, i0, rfl, w0⟩ := DataW.trod_string Tryd.underlying9 hy0
  obtain ⟨a0, i1, rfl, _⟩ := DataW.trod_int Tryd.underlying3 hy1
  simp at i0 i1
  subst i0 i1
  clear hA0 hval0
  refine (walk s0 a0 W w0 (errs_of hL)).mono fun e W' ⟨he, bel⟩ => ?_
  subst he
  exact ⟨_, rfl, _, _, _, [], _, _, hW', trodAll_mk1 (shut_bool Tryd.underlying4 _), (trodAll_cons_mk (Below.trod laidOut (by kernel_rfl) (of_decide_eq_true (by kernel_rfl)) k0 bel lt0) trodAll_mk0), Below.trodVars laidOut bel (by kernel_rfl) hV, bel.frame _, fun h => by cases h⟩

theorem said : Rows.FnExactTakeWordSaid :=
  OpenClaim.holds_of_wide 5 Tryd.f5 rfl rfl rfl rfl rfl rfl rfl ⟨rfl, rfl, rfl, rfl, rfl⟩ rfl rfl rfl rfl rfl (by kernel_rfl) Tryd.func5 (by kernel_rfl)
    (of_decide_eq_true (by kernel_rfl)) (by unfold Func.isWrapper; first | (rw [if_pos (by decide +kernel)]; kernel_rfl) | (rw [if_neg (by decide +kernel)]; exact ⟨rfl, rfl⟩))
    (fun os started H enc _ => lifted os started H enc)

theorem card : Rows.FnExactTakeWordCardSaid :=
  Claim7.holds_tied_plain_at .later [] _ _ _ _ said (fun _ h => by cases h) (by kernel_rfl) (fun _ h => by cases h) fnExactTakeWord_row_tie rfl ⟨rfl, rfl⟩ (by kernel_rfl) rfl
    (fun f fn hf hfn => by
      obtain rfl : f = 5 := Option.some.inj ((show Tryd.prog.funcNamed "loop.example/g00644/laws.FnExactTakeWord" = some 5 by kernel_rfl).symm.trans hf) |>.symm
      obtain rfl : fn = Tryd.f5 := (Option.some.inj (Tryd.func5.symm.trans hfn)).symm
      exact ⟨by kernel_rfl, fun j t ht => by
        rw [Tryd.params5] at ht
        have hm : t ∈ [48] := by simpa using Array.mem_of_getElem? ht
        have hall : ([48].all fun u => !Tryd.prog.wantsStandIn u) = true := by kernel_rfl
        exact (show Tryd.prog.wantsStandIn t = false by simpa using List.all_eq_true.1 hall t hm)⟩)
    (by kernel_rfl)
end Go.Proofs.YthffhfafnohndaaDoor.fnExactTakeWord
namespace Go.Proofs.YthffhfafnohndaaDoor
theorem fnExactTakeWord_holds : Rows.FnExactTakeWordCardSaid := fnExactTakeWord.card
#print axioms fnExactTakeWord_holds
end Go.Proofs.YthffhfafnohndaaDoor
