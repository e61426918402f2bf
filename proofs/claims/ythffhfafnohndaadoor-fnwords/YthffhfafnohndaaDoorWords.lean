/- For all bytes the law FnWords returns true: what was put is taken, word by word and byte by byte, and not more than there is; the cursor's errors being as the program's text lays them. -/
import Derived.Test.YthffhfafnohndaaDoorCards
import Derived.Test.YthffhfafnohndaaDoorTie
import Derived.Test.YthffhfafnohndaaDoorBase
import Derived.Test.YthffhfafnohndaaDoorIn
import Derived.Test.YthffhfafnohndaaDoorIs
import Derived.Test.YthffhfafnohndaaDoorSrc
import Derived.Test.YthffhfafnohndaaDoorTk
import Derived.Test.YthffhfafnohndaaDoorTm
import Derived.Test.YthffhfafnohndaaDoorTn
import Derived.Test.YthffhfafnohndaaDoorEl
import Derived.Test.YthffhfafnohndaaDoorPw
import Derived.Test.YthffhfafnohndaaDoorWm
import Derived.WalkKit
import Derived.ProofKit
import Derived.OpenShut
import Derived.ShutString
import Derived.ChangeOld
import Derived.Below
import Derived.LaidMore
import Derived.OpenVars
import Derived.SevenTiedAt
import Derived.Stop.Joined
import Derived.Lib.SmallJoins
namespace Go.Proofs.YthffhfafnohndaaDoor.fnWords
open Go.ChangeShapes Go.WideShapes Go.ChangeAt Go.RowKit Go.Joins
open Go.ChangeMaps (open_string shut_string)
set_option linter.unusedVariables false

theorem own : ownKnob Tryd.prog.godebug = none := by kernel_rfl
theorem laidOut : laidOutB Tryd.prog = true := by kernel_rfl

def IsRow (k : IntKind) (w : World) (a : Option Addr) (len cap : Nat) (zs : List Int) : Prop :=
  (a = none ∧ len = 0 ∧ cap = 0 ∧ zs = []) ∨
  ∃ x, a = some x ∧ len ≤ cap ∧ cap ≤ maxLen ∧ zs.length = cap ∧ (∀ i, i < zs.length → w.cell? (x.add i) = some (.int k (zs.getD i 0))) ∧ ∀ n ∈ zs, (Lit.int k n).wf = true

theorem walk (a0 : Option Addr) (len0 cap0 : Nat) (z0 : List Int) (a1 : Option Addr) (len1 cap1 : Nat) (z1 : List Int) (w : World) (w0 : IsRow .u8 w a0 len0 cap0 z0) (w1 : IsRow .u8 w a1 len1 cap1 z1) (hL : ∃ e0 e1 e2, Errs w e0 e1 e2) :
    Calls Tryd.prog 3 #[.slice a0 len0 cap0, .slice a1 len1 cap1] w fun e w' => e = .returned (.bool true) ∧ Below w.heap.size w w' := by
  have hc0 := codeAt_of w0
  have hc1 := codeAt_of w1
  have hnn : ∀ (zs : List Int) (a : Option Addr) (len cap : Nat), IsRow .u8 w a len cap zs → len ≤ maxLen := by
    intro zs a len cap h
    rcases h with ⟨_, rfl, _, _⟩ | ⟨x, _, hl, hm, _⟩
    · exact Nat.zero_le _
    · omega
  have hl0 := hnn _ _ _ _ w0
  have hl1 := hnn _ _ _ _ w1
  clear hnn w0 w1
  unfold maxLen at hl0 hl1
  obtain ⟨e0, e1, e2, hE⟩ := hL
  by_cases h1 : 1048576 < len0
  · clear hE
    go_enter Tryd.func3, Tryd.ntmps3
    go_wp2
    go_ret
    exact ⟨rfl, Below.refl _ _⟩
  by_cases h2 : 1048576 < len1
  · clear hE
    go_enter Tryd.func3, Tryd.ntmps3
    go_wp2
    go_ret
    exact ⟨rfl, Below.refl _ _⟩
  have HE : Hid (Errs w e0 e1 e2) := hE
  clear hE
  go_enter Tryd.func3, Tryd.ntmps3
  go_wp2_with fail
  refine (at_any _ _ _ _ _ _ _ hc1 (by omega) (by omega) (by omega) (by omega)).mono ?_
  rintro e w1 ⟨⟨v, rfl, hv0, _, hv1⟩, hb1⟩
  have hv2 := hv1 (by omega)
  clear hv1
  go_wp2_with fail
  refine (at_any _ _ _ _ _ _ _ (hc0.below hb1 (Nat.le_refl _)) (by omega) (by omega) (by omega) (by omega)).mono ?_
  rintro e w2 ⟨⟨u, rfl, hu0, _, hu1⟩, hb2⟩
  have hu2 := hu1 (by omega)
  clear hu1
  obtain ⟨m, rfl⟩ : ∃ m : Nat, u = (m : Int) := ⟨u.toNat, by omega⟩
  have B2 : Below w.heap.size w w2 := hb1.trans hb2
  clear hb1 hb2
  go_wp2_with fail
  refine (text_any _ _ _ _ _ (hc0.below B2 B2.size) (by omega) (by omega)).mono ?_
  rintro e w3 ⟨⟨xs, rfl, hx1, hx2⟩, hb3⟩
  have hsz : (strOfNums xs).size = m := by rw [strOfNums_size, hx1]
  have B3 : Below w.heap.size w w3 := new_trans B2 hb3
  clear hb3 hx1 hx2 B2 hc0 hc1
  generalize strOfNums xs = S at hsz ⊢
  obtain ⟨t, ht, hP, q1, q2, q3, q4, q5, q6⟩ := words_facts S v m hsz (by omega) hv0 hv2
  have hS : S.size ≤ maxLen := by unfold maxLen; omega
  have hT : t.size ≤ maxLen := by unfold maxLen; omega
  have hPut := fun W => put_impl S v W hS
  have hT1 := fun W (h : Errs W e0 e1 e2) => takeBytes_impl t 0 m e0 e1 e2 W hT h
  have hT2 := fun W (h : Errs W e0 e1 e2) => takeWord_impl t m e0 e1 e2 W hT h
  have hT3 := fun W (h : Errs W e0 e1 e2) => takeByte_impl t (m + 2) e0 e1 e2 W hT h
  have hT4 := fun W (h : Errs W e0 e1 e2) => takeByte_impl t m e0 e1 e2 W hT h
  have hT5 := fun W (h : Errs W e0 e1 e2) => takeByte_impl t (m + 1) e0 e1 e2 W hT h
  have hT6 := fun W (h : Errs W e0 e1 e2) => takeWord_impl t (m + 1) e0 e1 e2 W hT h
  rw [hP] at hPut
  rw [q1] at hT1
  rw [q2] at hT2
  rw [q3] at hT3
  rw [q4] at hT4
  rw [q5] at hT5
  rw [q6] at hT6
  clear hP q1 q2 q3 q4 q5 q6
  go_wp2_with fail
  refine (hPut _).mono ?_
  rintro e w4 ⟨rfl, hb4⟩
  have B4 : Below w.heap.size w w4 := new_trans B3 hb4
  clear hb4 B3 hPut
  go_wp2_with fail
  refine (hT1 _ (HE.out.below B4)).mono ?_
  rintro e w5 ⟨rfl, hb5⟩
  have B5 : Below w.heap.size w w5 := new_trans B4 hb5
  have z5 := B5.size
  clear hb5 B4 hT1
  go_wp2_with fail
  refine (hT2 _ (HE.out.below (B5.alloc (by omega) _))).mono ?_
  rintro e w6 ⟨rfl, hb6⟩
  have B6 : Below w.heap.size w w6 := new_trans (B5.alloc (by omega) _) hb6
  have z6 : w5.heap.size < w6.heap.size := by have := hb6.size; simp only [World.size_alloc] at this; omega
  have c60 : w6.cell? ⟨w5.heap.size, 0, none⟩ = some (.string t) := by rw [(bcell hb6).1 _ _ (by simp)]; simp
  have c61 : w6.cell? ⟨w5.heap.size, 1, none⟩ = some (.int .i64 m) := by rw [(bcell hb6).1 _ _ (by simp)]; simp
  clear hb6 B5 hT2
  go_wp2_with fail
  refine (hT3 _ (HE.out.below (B6.alloc (by omega) _))).mono ?_
  rintro e w7 ⟨rfl, hb7⟩
  have B7 : Below w.heap.size w w7 := new_trans (B6.alloc (by omega) _) hb7
  have z7 : w5.heap.size < w7.heap.size := by have := hb7.size; simp only [World.size_alloc] at this; omega
  have c70 : w7.cell? ⟨w5.heap.size, 0, none⟩ = some (.string t) := by rw [(bcell hb7).1 _ _ (by simp; omega), World.cell?_alloc_lt _ _ _ (by simpa using z6)]; exact c60
  have c71 : w7.cell? ⟨w5.heap.size, 1, none⟩ = some (.int .i64 m) := by rw [(bcell hb7).1 _ _ (by simp; omega), World.cell?_alloc_lt _ _ _ (by simpa using z6)]; exact c61
  clear hb7 B6 hT3 c60 c61
  go_wp2_with fail
  refine (hT4 _ (HE.out.below (B7.alloc (by omega) _))).mono ?_
  rintro e w8 ⟨rfl, hb8⟩
  have B8 : Below w.heap.size w w8 := new_trans (B7.alloc (by omega) _) hb8
  have z8 : w.heap.size ≤ w8.heap.size := B8.size
  clear hb8 B7 hT4 c70 c71 z6 z7
  go_wp2_with fail
  refine (hT5 _ (HE.out.below (B8.alloc (by omega) _))).mono ?_
  rintro e w9 ⟨rfl, hb9⟩
  have B9 : Below w.heap.size w w9 := new_trans (B8.alloc (by omega) _) hb9
  have z9 : w8.heap.size < w9.heap.size := by have := hb9.size; simp only [World.size_alloc] at this; omega
  have c90 : w9.cell? ⟨w8.heap.size, 0, none⟩ = some (.string t) := by rw [(bcell hb9).1 _ _ (by simp)]; simp
  have c91 : w9.cell? ⟨w8.heap.size, 1, none⟩ = some (.int .i64 ((m : Int) + 1)) := by rw [(bcell hb9).1 _ _ (by simp)]; simp
  clear hb9 B8 hT5
  go_wp2_with fail
  refine (hT6 _ (HE.out.below (B9.alloc (by omega) _))).mono ?_
  rintro e w10 ⟨rfl, hb10⟩
  have B10 : Below w.heap.size w w10 := new_trans (B9.alloc (by omega) _) hb10
  have z10 := B10.size
  clear hb10 B9 hT6 c90 c91 HE
  have hlen1 : (t.size : Int) = (m : Int) + 2 := by omega
  have hlen2 : (S.size : Int) = (m : Int) := by omega
  have hval : v % 256 + 256 * (v / 256) = v := by omega
  go_wp2
  go_ret
  exact ⟨rfl, B10.alloc (by omega) _⟩

theorem door_met (os : Os) (args : Array Value) : laidMetH Tryd.prog Rows.fnWordsRow.laid ((World.doorLaid Tryd.prog 400 os).forCall (fun _ _ => 0) ⟨#[], args, []⟩).memory :=
  laidMetH_of_parts3 (fuel := 8) (laidMet_of_run' 8 (by kernel_rfl) (by kernel_rfl)) (by kernel_rfl) (by kernel_rfl)

set_option maxRecDepth 100000 in
theorem lifted (os : Os) (started : os.Started) (H : Type) (enc : TypeId × Value → H) :
    ReturnsInHanded {} Tryd.checked os 3 .any (fun w args => (Rows.fnWordsSpec.pre enc Tryd.prog Tryd.f3 [] false w args ∧ laidMetH Tryd.prog Rows.fnWordsRow.laid w) ∧ sizedMet enc Tryd.prog Tryd.f3 (OpenSpec.ofChange Rows.fnWordsSpec) false w args)
      (Rows.fnWordsSpec.post enc Tryd.prog Tryd.f3 false true false false) := by
  refine returnsInHanded_of_change_and (C := Tryd.checked) (X := fun w _ => laidMetH Tryd.prog Rows.fnWordsRow.laid w) (fun _ _ _ hh h => h.of_heap hh) own started (by kernel_rfl) Tryd.func3
    (ChangeSpec.witness_shaped (enc := enc) (C := Tryd.checked) (os := os) (X := fun w _ => laidMetH Tryd.prog Rows.fnWordsRow.laid w) false (World.doorLaid Tryd.prog 400 os) #[.slice none 0 0, .slice none 0 0] 8 rfl (World.shaped_of_RefB (by kernel_rfl) (by kernel_rfl)) (by kernel_rfl) (by kernel_rfl) (by kernel_rfl) (door_met os _)) ?_
  intro W base args ds gs before hval0 hW _ _ hL _
  have hval : ∀ (j : Nat) t v, Tryd.f3.params[j]? = some t → args[j]? = some v → Value.okWide Tryd.prog W .any base t v := hval0
  have hW' := hW
  obtain ⟨p, q, hA0, hV, hbefore, hfz, hnd⟩ := hW
  have hA : DataW.TrodAll enc Tryd.prog W 0 (fun _ => true) true Tryd.f3.params.toList args.toList ds p := hA0
  rw [Tryd.params3] at hA hval
  obtain ⟨v0, vs0, d0, ds0, p0, q0, hargs, rfl, rfl, h0, r0⟩ := trodAll_cons hA
  obtain ⟨v1, vs1, d1, ds1, p1, q1, rfl, rfl, rfl, h1, r1⟩ := trodAll_cons r0
  obtain ⟨rfl, rfl, rfl⟩ := trodAll_nil r1
  obtain rfl : args = #[v0, v1] := by cases args; simp_all
  obtain ⟨g0, g1, g2, rfl⟩ := vars3_form hV
  obtain ⟨a0, len0, cap0, rfl⟩ := okWide_slice Tryd.underlying22 (hval 0 22 v0 rfl rfl)
  have k0 := h0
  have lt0 : ∀ x ∈ p0, x.block < W.heap.size := by obtain ⟨m, hm⟩ := k0; exact DataW.trod_lt m _ _ _ hm
  obtain ⟨z0, w0⟩ : ∃ zs, IsRow .u8 W a0 len0 cap0 zs := by
    obtain ⟨fuel, hf⟩ := h0
    rcases open_ints Tryd.underlying22 Tryd.underlying5 (by kernel_rfl) hf with ⟨hcs, _⟩ | ⟨x, l, c, zs, hcs, _, hl, hm, hz, _, hcell, hwz⟩
    · simp [Value.cells] at hcs
      obtain ⟨rfl, rfl, rfl⟩ := hcs
      exact ⟨[], .inl ⟨rfl, rfl, rfl, rfl⟩⟩
    · simp [Value.cells] at hcs
      obtain ⟨rfl, rfl, rfl⟩ := hcs
      exact ⟨zs, .inr ⟨_, rfl, hl, hm, by simpa using hz, hcell, hwz⟩⟩
  obtain ⟨a1, len1, cap1, rfl⟩ := okWide_slice Tryd.underlying22 (hval 1 22 v1 rfl rfl)
  have k1 := h1
  have lt1 : ∀ x ∈ p1, x.block < W.heap.size := by obtain ⟨m, hm⟩ := k1; exact DataW.trod_lt m _ _ _ hm
  obtain ⟨z1, w1⟩ : ∃ zs, IsRow .u8 W a1 len1 cap1 zs := by
    obtain ⟨fuel, hf⟩ := h1
    rcases open_ints Tryd.underlying22 Tryd.underlying5 (by kernel_rfl) hf with ⟨hcs, _⟩ | ⟨x, l, c, zs, hcs, _, hl, hm, hz, _, hcell, hwz⟩
    · simp [Value.cells] at hcs
      obtain ⟨rfl, rfl, rfl⟩ := hcs
      exact ⟨[], .inl ⟨rfl, rfl, rfl, rfl⟩⟩
    · simp [Value.cells] at hcs
      obtain ⟨rfl, rfl, rfl⟩ := hcs
      exact ⟨zs, .inr ⟨_, rfl, hl, hm, by simpa using hz, hcell, hwz⟩⟩
  clear hA0 hval0
  refine (walk a0 len0 cap0 z0 a1 len1 cap1 z1 W w0 w1 (errs_of hL)).mono fun e W' ⟨he, bel⟩ => ?_
  subst he
  exact ⟨_, rfl, _, _, _, [], _, _, hW', trodAll_mk1 (shut_bool Tryd.underlying4 _), (trodAll_cons_mk (Below.trod laidOut (by kernel_rfl) (of_decide_eq_true (by kernel_rfl)) k0 bel lt0) (trodAll_cons_mk (Below.trod laidOut (by kernel_rfl) (of_decide_eq_true (by kernel_rfl)) k1 bel lt1) trodAll_mk0)), Below.trodVars laidOut bel (by kernel_rfl) hV, bel.frame _, fun h => by cases h⟩

theorem said : Rows.FnWordsSaid :=
  OpenClaim.holds_of_wide 3 Tryd.f3 rfl rfl rfl rfl rfl rfl rfl ⟨rfl, rfl, rfl, rfl, rfl⟩ rfl rfl rfl rfl rfl (by kernel_rfl) Tryd.func3 (by kernel_rfl)
    (of_decide_eq_true (by kernel_rfl)) (by unfold Func.isWrapper; first | (rw [if_pos (by decide +kernel)]; kernel_rfl) | (rw [if_neg (by decide +kernel)]; exact ⟨rfl, rfl⟩))
    (fun os started H enc _ => lifted os started H enc)

theorem card : Rows.FnWordsCardSaid :=
  Claim7.holds_tied_plain_at .later [] _ _ _ _ said (fun _ h => by cases h) (by kernel_rfl) (fun _ h => by cases h) fnWords_row_tie rfl ⟨rfl, rfl⟩ (by kernel_rfl) rfl
    (fun f fn hf hfn => by
      obtain rfl : f = 3 := Option.some.inj ((show Tryd.prog.funcNamed "loop.example/g00644/laws.FnWords" = some 3 by kernel_rfl).symm.trans hf) |>.symm
      obtain rfl : fn = Tryd.f3 := (Option.some.inj (Tryd.func3.symm.trans hfn)).symm
      exact ⟨by kernel_rfl, fun j t ht => by
        rw [Tryd.params3] at ht
        have hm : t ∈ [22, 22] := by simpa using Array.mem_of_getElem? ht
        have hall : ([22, 22].all fun u => !Tryd.prog.wantsStandIn u) = true := by kernel_rfl
        exact (show Tryd.prog.wantsStandIn t = false by simpa using List.all_eq_true.1 hall t hm)⟩)
    (by kernel_rfl)
end Go.Proofs.YthffhfafnohndaaDoor.fnWords
namespace Go.Proofs.YthffhfafnohndaaDoor
theorem fnWords_holds : Rows.FnWordsCardSaid := fnWords.card
#print axioms fnWords_holds
end Go.Proofs.YthffhfafnohndaaDoor
