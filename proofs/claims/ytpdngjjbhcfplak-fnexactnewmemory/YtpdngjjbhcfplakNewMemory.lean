/- For every text the law FnExactNewMemory returns true: impl.NewMemory answers as spec.NewMemory, in memory of its own. -/
import Derived.Test.YtpdngjjbhcfplakRows
import Derived.Test.YtpdngjjbhcfplakBase
import Derived.Test.YtpdngjjbhcfplakIn
import Derived.Test.YtpdngjjbhcfplakBt
import Derived.Test.YtpdngjjbhcfplakMa
import Derived.Test.YtpdngjjbhcfplakMb
import Derived.Test.YtpdngjjbhcfplakMc
import Derived.Test.YtpdngjjbhcfplakMd
import Derived.Test.YtpdngjjbhcfplakBl
import Derived.Test.YtpdngjjbhcfplakMe
import Derived.Test.YtpdngjjbhcfplakMf
import Derived.Test.YtpdngjjbhcfplakMg
import Derived.Test.YtpdngjjbhcfplakMh
import Derived.Test.YtpdngjjbhcfplakMi
import Derived.Test.YtpdngjjbhcfplakMj
import Derived.Test.YtpdngjjbhcfplakMk
import Derived.Test.YtpdngjjbhcfplakMl
import Derived.Test.YtpdngjjbhcfplakMn
import Derived.Test.YtpdngjjbhcfplakMo
import Derived.Test.YtpdngjjbhcfplakMp
import Derived.Test.YtpdngjjbhcfplakBa
import Derived.Test.YtpdngjjbhcfplakBb
import Derived.Test.YtpdngjjbhcfplakBc
import Derived.Test.YtpdngjjbhcfplakBj
import Derived.WalkKit
import Derived.ProofKit
import Derived.OpenShut
import Derived.ShutString
import Derived.ChangeOld
import Derived.Below
import Derived.Lib.SmallJoins
namespace Go.Proofs.Ytpdngjjbhcfplak.fnExactNewMemory
open Go.ChangeShapes Go.WideShapes Go.ChangeAt Go.RowKit Go.Joins
open Go.ChangeMaps (open_string shut_string)
set_option linter.unusedVariables false

theorem own : ownKnob Try.prog.godebug = none := by kernel_rfl
theorem laidOut : laidOutB Try.prog = true := by kernel_rfl

set_option maxRecDepth 100000 in
set_option maxHeartbeats 8000000 in
theorem walk (a0 : ByteArray) (w : World) (w0 : a0.size ≤ maxLen) :
    Calls Try.prog 5 #[.string a0] w fun e w' => e = .returned (.bool true) ∧ Below w.heap.size w w' := by
  by_cases hbig : 1048576 < a0.size
  · unfold maxLen at w0
    go_enter Try.func5, Try.ntmps5
    go_wp2
    go_ret
    exact ⟨rfl, Below.refl _ _⟩
  have hw0 := hid w0
  unfold maxLen at w0
  obtain ⟨M8, hM8⟩ : ∃ M8, newM a0 = M8 := ⟨_, rfl⟩
  obtain ⟨C8, hC8⟩ : ∃ C8, newC a0 = C8 := ⟨_, rfl⟩
  have hs8 : Hid (Small M8) := by rw [← hM8]; exact new_small a0
  replace hM8 := hid hM8
  replace hC8 := hid hC8
  go_enter Try.func5, Try.ntmps5
  go_wp2_with fail
  refine (new_spec _ _ hw0.out).mono ?_
  rintro e w3 ⟨u3, rfl, hm3, hb3⟩
  rw [hM8.out] at hm3
  rw [hC8.out]
  have hz3 := hb3.size
  obtain ⟨g1, h1, g2, h2, rfl, _, _⟩ := hm3.reads.form
  have x3 := (Blk.new w3 #[.slice g1 M8.rom.length h1, .slice g2 M8.ram.length h2, .int .i64 M8.page, .int .i64 M8.screen, .bool M8.locked] 31).cell
  replace hm3 := hid hm3
  replace hb3 := hid hb3
  go_wp2_with fail
  refine (new_impl _ _ hw0.out).mono ?_
  rintro e w5 ⟨u5, rfl, hm5, hb5⟩
  rw [hM8.out] at hm5
  rw [hC8.out]
  rw [World.size_alloc] at hm5
  obtain ⟨k1, l1, k2, l2, rfl, _, _⟩ := hm5.reads.form
  have hz5 := hb5.size
  rw [World.size_alloc] at hz5
  have S0 : Hid (NSt w (w5.alloc (.cells #[.slice k1 M8.rom.length l1, .slice k2 M8.ram.length l2, .int .i64 M8.page, .int .i64 M8.screen, .bool M8.locked] 31)) #[.slice g1 M8.rom.length h1, .slice g2 M8.ram.length h2, .int .i64 M8.page, .int .i64 M8.screen, .bool M8.locked] #[.slice k1 M8.rom.length l1, .slice k2 M8.ram.length l2, .int .i64 M8.page, .int .i64 M8.screen, .bool M8.locked] w3.heap.size (w3.heap.size + 1) w5.heap.size (memV (.slice g1 M8.rom.length h1) (.slice g2 M8.ram.length h2) M8.page M8.screen M8.locked) (memV (.slice k1 M8.rom.length l1) (.slice k2 M8.ram.length l2) M8.page M8.screen M8.locked) M8 M8) := by
    have hb5' : Below (w3.heap.size + 1) (w3.alloc (.cells #[.slice g1 M8.rom.length h1, .slice g2 M8.ram.length h2, .int .i64 M8.page, .int .i64 M8.screen, .bool M8.locked] 31)) w5 := by
      have := hb5
      rw [World.size_alloc] at this
      exact this
    have ha3 : Below w3.heap.size w3 (w3.alloc (.cells #[.slice g1 M8.rom.length h1, .slice g2 M8.ram.length h2, .int .i64 M8.page, .int .i64 M8.screen, .bool M8.locked] 31)) := (Below.refl _ _).alloc (Nat.le_refl _) _
    have ha5 : Below w5.heap.size w5 (w5.alloc (.cells #[.slice k1 M8.rom.length l1, .slice k2 M8.ram.length l2, .int .i64 M8.page, .int .i64 M8.screen, .bool M8.locked] 31)) := (Below.refl _ _).alloc (Nat.le_refl _) _
    refine ⟨⟨hz3, by omega, by omega, by simp⟩, ((Blk.new w3 _ _).below hb5' (by omega)).below ha5 (by omega), Blk.new w5 _ _, ((hm3.out.below ha3 (by omega)).below hb5' (by omega)).below ha5 (by omega), hm5.below ha5 (by omega), ?_⟩
    exact new_trans (new_trans (new_trans hb3.out ha3) hb5) ha5
  clear hb5 hm5 hm3 hb3 x3
  obtain ⟨W5, hW5⟩ : ∃ W5, (w5.alloc (.cells #[.slice k1 M8.rom.length l1, .slice k2 M8.ram.length l2, .int .i64 M8.page, .int .i64 M8.screen, .bool M8.locked] 31)) = W5 := ⟨_, rfl⟩
  obtain ⟨b8, hb8⟩ : ∃ b8, w3.heap.size = b8 := ⟨_, rfl⟩
  obtain ⟨b11, hb11⟩ : ∃ b11, w5.heap.size = b11 := ⟨_, rfl⟩
  rw [hW5] at S0
  rw [hb8, hb11] at S0
  have x8 := S0.out.q8.cell
  have x11 := S0.out.q11.cell
  go_wp2_with fail
  clear hW5 hb8 hb11
  refine (eqm_yes _ _ M8 _ S0.out.m11.reads S0.out.m8.reads hs8.out).mono ?_
  rintro e w6 ⟨rfl, hb6⟩
  have S5 := hid (S0.out.below hb6)
  clear hb6 S0 x8 x11
  have x8 := S5.out.q8.cell
  have x11 := S5.out.q11.cell
  have hw5 := S5.out.ord.2.2
  go_wp2_with fail
  refine (markm _ M8 1 _ _ _ S5.out.m11 (by omega) hs8.out (by omega) (by omega)).mono ?_
  rintro e w11 ⟨rfl, hm11, ht11⟩
  have S6 := hid (S5.out.markG ht11 hm11)
  clear hm11 ht11 S5 x8 x11 hw5
  have x8 := S6.out.q8.cell
  have x11 := S6.out.q11.cell
  obtain ⟨k2, hk2⟩ : ∃ k2 : Int, 1 + (cntM M8 : Nat) = k2 := ⟨_, rfl⟩
  rw [hk2]
  have hk3 : ¬ k2 < 0 := by omega
  replace hk2 := hid hk2
  go_wp2_with fail
  refine (heldm _ M8 1 _ S6.out.m11.reads hs8.out (by omega) (by omega)).mono ?_
  rintro e w12 ⟨rfl, hb12⟩
  rw [hk2.out]
  have S7 := hid (S6.out.below hb12)
  clear hb12 S6 x8 x11
  have hkk : (k2 != k2) = false := by simp
  go_wp2_with fail
  refine (new_impl _ _ hw0.out).mono ?_
  rintro e w14 ⟨u14, rfl, hm14, hb14⟩
  rw [hM8.out] at hm14
  rw [hC8.out]
  have m14 := hid hm14.reads
  obtain ⟨e5, f5, e6, f6, rfl, _, _⟩ := hm14.reads.form
  have S9 := hid (S7.out.below hb14)
  have S10 : Hid (∀ o, _) := fun o => S9.out.below ((Below.refl w14.heap.size w14).alloc (Nat.le_refl _) o)
  have m15 : Hid (∀ o, MemR (w14.alloc o) _ M8) := fun o => m14.out.below ((Below.refl w14.heap.size w14).alloc (Nat.le_refl _) o)
  have x8 := S9.out.q8.cell
  have x11 := S9.out.q11.cell
  have o8 : b8 < w14.heap.size := by have := S9.out.ord; omega
  have o11 : b11 < w14.heap.size := by have := S9.out.ord; omega
  clear hm14 hb14 S7 m14 S9
  go_wp2_with fail
  refine (eqm_yes _ _ M8 _ (m15.out _) (S10.out _).m8.reads hs8.out).mono ?_
  rintro e w15 ⟨rfl, hb15⟩
  have S11 := hid ((S10.out _).below hb15)
  clear hb15 S10 m15 x8 x11 o8 o11
  have x8 := S11.out.q8.cell
  have x11 := S11.out.q11.cell
  go_wp2_with fail
  refine (heldm _ M8 1 _ S11.out.m11.reads hs8.out (by omega) (by omega)).mono ?_
  rintro e w16 ⟨rfl, hb16⟩
  rw [hk2.out]
  have hBe := hid (S11.out.below hb16).bel
  clear hb16 S11 x8 x11
  go_wp2
  go_ret
  exact ⟨rfl, hBe.out⟩

set_option maxRecDepth 100000 in
theorem lifted (os : Os) (started : os.Started) (H : Type) (enc : TypeId × Value → H) :
    ReturnsInHanded {} Try.checked os 5 .any (Rows.fnExactNewMemorySpec.pre6 enc Try.prog Try.f5 Rows.fnExactNewMemoryRow.domain false) (Rows.fnExactNewMemorySpec.post enc Try.prog Try.f5 false true false false) := by
  refine returnsInHanded_of_change (C := Try.checked) own started (by kernel_rfl) Try.func5
    (ChangeSpec.witness6 (enc := enc) (C := Try.checked) false ⟨#[], #[.string ByteArray.empty], []⟩ 8 (by kernel_rfl) (by kernel_rfl) (by kernel_rfl) (by kernel_rfl)) ?_
  intro W base args ds gs before hval0 hW hcnd _
  have hval : ∀ (j : Nat) t v, Try.f5.params[j]? = some t → args[j]? = some v → Value.okWide Try.prog W .any base t v := hval0
  have hW' := hW
  obtain ⟨p, q, hA0, hV, rfl, hfz, hnd⟩ := hW
  have hA : DataW.TrodAll enc Try.prog W 0 (fun _ => true) true Try.f5.params.toList args.toList ds p := hA0
  rw [Try.params5] at hA hval
  obtain ⟨v0, vs0, d0, ds0, p0, q0, hargs, rfl, rfl, h0, r0⟩ := trodAll_cons hA
  obtain ⟨rfl, rfl, rfl⟩ := trodAll_nil r0
  obtain rfl : args = #[v0] := by cases args; simp_all
  obtain ⟨rfl, rfl⟩ := trodVars_none hV
  obtain ⟨a0, rfl, rfl, rfl, w0⟩ := open_string Try.underlying9 (hval 0 9 v0 rfl rfl) h0
  clear hA0 hval0
  refine (walk a0 W w0).mono fun e W' ⟨he, bel⟩ => ?_
  subst he
  exact ⟨_, rfl, _, _, _, [], _, [], hW', (trodAll_cons_mk (shut_bool Try.underlying4 _) trodAll_mk0), (trodAll_cons_mk (shut_string Try.underlying9 w0) trodAll_mk0), rfl, bel.frame _, fun h => by cases h⟩

theorem said : Rows.FnExactNewMemorySaid :=
  OpenClaim.holds_of_wide 5 Try.f5 rfl rfl rfl rfl rfl rfl rfl ⟨rfl, rfl, rfl, rfl, rfl⟩ rfl rfl rfl rfl rfl (by kernel_rfl) Try.func5 (by kernel_rfl)
    (of_decide_eq_true (by kernel_rfl)) (by unfold Func.isWrapper; first | (rw [if_pos (by decide +kernel)]; kernel_rfl) | (rw [if_neg (by decide +kernel)]; exact ⟨rfl, rfl⟩))
    (fun os started H enc _ => lifted os started H enc)
end Go.Proofs.Ytpdngjjbhcfplak.fnExactNewMemory
namespace Go.Proofs.Ytpdngjjbhcfplak
theorem fnExactNewMemory_holds : Rows.FnExactNewMemorySaid := fnExactNewMemory.said
#print axioms fnExactNewMemory_holds
end Go.Proofs.Ytpdngjjbhcfplak
