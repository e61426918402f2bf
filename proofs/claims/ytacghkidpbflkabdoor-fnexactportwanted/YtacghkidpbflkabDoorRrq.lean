/- What all calls on a processor and a memory ask first. -/
import Derived.Test.YtacghkidpbflkabDoorHiq
import Derived.Test.YtacghkidpbflkabDoorCpfq
import Derived.Test.YtacghkidpbflkabDoorBbq
namespace Go.Proofs.YtacghkidpbflkabDoor
open Go.ChangeShapes Go.WideShapes Go.ChangeAt Go.RowKit
set_option linter.unusedVariables false
set_option linter.unusedSimpArgs false

def cfM (c : Cu) (M : Mem) (zs : List Int) : Int := if okC c = true then faultM M zs else 1
set_option maxRecDepth 100000 in
theorem cfault_impl (c : Cu) (v : Value) (M : Mem) (a : Option Addr) (cap : Nat) (zs : List Int) (w : World) (h : MemR w v M) (hf : Fit M) (hz : RowR w (.slice a zs.length cap) zs) (hl : zs.length ≤ 1000000000) :
    Calls Tryd.prog 41 #[cuV c, v, .slice a zs.length cap] w fun e w' => e = .returned (.int .i64 (cfM c M zs)) ∧ Below w.heap.size w w' := by
  obtain ⟨a1, p1, a2, p2, rfl, _, _⟩ := h.form
  have hs := hid (two_in (w := w) (cuA c) #[.slice a1 M.rom.length p1, .slice a2 M.ram.length p2, .int .i64 M.page, .int .i64 M.screen, .bool M.locked] 32 34)
  have x0 := hs.out.1.cell
  have hok := hid (fun w1 => cpuok_impl c w1)
  have hft : Hid (∀ W', Below w.heap.size w W' → Calls Tryd.prog 94 #[memV (.slice a1 M.rom.length p1) (.slice a2 M.ram.length p2) M.page M.screen M.locked, .slice a zs.length cap] W' fun e w' => e = .returned (.int .i64 (faultM M zs)) ∧ Below W'.heap.size W' w') := fun W' hb => fault_impl _ M a cap zs W' (h.below hb) hf (hz.below hb) hl
  clear h hf hz
  generalize zs.length = n at *
  cases hc : okC c
  · have e : cfM c M zs = 1 := by unfold cfM; rw [hc]; rfl
    rw [e]
    rw [hc] at hok
    clear e
    go_enter Tryd.func41, Tryd.ntmps41
    go_upto_region 1 with fail
    obtain ⟨V, hV⟩ : ∃ V, ((w.alloc (.cells (cuA c) 32)).alloc (.cells #[.slice a1 M.rom.length p1, .slice a2 M.ram.length p2, .int .i64 M.page, .int .i64 M.screen, .bool M.locked] 34)) = V := ⟨_, rfl⟩
    rw [hV] at hs x0 ⊢
    clear hV
    go_wp2_with fail
    refine (hok.out _).mono ?_
    rintro e w1 ⟨rfl, hb⟩
    have hb1 := hid (new_trans hs.out.2.2 hb)
    clear hb hs x0
    go_wp2
    go_ret
    exact ⟨rfl, hb1.out⟩
  · have e : cfM c M zs = faultM M zs := by unfold cfM; rw [hc]; rfl
    rw [e]
    rw [hc] at hok
    clear e
    generalize faultM M zs = F at *
    go_enter Tryd.func41, Tryd.ntmps41
    go_upto_region 1 with fail
    obtain ⟨V, hV⟩ : ∃ V, ((w.alloc (.cells (cuA c) 32)).alloc (.cells #[.slice a1 M.rom.length p1, .slice a2 M.ram.length p2, .int .i64 M.page, .int .i64 M.screen, .bool M.locked] 34)) = V := ⟨_, rfl⟩
    rw [hV] at hs x0 ⊢
    clear hV
    go_wp2_with fail
    refine (hok.out _).mono ?_
    rintro e w1 ⟨rfl, hb⟩
    have hb1 := hid (new_trans hs.out.2.2 hb)
    have x1 := (hs.out.2.1.below hb hs.out.2.1.lt).cell
    clear hb hs x0
    go_wp2_with fail
    refine (hft.out _ hb1.out).mono ?_
    rintro e w2 ⟨rfl, hb⟩
    have hb2 := hid (new_trans hb1.out hb)
    clear hb hb1 x1
    go_wp2
    go_ret
    exact ⟨rfl, hb2.out⟩
end Go.Proofs.YtacghkidpbflkabDoor
