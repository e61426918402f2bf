/- Which port is wanted: what the specification and the program answer. -/
import Derived.Test.YtacghkidpbflkabDoorHbq
import Derived.Test.YtacghkidpbflkabDoorRrq
import Derived.Test.YtacghkidpbflkabDoorKeq
import Derived.Test.YtacghkidpbflkabDoorBfq
namespace Go.Proofs.YtacghkidpbflkabDoor
open Go.ChangeShapes Go.WideShapes Go.ChangeAt Go.RowKit
set_option linter.unusedVariables false
set_option linter.unusedSimpArgs false

def pwO (c : Cp) (M : Mem) : Int := decO (peekN M c.pc)
def pwN (c : Cp) (M : Mem) : Int := decN (peekN M c.pc) (peekN M ((c.pc + 1) % 256))
def pw3 (c : Cu) (M : Mem) : Value := if okC c = true then (if okM M = true then (if c.halt = true then .tuple #[.int .i64 0, .bool false, .int .i64 0] else if pwO c.cp M = 17 then .tuple #[.int .i64 (pwN c.cp M), .bool true, .int .i64 0] else .tuple #[.int .i64 0, .bool false, .int .i64 0]) else .tuple #[.int .i64 0, .bool false, .int .i64 1]) else .tuple #[.int .i64 0, .bool false, .int .i64 1]
set_option maxRecDepth 100000 in
set_option maxHeartbeats 1000000 in
theorem pw_spec (c : Cu) (v : Value) (M : Mem) (w : World) (h : MemR w v M) (hf : Fit M) :
    Calls Tryd.prog 9 #[cuV c, v] w fun e w' => e = .returned (pw3 c M) ∧ Below w.heap.size w w' := by
  obtain ⟨a1, p1, a2, p2, rfl, _, _⟩ := h.form
  have hs := hid (two_newC w (cuA c) #[.slice a1 M.rom.length p1, .slice a2 M.ram.length p2, .int .i64 M.page, .int .i64 M.screen, .bool M.locked] 32 34)
  have x0 := hs.out.1.cell
  have x1 := hs.out.2.1.cell
  have hask : Hid (∀ W', Below w.heap.size w W' → Calls _ _ _ W' _) := fun W' hb => cask_spec c _ M W' (h.below hb) hf
  have hin : Hid (okC c = true → okM M = true → ∀ W', Below w.heap.size w W' → Calls Tryd.prog 37 #[cuV c, memV (.slice a1 M.rom.length p1) (.slice a2 M.ram.length p2) M.page M.screen M.locked] W' fun e w' => e = .returned (dcdV (peekN M c.cp.pc) (peekN M ((c.cp.pc + 1) % 256))) ∧ Below W'.heap.size W' w') := fun h1 h2 W' hb => by
    have q := cinstr_spec c.cp _ M W' (h.below hb) h2 (okC_cp h1).2.2.2.2.2.2.2.2.2.2
    rw [← (okC_cp h1).1] at q
    exact q
  clear h hf
  cases hb0 : okC c && okM M
  · have e : pw3 c M = .tuple #[.int .i64 0, .bool false, .int .i64 1] := by
      unfold pw3
      cases h1 : okC c
      · rfl
      · rw [h1, Bool.true_and] at hb0
        rw [hb0]
        rfl
    rw [e]
    rw [hb0] at hask
    clear e hin
    go_enter Tryd.func9, Tryd.ntmps9
    go_upto_region 1 with fail
    obtain ⟨V, hV⟩ : ∃ V, ((w.alloc (.cells (cuA c) 32)).alloc (.cells #[.slice a1 M.rom.length p1, .slice a2 M.ram.length p2, .int .i64 M.page, .int .i64 M.screen, .bool M.locked] 34)) = V := ⟨_, rfl⟩
    rw [hV] at hs x0 x1 ⊢
    clear hV
    go_wp2_with fail
    refine (hask.out _ hs.out.2.2).mono ?_
    rintro e w1 ⟨rfl, hb⟩
    have hb1 := hid (new_trans hs.out.2.2 hb)
    clear hb hs x0 x1
    go_wp2
    go_ret3
    exact ⟨rfl, hb1.out⟩
  · rw [hb0] at hask
    rw [Bool.and_eq_true] at hb0
    obtain ⟨o, a, b, m, l, hd, ho, hm⟩ : ∃ o a b m l, dcdV (peekN M c.cp.pc) (peekN M ((c.cp.pc + 1) % 256)) = insV o a b m l ∧ pwO c.cp M = o ∧ pwN c.cp M = m := ⟨_, _, _, _, _, rfl, rfl, rfl⟩
    have hin2 := hid (hin.out hb0.1 hb0.2)
    rw [hd] at hin2
    have e : pw3 c M = if c.halt = true then .tuple #[.int .i64 0, .bool false, .int .i64 0] else if o = 17 then .tuple #[.int .i64 m, .bool true, .int .i64 0] else .tuple #[.int .i64 0, .bool false, .int .i64 0] := by unfold pw3; rw [if_pos hb0.1, if_pos hb0.2, ho, hm]
    rw [e]
    clear e hin hd ho hm hb0
    have main : ∀ (hh : Bool) (h17 : Bool) (R : Value), c.halt = hh → (o == 17) = h17 → R = (if hh = true then .tuple #[.int .i64 0, .bool false, .int .i64 0] else if h17 = true then .tuple #[.int .i64 m, .bool true, .int .i64 0] else .tuple #[.int .i64 0, .bool false, .int .i64 0]) → Calls Tryd.prog 9 #[cuV c, memV (.slice a1 M.rom.length p1) (.slice a2 M.ram.length p2) M.page M.screen M.locked] w fun e w' => e = .returned R ∧ Below w.heap.size w w' := by
      intro hh h17 R e1 e2 hR
      replace e1 := hid e1
      have e3 : (o != 17) = !h17 := by rw [← e2]; rfl
      cases hh <;> cases h17
      all_goals
        simp only [Bool.false_eq_true, if_false, if_true, reduceIte] at hR
        subst hR
        go_enter Tryd.func9, Tryd.ntmps9
        go_upto_region 1 with fail
        obtain ⟨V, hV⟩ : ∃ V, ((w.alloc (.cells (cuA c) 32)).alloc (.cells #[.slice a1 M.rom.length p1, .slice a2 M.ram.length p2, .int .i64 M.page, .int .i64 M.screen, .bool M.locked] 34)) = V := ⟨_, rfl⟩
        rw [hV] at hs x0 x1 ⊢
        clear hV
        go_wp2_with fail
        refine (hask.out _ hs.out.2.2).mono ?_
        rintro e w1 ⟨rfl, hb⟩
        have hb1 := hid (new_trans hs.out.2.2 hb)
        have q0 := hid (hs.out.1.below hb hs.out.1.lt)
        have q1 := hid (hs.out.2.1.below hb hs.out.2.1.lt)
        have y0 := q0.out.cell
        have y1 := q1.out.cell
        clear hb hs x0 x1 hask
        go_wp2_with fail
        refine (hin2.out _ hb1.out).mono ?_
        rintro e w2 ⟨rfl, hb⟩
        have hb2 := hid ((new_trans hb1.out hb).alloc (new_trans hb1.out hb).size (.cells #[.int .i64 o, .int .i64 a, .int .i64 b, .int .i64 m, .int .i64 l] 84))
        have z0 := (q0.out.below hb q0.out.lt).cell
        have z1 := (q0.out.below hb q0.out.lt).lt
        have e4 := e1.out
        clear hb hb1 q0 q1 y0 y1 hin2
        go_wp2
        go_ret3
        exact ⟨rfl, hb2.out⟩
    refine main c.halt (o == 17) _ rfl rfl ?_
    cases c.halt
    · by_cases h17 : o = 17
      · rw [h17]; rfl
      · have : (o == 17) = false := by simp [h17]
        rw [this, if_neg h17]
        rfl
    · rfl
end Go.Proofs.YtacghkidpbflkabDoor
