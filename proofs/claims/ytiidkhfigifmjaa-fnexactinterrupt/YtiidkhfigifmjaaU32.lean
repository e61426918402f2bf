/- A processor is made; what all calls on a processor and a memory ask first. -/
import Derived.Test.YtiidkhfigifmjaaU31
import Derived.Test.YtiidkhfigifmjaaU22
import Derived.Test.YtiidkhfigifmjaaU17
namespace Go.Proofs.Ytiidkhfigifmjaa
open Go.ChangeShapes Go.WideShapes Go.ChangeAt Go.RowKit
set_option linter.unusedVariables false
set_option linter.unusedSimpArgs false

abbrev cqA (c : Cp) : Array Value := #[.int .i64 (c.b : Int), .int .i64 (c.c : Int), .int .i64 (c.d : Int), .int .i64 (c.e : Int), .int .i64 (c.h : Int), .int .i64 (c.l : Int), .int .i64 0, .int .i64 (c.a : Int), .int .i64 (c.f : Int), .int .i64 (c.sp : Int), .int .i64 (c.pc : Int), .bool c.iff, .bool c.ei, .bool c.halt]
theorem made_pro {w w1 : World} {lo hi B r s n : Nat} {G Q : Nat → Nat} {M : Mem} {c : Cp} (t : TypeId) (h : Brd w1 lo hi B r s G Q M) (hb : Below w.heap.size w w1) (hl : w.heap.size ≤ lo) :
    Brd (w1.alloc (.cells (proT c B n .nilFunc) t)) lo hi B r s G Q M ∧ Blk (w1.alloc (.cells (proT c B n .nilFunc) t)) w1.heap.size (proT c B n .nilFunc) ∧ ¬ brdB lo hi B Q w1.heap.size ∧ w.heap.size ≤ w1.heap.size ∧ w.heap.size ≤ lo ∧ Below w.heap.size w (w1.alloc (.cells (proT c B n .nilFunc) t)) := by
  have hhi : hi ≤ w1.heap.size := Nat.le_trans h.ord.1 (Nat.le_of_lt h.blk.lt)
  exact ⟨h.kept (fun b hh => Below.heap_alloc _ _ _ (h.lt hhi hh)), Blk.new _ _ _, fun hh => absurd (h.lt hhi hh) (Nat.lt_irrefl _), hb.size, hl, hb.alloc hb.size _⟩
set_option maxRecDepth 100000 in
set_option maxHeartbeats 2000000 in
theorem newp_impl (c : Cp) (v : Value) (M : Mem) (n : Nat) (w : World) (h : MemR w v M) (hok : okM M = true) (hf : Fit M) :
    Calls Try.prog 27 #[.agg (cqA c), v, .int .i64 (n : Int)] w fun e w' => ∃ lo hi B r s G Q Y, e = .returned (.pointer (some ⟨Y, 0, none⟩)) ∧ Brd w' lo hi B r s G Q M ∧ Blk w' Y (proT c B n .nilFunc) ∧ ¬ brdB lo hi B Q Y ∧ w.heap.size ≤ Y ∧ w.heap.size ≤ lo ∧ Below w.heap.size w w' := by
  obtain ⟨a1, p1, a2, p2, rfl, _, _⟩ := h.form
  have hs := hid (two_in (w := w) (cqA c) #[.slice a1 M.rom.length p1, .slice a2 M.ram.length p2, .int .i64 M.page, .int .i64 M.screen, .bool M.locked] 25 30)
  have x0 := hs.out.1.cell
  have x1 := hs.out.2.1.cell
  have hM : Hid (∀ W', Below w.heap.size w W' → MemR W' (memV (.slice a1 M.rom.length p1) (.slice a2 M.ram.length p2) M.page M.screen M.locked) M) := fun W' hb => h.below hb
  replace hf := hid hf
  clear h
  go_enter Try.func27, Try.ntmps27
  go_upto_region 1 with fail
  obtain ⟨V, hV⟩ : ∃ V, ((w.alloc (.cells (cqA c) 25)).alloc (.cells #[.slice a1 M.rom.length p1, .slice a2 M.ram.length p2, .int .i64 M.page, .int .i64 M.screen, .bool M.locked] 30)) = V := ⟨_, rfl⟩
  rw [hV] at hs x0 x1 ⊢
  clear hV
  have hq : Hid (Blk V.drew w.heap.size (cqA c)) := hs.out.1
  have hB := hid hs.out.2.2
  clear hs
  go_region_with (go_at_call 36; refine (board_impl _ M _ (hM.out _ (by first | exact hB.out | exact hB.out.drew)) hok hf.out).mono ?_; rintro e w1 ⟨hi, B, r, s, G, Q, rfl, hBr, hb1⟩; have y0 := (hq.out.below hb1 hq.out.lt).cell; have hbw : Below w.heap.size w w1 := (hB.out.drew).trans (hb1.mono hB.out.size); have hlo := hB.out.size; have hE := hid (made_pro (c := c) (n := n) 91 hBr hbw hlo); clear hb1 hbw hBr)
  all_goals (try go_wp2)
  all_goals go_ret
  all_goals exact ⟨_, hi, B, r, s, G, Q, _, rfl, hE.out⟩
end Go.Proofs.Ytiidkhfigifmjaa

/- What all calls on a processor and a memory ask first. -/
namespace Go.Proofs.Ytiidkhfigifmjaa
open Go.ChangeShapes Go.WideShapes Go.ChangeAt Go.RowKit
set_option linter.unusedVariables false
set_option linter.unusedSimpArgs false

def cfM (c : Cu) (M : Mem) (zs : List Int) : Int := if okC c = true then faultM M zs else 1
set_option maxRecDepth 100000 in
theorem cfault_impl (c : Cu) (v : Value) (M : Mem) (a : Option Addr) (cap : Nat) (zs : List Int) (w : World) (h : MemR w v M) (hf : Fit M) (hz : RowR w (.slice a zs.length cap) zs) (hl : zs.length ≤ 1000000000) :
    Calls Try.prog 25 #[cuV c, v, .slice a zs.length cap] w fun e w' => e = .returned (.int .i64 (cfM c M zs)) ∧ Below w.heap.size w w' := by
  obtain ⟨a1, p1, a2, p2, rfl, _, _⟩ := h.form
  have hs := hid (two_in (w := w) (cuA c) #[.slice a1 M.rom.length p1, .slice a2 M.ram.length p2, .int .i64 M.page, .int .i64 M.screen, .bool M.locked] 25 30)
  have x0 := hs.out.1.cell
  have hok := hid (fun w1 => cpuok_impl c w1)
  have hft : Hid (∀ W', Below w.heap.size w W' → Calls Try.prog 35 #[memV (.slice a1 M.rom.length p1) (.slice a2 M.ram.length p2) M.page M.screen M.locked, .slice a zs.length cap] W' fun e w' => e = .returned (.int .i64 (faultM M zs)) ∧ Below W'.heap.size W' w') := fun W' hb => fault_impl _ M a cap zs W' (h.below hb) hf (hz.below hb) hl
  clear h hf hz
  generalize zs.length = n at *
  cases hc : okC c
  · have e : cfM c M zs = 1 := by unfold cfM; rw [hc]; rfl
    rw [e]
    rw [hc] at hok
    clear e
    go_enter Try.func25, Try.ntmps25
    go_upto_region 1 with fail
    obtain ⟨V, hV⟩ : ∃ V, ((w.alloc (.cells (cuA c) 25)).alloc (.cells #[.slice a1 M.rom.length p1, .slice a2 M.ram.length p2, .int .i64 M.page, .int .i64 M.screen, .bool M.locked] 30)) = V := ⟨_, rfl⟩
    rw [hV] at hs x0 ⊢
    clear hV
    go_wp2_with fail
    refine (hok.out _).mono ?_
    rintro e w1 ⟨rfl, hb⟩
    have hb1 := hid (new_trans hs.out.2.2 hb)
    clear hb hs x0
    go_wp2
    go_ret
    exact ⟨rfl, hb1.out⟩
  · have e : cfM c M zs = faultM M zs := by unfold cfM; rw [hc]; rfl
    rw [e]
    rw [hc] at hok
    clear e
    generalize faultM M zs = F at *
    go_enter Try.func25, Try.ntmps25
    go_upto_region 1 with fail
    obtain ⟨V, hV⟩ : ∃ V, ((w.alloc (.cells (cuA c) 25)).alloc (.cells #[.slice a1 M.rom.length p1, .slice a2 M.ram.length p2, .int .i64 M.page, .int .i64 M.screen, .bool M.locked] 30)) = V := ⟨_, rfl⟩
    rw [hV] at hs x0 ⊢
    clear hV
    go_wp2_with fail
    refine (hok.out _).mono ?_
    rintro e w1 ⟨rfl, hb⟩
    have hb1 := hid (new_trans hs.out.2.2 hb)
    have x1 := (hs.out.2.1.below hb hs.out.2.1.lt).cell
    clear hb hs x0
    go_wp2_with fail
    refine (hft.out _ hb1.out).mono ?_
    rintro e w2 ⟨rfl, hb⟩
    have hb2 := hid (new_trans hb1.out hb)
    clear hb hb1 x1
    go_wp2
    go_ret
    exact ⟨rfl, hb2.out⟩
end Go.Proofs.Ytiidkhfigifmjaa

/- An interrupt as plain numbers, and as the program's processor takes it. -/
namespace Go.Proofs.Ytiidkhfigifmjaa
open Go.ChangeShapes Go.WideShapes Go.ChangeAt Go.RowKit
set_option linter.unusedVariables false
set_option linter.unusedSimpArgs false

set_option maxRecDepth 100000 in
set_option maxHeartbeats 1000000 in
theorem pinter (p : Par) (hT : Tells p) (z : Kps) (W : World) (c : Cp) (M : Mem) (h : At p z W ⟨c, M, []⟩) (hk : okM M = true) (hp : c.pc < 256) (hs : c.sp < 256) :
    Calls Try.prog 29 #[.pointer (some ⟨p.Y, 0, none⟩)] W fun e W' => e = .returned (.tuple #[]) ∧ At p z W' (intM c M) := by
  have hfe := hid (pfetch p hT z W ⟨c, M, []⟩ h (by simp) hk hp)
  have hpu : Hid (∀ W1, At p z W1 (intP c M) → Calls _ _ _ W1 _) := fun W1 h1 => ppush c.pc p hT z W1 (intP c M) h1 (by simp [intP]) hk hs
  have e : (⟨c, M, []⟩ : Mx).note 1 c.pc (peekN M c.pc) = ⟨c, M, [(1, c.pc, peekN M c.pc)]⟩ := rfl
  replace hT := hid hT
  clear h
  go_enter Try.func29, Try.ntmps29
  go_wp2_with fail
  refine hfe.out.mono ?_
  rintro e w1 ⟨rfl, h1⟩
  have x1 : ∀ i, w1.cell? ⟨p.Y, i, none⟩ = (proA c p.B p.n p.I p.V)[i]? := h1.cell
  have f1 := h1.frozen
  have z1 := h1.lt
  have h2 := hid ((h1.put 13 (.bool false) { c with halt := false } rfl).put 11 (.bool false) { c with halt := false, iff := false } rfl)
  clear h1 hfe
  go_upto_region 2 with fail
  obtain ⟨w2, hw2⟩ : ∃ w2, (w1.setCell ⟨p.Y, 13, none⟩ (.bool false)).setCell ⟨p.Y, 11, none⟩ (.bool false) = w2 := ⟨_, rfl⟩
  rw [hw2] at h2 ⊢
  clear hw2 x1 f1 z1
  have h3 : Hid (At p z w2 (intP c M)) := h2.out
  have x3 : ∀ i, w2.cell? ⟨p.Y, i, none⟩ = (proA { c with halt := false, iff := false } p.B p.n p.I p.V)[i]? := h3.out.cell
  clear h2
  go_wp2_with fail
  refine (hpu.out _ h3.out).mono ?_
  rintro e w4 ⟨rfl, h4⟩
  have x4 := h4.cell
  have f4 := h4.frozen
  have z4 := h4.lt
  have h5 := hid (h4.put 10 (.int .i64 56) { ((intP c M).push c.pc).c with pc := 56 } rfl)
  clear h4 h3 x3 hpu
  go_wp2
  exact bodyPost_end (v := .tuple #[]) (by simp [results, Try.results29]) rfl ⟨rfl, h5.out⟩
end Go.Proofs.Ytiidkhfigifmjaa
