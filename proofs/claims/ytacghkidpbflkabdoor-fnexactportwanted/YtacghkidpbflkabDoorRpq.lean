/- A processor is made; what all calls on a processor and a memory ask first. -/
import Derived.Test.YtacghkidpbflkabDoorQ40
import Derived.Test.YtacghkidpbflkabDoorHiq
import Derived.Test.YtacghkidpbflkabDoorCpfq
namespace Go.Proofs.YtacghkidpbflkabDoor
open Go.ChangeShapes Go.WideShapes Go.ChangeAt Go.RowKit
set_option linter.unusedVariables false
set_option linter.unusedSimpArgs false

abbrev cqA (c : Cp) : Array Value := #[.int .i64 (c.b : Int), .int .i64 (c.c : Int), .int .i64 (c.d : Int), .int .i64 (c.e : Int), .int .i64 (c.h : Int), .int .i64 (c.l : Int), .int .i64 0, .int .i64 (c.a : Int), .int .i64 (c.f : Int), .int .i64 (c.sp : Int), .int .i64 (c.pc : Int), .bool c.iff, .bool c.ei, .bool c.halt]
theorem made_pro {w w1 : World} {lo hi B r s n : Nat} {G Q : Nat → Nat} {M : Mem} {c : Cp} (t : TypeId) (h : Brd w1 lo hi B r s G Q M) (hb : Below w.heap.size w w1) (hl : w.heap.size ≤ lo) :
    Brd (w1.alloc (.cells (proT c B n .nilFunc) t)) lo hi B r s G Q M ∧ Blk (w1.alloc (.cells (proT c B n .nilFunc) t)) w1.heap.size (proT c B n .nilFunc) ∧ ¬ brdB lo hi B Q w1.heap.size ∧ w.heap.size ≤ w1.heap.size ∧ w.heap.size ≤ lo ∧ Below w.heap.size w (w1.alloc (.cells (proT c B n .nilFunc) t)) := by
  have hhi : hi ≤ w1.heap.size := Nat.le_trans h.ord.1 (Nat.le_of_lt h.blk.lt)
  exact ⟨h.kept (fun b hh => Below.heap_alloc _ _ _ (h.lt hhi hh)), Blk.new _ _ _, fun hh => absurd (h.lt hhi hh) (Nat.lt_irrefl _), hb.size, hl, hb.alloc hb.size _⟩
set_option maxRecDepth 100000 in
set_option maxHeartbeats 2000000 in
theorem newp_impl (c : Cp) (v : Value) (M : Mem) (n : Nat) (w : World) (h : MemR w v M) (hok : okM M = true) (hf : Fit M) :
    Calls Tryd.prog 42 #[.agg (cqA c), v, .int .i64 (n : Int)] w fun e w' => ∃ lo hi B r s G Q Y, e = .returned (.pointer (some ⟨Y, 0, none⟩)) ∧ Brd w' lo hi B r s G Q M ∧ Blk w' Y (proT c B n .nilFunc) ∧ ¬ brdB lo hi B Q Y ∧ w.heap.size ≤ Y ∧ w.heap.size ≤ lo ∧ Below w.heap.size w w' := by
  obtain ⟨a1, p1, a2, p2, rfl, _, _⟩ := h.form
  have hs := hid (two_in (w := w) (cqA c) #[.slice a1 M.rom.length p1, .slice a2 M.ram.length p2, .int .i64 M.page, .int .i64 M.screen, .bool M.locked] 32 34)
  have x0 := hs.out.1.cell
  have x1 := hs.out.2.1.cell
  have hM : Hid (∀ W', Below w.heap.size w W' → MemR W' (memV (.slice a1 M.rom.length p1) (.slice a2 M.ram.length p2) M.page M.screen M.locked) M) := fun W' hb => h.below hb
  replace hf := hid hf
  clear h
  go_enter Tryd.func42, Tryd.ntmps42
  go_upto_region 1 with fail
  obtain ⟨V, hV⟩ : ∃ V, ((w.alloc (.cells (cqA c) 32)).alloc (.cells #[.slice a1 M.rom.length p1, .slice a2 M.ram.length p2, .int .i64 M.page, .int .i64 M.screen, .bool M.locked] 34)) = V := ⟨_, rfl⟩
  rw [hV] at hs x0 x1 ⊢
  clear hV
  have hq : Hid (Blk V.drew w.heap.size (cqA c)) := hs.out.1
  have hB := hid hs.out.2.2
  clear hs
  go_region_with (go_at_call 95; refine (board_impl _ M _ (hM.out _ (by first | exact hB.out | exact hB.out.drew)) hok hf.out).mono ?_; rintro e w1 ⟨hi, B, r, s, G, Q, rfl, hBr, hb1⟩; have y0 := (hq.out.below hb1 hq.out.lt).cell; have hbw : Below w.heap.size w w1 := (hB.out.drew).trans (hb1.mono hB.out.size); have hlo := hB.out.size; have hE := hid (made_pro (c := c) (n := n) 150 hBr hbw hlo); clear hb1 hbw hBr)
  all_goals (try go_wp2)
  all_goals go_ret
  all_goals exact ⟨_, hi, B, r, s, G, Q, _, rfl, hE.out⟩
end Go.Proofs.YtacghkidpbflkabDoor
