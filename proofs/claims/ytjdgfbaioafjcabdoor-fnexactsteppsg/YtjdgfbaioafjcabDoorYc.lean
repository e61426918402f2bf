/- A new sound chip, its registers chosen, written and read: the specification. -/
import Derived.Test.YtjdgfbaioafjcabDoorYb
import Derived.Deep.MidRow
namespace Go.Proofs.YtjdgfbaioafjcabDoor
open Go.ChangeShapes Go.WideShapes Go.ChangeAt Go.RowKit
set_option linter.unusedVariables false
set_option linter.unusedSimpArgs false

abbrev ansS (r : Sg × Int) : Value := .tuple #[sgV r.1, .int .i64 r.2]
abbrev neS : Sg := { zeS with r3 := 15, shift := 1 }
theorem byteS {k : Int} (h : inB k 0 255 = true) : ∃ n : Nat, k = n ∧ n < 256 := by
  simp [inB] at h
  exact ⟨k.toNat, by omega, by omega⟩
def sel2 (p : Sg) (v : Int) : Sg × Int := if okS p = true then (if inB v 0 255 = true then ({ p with sel := ((Nat.land v.toNat 7 : Nat) : Int) }, 0) else (zeS, 4)) else (zeS, 1)
/-- a register is written -/
def Sg.write (p : Sg) (v : Nat) : Sg := if p.sel.toNat = 7 then { p.put (Nat.land v (maskN p.sel.toNat) : Nat) p.sel.toNat with env := 0, ec := 0 } else p.put (Nat.land v (maskN p.sel.toNat) : Nat) p.sel.toNat
def write2 (p : Sg) (v : Int) : Sg × Int := if okS p = true then (if inB v 0 255 = true then (p.write v.toNat, 0) else (zeS, 4)) else (zeS, 1)
def readS2 (p : Sg) : Int × Int := if okS p = true then (p.reg p.sel.toNat, 0) else (0, 1)
/-- a chip in a block, and room for an answer behind it -/
structure P2s (w W : World) (A : Array Value) : Prop where
  q0 : Blk W w.heap.size A
  q1 : Blk W (w.heap.size + 1) (sgA zeS)
  bel : Below w.heap.size w W
theorem P2s.start (w : World) (c : Sg) (t t1 : TypeId) : P2s w ((w.alloc (.cells (sgA c) t)).alloc (.cells (sgA zeS) t1)) (sgA c) := by
  obtain ⟨q0, q1, hB⟩ := two_in (w := w) (sgA c) (sgA zeS) t t1
  exact ⟨q0, q1, hB⟩
theorem P2s.below {w W W' : World} {A : Array Value} (h : P2s w W A) (hb : Below W.heap.size W W') : P2s w W' A :=
  ⟨h.q0.below hb h.q0.lt, h.q1.below hb h.q1.lt, h.bel.trans (hb.mono h.bel.size)⟩
theorem P2s.drew {w W : World} {A : Array Value} (h : P2s w W A) : P2s w W.drew A := h.below ⟨rfl, rfl, rfl, Nat.le_refl _, fun _ _ => rfl⟩
theorem P2s.set {w W : World} {A : Array Value} (h : P2s w W A) (i : Nat) (u : Value) : P2s w (W.setCell ⟨w.heap.size, i, none⟩ u) (A.setIfInBounds i u) :=
  ⟨h.q0.set i u, h.q1.other (by simp) u, h.bel.setCell (p := ⟨w.heap.size, i, none⟩) (Nat.le_refl _) u⟩
theorem sgA_sel (p : Sg) (v : Int) : (sgA p).setIfInBounds 8 (.int .i64 v) = sgA { p with sel := v } := by
  simp only [List.setIfInBounds_toArray, List.set_cons_zero, List.set_cons_succ]
theorem sgA_env (p : Sg) : ((sgA p).setIfInBounds 15 (.int .i64 0)).setIfInBounds 16 (.int .i64 0) = sgA { p with env := 0, ec := 0 } := by
  simp only [List.setIfInBounds_toArray, List.set_cons_zero, List.set_cons_succ]
theorem okS_sel {p : Sg} (h : okS p = true) : ∃ s : Nat, p.sel = s ∧ s < 8 := by
  have := ((okS_iff p).1 h).2.1
  exact ⟨p.sel.toNat, by omega, by omega⟩
/-- a chip that lies in a block of its own: read and written whole -/
theorem sg_range {W : World} {b : Nat} {c : Sg} (h : Blk W b (sgA c)) : W.rangeAt b 0 (sgA c).toList := fun j v hv => by
  rw [Nat.zero_add, h.cell j, ← Array.getElem?_toList]
  exact hv
theorem sg_there {W : World} {b : Nat} {z : Sg} (h : Blk W b (sgA z)) (c : Sg) : W.there b 0 (sgA c).size := fun j hj => by
  rw [Nat.zero_add]
  refine ⟨?_, h.frozen j⟩
  rw [h.cell j]
  have : j < (sgA z).size := hj
  rw [Array.getElem?_eq_getElem this]
  rfl
def layB : Nat → List Value → Array Value → Array Value
  | _, [], A => A
  | i, u :: t, A => layB (i + 1) t (A.setIfInBounds i u)
theorem lay_blk (b : Nat) (l : List Value) : ∀ (W : World) (i : Nat) (A : Array Value), Blk W b A → Blk (W.setCells b i l) b (layB i l A) := by
  induction l with
  | nil => exact fun _ _ _ h => h
  | cons u t ih => exact fun W i A h => ih _ _ _ (h.set i u)
theorem lay_below {lo b : Nat} {w : World} (vs : List Value) : ∀ (o : Nat) (W : World), lo ≤ b → Below lo w W → Below lo w (W.setCells b o vs) := by
  induction vs with
  | nil => exact fun o W _ h => h
  | cons u t ih => exact fun o W hb h => ih _ _ hb (h.setCell (p := ⟨b, o, none⟩) hb u)
theorem sg_laid {W : World} {b : Nat} {z : Sg} (h : Blk W b (sgA z)) (c : Sg) : Blk (W.setCells b 0 (sgA c).toList) b (sgA c) := by
  have q := lay_blk b (sgA c).toList W 0 (sgA z) h
  have e : layB 0 (sgA c).toList (sgA z) = sgA c := by
    simp only [layB, List.setIfInBounds_toArray, List.set_cons_zero, List.set_cons_succ, Nat.zero_add, Nat.reduceAdd]
  rw [e] at q
  exact q
theorem sg_one (c : Sg) : (sgA c).all (·.oneCell') = true := by simp [Value.oneCell']
theorem sg_size (c : Sg) : (Tryd.prog.info? 27).map (·.size) = some (sgA c).size := by
  show (Tryd.prog.info? 27).map (·.size) = some 17
  kernel_rfl
end Go.Proofs.YtjdgfbaioafjcabDoor
