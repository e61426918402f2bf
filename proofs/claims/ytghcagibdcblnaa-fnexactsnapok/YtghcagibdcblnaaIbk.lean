/- What the specification decodes. -/
import Derived.Test.YtghcagibdcblnaaK24
import Derived.Test.YtghcagibdcblnaaMfk
namespace Go.Proofs.Ytghcagibdcblnaa
open Go.ChangeShapes Go.WideShapes Go.ChangeAt Go.RowKit
set_option linter.unusedVariables false
set_option linter.unusedSimpArgs false

/-- the numbers of the instruction that two bytes are -/
def decO (x : Int) : Int := if 23 ≤ x / 8 then 23 else x / 8
def decA (x : Int) : Int := if 23 ≤ x / 8 then 0 else if hasC (x / 8).toNat 65 = true then x % 8 else 0
def decB (x y : Int) : Int := if 23 ≤ x / 8 then 0 else if hasC (x / 8).toNat 66 = true then y % 8 else 0
def decN (x y : Int) : Int := if 23 ≤ x / 8 then x else if hasC (x / 8).toNat 78 = true then y else 0
def decL (x : Int) : Int := if 23 ≤ x / 8 then 1 else 1 + bitI (hasC (x / 8).toNat 66 || hasC (x / 8).toNat 78)
abbrev dcdV (x y : Int) : Value := insV (decO x) (decA x) (decB x y) (decN x y) (decL x)
/-- while an instruction is being decoded -/
structure DSt (w W : World) (C : Array Value) : Prop where
  q0 : Blk W w.heap.size #[.int .i64 0, .int .i64 0, .int .i64 0, .int .i64 0, .int .i64 0]
  q1 : Blk W (w.heap.size + 1) C
  bel : Below w.heap.size w W
theorem two_newI {w w1 : World} {A0 A1 : Array Value} {t t1 : TypeId} (hb : Below ((w.alloc (.cells A0 t)).alloc (.cells A1 t1)).heap.size ((w.alloc (.cells A0 t)).alloc (.cells A1 t1)) w1) :
    Blk w1 w.heap.size A0 ∧ Blk w1 (w.heap.size + 1) A1 ∧ Below w.heap.size w w1 := by
  have hs : ((w.alloc (.cells A0 t)).alloc (.cells A1 t1)).heap.size = w.heap.size + 1 + 1 := by simp
  have q1 := Blk.new (w.alloc (.cells A0 t)) A1 t1
  simp only [World.size_alloc] at q1
  refine ⟨((Blk.new w A0 t).alloc _).below hb (by omega), q1.below hb (by omega), ?_⟩
  exact (((Below.refl _ _).alloc (Nat.le_refl _) _).alloc (by simp) _).trans (hb.mono (by omega))
theorem DSt.start {w w1 : World} {C : Array Value} {t t1 : TypeId} (hb : Below ((w.alloc (.cells #[.int .i64 0, .int .i64 0, .int .i64 0, .int .i64 0, .int .i64 0] t)).alloc (.cells C t1)).heap.size ((w.alloc (.cells #[.int .i64 0, .int .i64 0, .int .i64 0, .int .i64 0, .int .i64 0] t)).alloc (.cells C t1)) w1) : DSt w w1 C :=
  ⟨(two_newI hb).1, (two_newI hb).2.1, (two_newI hb).2.2⟩
theorem DSt.below {w W W' : World} {C : Array Value} (h : DSt w W C) (hb : Below W.heap.size W W') : DSt w W' C :=
  ⟨h.q0.below hb h.q0.lt, h.q1.below hb h.q1.lt, h.bel.trans (hb.mono h.bel.size)⟩
theorem DSt.set {w W : World} {C : Array Value} (h : DSt w W C) (i : Nat) (u : Value) : DSt w (W.setCell ⟨w.heap.size + 1, i, none⟩ u) (C.setIfInBounds i u) :=
  ⟨h.q0.other (by simp) _, h.q1.set i u, h.bel.setCell (p := ⟨w.heap.size + 1, i, none⟩) (by simp) _⟩
/-- the code that a list gets that is to be decoded -/
def decC (zs : List Int) : Int := if 4096 < zs.length then 2 else if zs.length = 2 then (if bytesB zs 2 = true then 0 else 4) else 8
def dec2 (zs : List Int) : Value := if decC zs = 0 then .tuple #[dcdV (zs.getD 0 0) (zs.getD 1 0), .int .i64 0] else .tuple #[insV 0 0 0 0 0, .int .i64 (decC zs)]
end Go.Proofs.Ytghcagibdcblnaa
