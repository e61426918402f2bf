/- What the law FnTap does: two lists of blocks are held against each other. -/
import Derived.Test.YtakdhmlegickmaaDoorUfw
import Derived.Test.YtakdhmlegickmaaDoorW13
import Derived.BigRegion
import Derived.Deep.DeepCutAuto
namespace Go.Proofs.YtakdhmlegickmaaDoor
open Go.ChangeShapes Go.WideShapes Go.ChangeAt Go.RowKit
set_option linter.unusedVariables false
set_option linter.unusedSimpArgs false

set_option maxRecDepth 100000 in
set_option maxHeartbeats 2000000 in
theorem same_yes (a b : Option Addr) (cap cbp : Nat) (l : List (Int × ByteArray)) (w : World) (h : BkR w a l) (h' : BkR w b l) (hl : l.length ≤ 1048576) :
    Calls Tryd.prog 10 #[.slice a l.length cap, .slice b l.length cbp] w fun e w' => e = .returned (.bool true) ∧ Below w.heap.size w w' := by
  replace h := hid h
  replace h' := hid h'
  go_enter Tryd.func10, Tryd.ntmps10
  go_wp2
  go_loopw [5] (fun i wr => ∃ k : Nat, k ≤ l.length ∧ i = .int .i64 k ∧ Below w.heap.size w wr) (fun i _ => l.length - (intOf i).toNat)
  case atStart => exact ⟨0, by omega, rfl, Below.refl _ _⟩
  case round =>
    obtain ⟨k, hk, rfl, hW⟩ := hrel
    by_cases hlt : k < l.length
    · obtain ⟨g, o, rfl, x1, x2⟩ := (h.out.below hW).at hlt
      obtain ⟨g', o', rfl, y1, y2⟩ := (h'.out.below hW).at hlt
      generalize (l.getD k bkz).1 = F at *
      generalize (l.getD k bkz).2 = D at *
      replace hW := hid hW
      go_wp2
      go_region
      go_wp2
      go_roundw
      case rel => exact ⟨k + 1, by omega, by go_num, hW.out.drew⟩
      case measure => simp [intOf]; omega
    · obtain rfl : k = l.length := by omega
      replace hW := hid hW
      go_wp2
      go_ret
      exact ⟨rfl, hW.out⟩
theorem bXor8 (a b : Nat) (ha : a < 256) (hb : b < 256) : bits .xor .u8 (a : Int) (b : Int) = ((Nat.xor a b : Nat) : Int) := by
  have hx : Nat.xor a b < 2 ^ 8 := Nat.xor_lt_two_pow (by omega) (by omega)
  show IntKind.u8.wrap ((BitVec.ofInt 8 (a : Int) ^^^ BitVec.ofInt 8 (b : Int)).toNat : Int) = _
  rw [BitVec.toNat_xor, BitVec.toNat_ofInt, BitVec.toNat_ofInt]
  have ea : ((a : Int) % ((2 ^ 8 : Nat) : Int)).toNat = a := by omega
  have eb : ((b : Int) % ((2 ^ 8 : Nat) : Int)).toNat = b := by omega
  rw [ea, eb]
  have hx2 : (a ^^^ b) < 256 := hx
  simp [IntKind.wrap, IntKind.signed, IntKind.bits]
  show (((a ^^^ b : Nat) : Int)) % 256 = ((a ^^^ b : Nat) : Int)
  omega
end Go.Proofs.YtakdhmlegickmaaDoor
