/- What the program says of an instruction that is right. -/
import Derived.Test.YtihpbiehdojllanDoorKa
import Derived.Test.YtihpbiehdojllanDoorIb
namespace Go.Proofs.YtihpbiehdojllanDoor
open Go.ChangeShapes Go.WideShapes Go.ChangeAt Go.RowKit
set_option linter.unusedVariables false
set_option linter.unusedSimpArgs false

def okK (k : Nat) (a b n l : Int) : Bool := inB a 0 (whenM (hasM (kdN k) 1) 7) && inB b 0 (whenM (hasM (kdN k) 2) 7) && inB n (loM (kdN k)) (hiM (kdN k)) && (l == lenM (kdN k))
theorem okK_eq (k : Nat) (hk : k < 24) (a b n l : Int) : okI (k : Int) a b n l = okK k a b n l := by
  by_cases h : k = 23
  · subst h
    obtain ⟨h1, h2, h4, h8, h6⟩ := kd_23
    unfold okK lenM loM hiM whenM
    rw [h1, h2, h4, h8, h6]
    have e : okI ((23 : Nat) : Int) a b n l = (decide (a = 0) && decide (b = 0) && inB n 184 255 && decide (l = 1)) := rfl
    rw [e, Bool.eq_iff_iff]
    simp [inB]
    omega
  · obtain ⟨h1, h2, h4, h8, h6⟩ := kd_tab k (by omega)
    unfold okK lenM loM hiM whenM
    rw [h1, h2, h4, h8, h6]
    unfold okI
    rw [if_neg (by omega), in_yes (by omega) (by omega), Int.toNat_natCast]
    cases hasC k 65 <;> cases hasC k 66 <;> cases hasC k 78 <;> (rw [Bool.eq_iff_iff]; simp [inB, bitI])
end Go.Proofs.YtihpbiehdojllanDoor
