/- What the drawing of a memory answers. -/
import Derived.Test.YtiidkhfigifmjaaDoorMq
namespace Go.Proofs.YtiidkhfigifmjaaDoor
open Go.ChangeShapes Go.WideShapes Go.ChangeAt Go.RowKit
set_option linter.unusedVariables false
set_option linter.unusedSimpArgs false

theorem chance_any (p : Nat) (a : Option Addr) (len cap n : Nat) (m : Int) (w : World) (hs : Src w p a len cap n) (hn : n + 3 ≤ 1000000000) (hm0 : 0 ≤ m) (hm : m ≤ 1000000) :
    Calls Tryd.prog 16 #[.pointer (some ⟨p, 0, none⟩), .int .i64 m] w fun e w' => (∃ b : Bool, e = .returned (.bool b)) ∧ (∃ n', n' ≤ n + 3 ∧ Src w' p a len cap n') ∧ w.grownBy w' (some p) := by
  go_enter Tryd.func16, Tryd.ntmps16
  go_wp2_with fail
  refine (next_any _ _ _ _ _ _ _ hs hn).mono ?_
  rintro e w1 ⟨⟨v, rfl, h0, h1, h2⟩, hs1, hg1⟩
  replace hs1 := hid hs1
  clear h1 h2
  go_wp2
  go_ret
  exact ⟨⟨_, rfl⟩, hs1.out, hg1⟩
end Go.Proofs.YtiidkhfigifmjaaDoor
