/- Blocks that are read off a text: the specification. -/
import Derived.Test.YtneagomkohoceabDoorL44
import Derived.Test.YtneagomkohoceabDoorUfl
import Derived.Deep.AppendLies
namespace Go.Proofs.YtneagomkohoceabDoor
open Go.ChangeShapes Go.WideShapes Go.ChangeAt Go.RowKit
set_option linter.unusedVariables false
set_option linter.unusedSimpArgs false

def bkL (l : List (Int × ByteArray)) : List Value := l.flatMap fun x => [.int .i64 x.1, .string x.2]
theorem bkL_snoc (l : List (Int × ByteArray)) (f : Int) (d : ByteArray) : bkL (l ++ [(f, d)]) = bkL l ++ [.int .i64 f, .string d] := by simp [bkL]
def rdL (t : ByteArray) : Nat → Int → List (Int × ByteArray) → List (Int × ByteArray) × Int
  | 0, _, acc => (acc, 0)
  | f + 1, a, acc => if a < (t.size : Int) then (if (tkB t a).2 ≠ 0 then ([], (tkB t a).2) else if acc.length = 6 then ([], 6) else rdL t f (tkB t a).1.1.2 (acc ++ [(tkB t a).1.2])) else (acc, 0)
def rd2 (t : ByteArray) : List (Int × ByteArray) × Int := if 65536 < t.size then ([], 2) else rdL t (t.size + 1) 0 []
theorem tkB_ok {t : ByteArray} {a : Int} (h : (tkB t a).2 = 0) : (tkB t a).1.1.1 = t ∧ a + 2 ≤ (tkB t a).1.1.2 ∧ (tkB t a).1.1.2 ≤ t.size ∧ 0 ≤ a := by
  have hz : (takeV t a 2).2.2 = 0 → (takeV t a 2).1.1 = t ∧ 0 ≤ a ∧ (takeV t a 2).1.2 = a + 2 := fun h => ⟨(takeV_size t a 2 h).2.1, (takeV_size t a 2 h).2.2.1, (takeV_size t a 2 h).2.2.2.2.1⟩
  unfold tkB at h ⊢
  split at h
  · cases h
  · rename_i h0
    rw [if_neg h0]
    split at h
    · rename_i h1; exact absurd h h1
    · rename_i h1
      rw [if_neg h1]
      obtain ⟨z1, z2, z3⟩ := hz (Decidable.not_not.1 h1)
      split at h
      · rename_i h2; exact absurd h h2
      · rename_i h2
        rw [if_neg h2]
        obtain ⟨n, hn, _⟩ := wordOf_nat (takeV t a 2).2.1
        have hy := takeV_size (takeV t a 2).1.1 (takeV t a 2).1.2 n
        rw [← hn] at hy
        obtain ⟨y1, y2, y3, y4, y5, _⟩ := hy (Decidable.not_not.1 h2)
        split at h
        · rename_i h3; exact absurd h h3
        · rename_i h3
          rw [if_neg h3]
          rw [z1] at y2 y4
          refine ⟨by rw [z1]; exact y2, ?_, ?_, z2⟩
          · show a + 2 ≤ (takeV (takeV t a 2).1.1 (takeV t a 2).1.2 (wordOf (takeV t a 2).2.1)).1.2
            rw [y5, z3]
            omega
          · show (takeV (takeV t a 2).1.1 (takeV t a 2).1.2 (wordOf (takeV t a 2).2.1)).1.2 ≤ _
            rw [y5]
            omega
theorem own_belowU {W W' : World} {lo n z : Nat} {e : TypeId} {v : Value} {xs : List Value} (h : W.ownsRow lo e z v n xs) (hb : Below W.heap.size W W') : W'.ownsRow lo e z v n xs :=
  h.kept (row := none) ⟨hb.os, hb.tape, hb.output, hb.size, fun k hk _ => hb.block k hk⟩ (by cases h1 : v.ownBlock; exact .inl rfl; exact .inr (by simp))
def rdM (W : World) (b n : Nat) : Nat := match W.cell? ⟨b, 1, none⟩ with
  | some (.int _ a) => ((n : Int) - a).toNat
  | _ => 0
theorem rdM_at {W : World} {b n : Nat} {t : ByteArray} {a : Int} (h : Blk W b (curA t a)) : rdM W b n = ((n : Int) - a).toNat := by
  have := h.cell 1
  unfold rdM
  rw [this]
  rfl
end Go.Proofs.YtneagomkohoceabDoor
