/- The laws' choice 'at' out of the bytes that came in: it is a number of these bytes alone, in its bounds; beside the source. -/
import Derived.Test.YtakdhmlegickmaaDoorSrcw
import Derived.Deep.DrawnRows
import Derived.OpenShut
import Derived.Test.YtakdhmlegickmaaDoorBasew
namespace Go.Proofs.YtakdhmlegickmaaDoor
open Go.ChangeShapes Go.WideShapes Go.ChangeAt Go.RowKit
set_option linter.unusedVariables false

/-- the i-th byte of a slice that came in -/
def atB (w : World) (a : Option Addr) (i : Nat) : Int :=
  match a with
  | some x => (match w.cell? ⟨x.block, x.off + i, none⟩ with
    | some (.int _ c) => c
    | _ => 0)
  | none => 0
/-- what 'at' chooses -/
def atV (w : World) (a : Option Addr) (len i : Nat) (n : Int) : Int :=
  if n ≤ 1 then 0 else if len = 0 then (i : Int) * 7 % n else (atB w a (i % len) * 31 + atB w a ((i + 1) % len) + ((i / len : Nat) : Int)) % n
theorem atV_below {w w' : World} {B : Nat} {a : Option Addr} {len : Nat} (h : CodeAt w B a len) (hb : Below B w w') (i : Nat) (n : Int) : atV w' a len i n = atV w a len i n := by
  unfold atV
  split
  · rfl
  · split
    · rfl
    · rename_i h1 h0
      rcases h with h | ⟨b, off, rfl, hb1, hc⟩
      · omega
      · have k : ∀ j, atB w' (some ⟨b, off, none⟩) j = atB w (some ⟨b, off, none⟩) j := by
          intro j
          unfold atB
          simp only
          rw [hb.cell (p := ⟨b, off + j, none⟩) hb1]
        rw [k, k]
theorem atV_bd {w : World} {a : Option Addr} {len i : Nat} {n : Int} (h : 2 ≤ n) : 0 ≤ atV w a len i n ∧ atV w a len i n < n := by
  unfold atV
  rw [if_neg (by omega)]
  split
  · exact ⟨Int.emod_nonneg _ (by omega), Int.emod_lt_of_pos _ (by omega)⟩
  · exact ⟨Int.emod_nonneg _ (by omega), Int.emod_lt_of_pos _ (by omega)⟩

set_option maxRecDepth 100000 in
theorem at_val (a : Option Addr) (len cap : Nat) (i : Nat) (n : Int) (B : Nat) (w : World) (hc : CodeAt w B a len) (hl : len ≤ 1048576) (hi : i ≤ 1000000) (hn : n ≤ 1000000000) :
    Calls Tryd.prog 11 #[.slice a len cap, .int .i64 i, .int .i64 n] w fun e w' => e = .returned (.int .i64 (atV w a len i n)) ∧ Below B w w' := by
  by_cases h1 : n ≤ 1
  · have e : atV w a len i n = 0 := by unfold atV; rw [if_pos h1]
    rw [e]
    go_enter Tryd.func11, Tryd.ntmps11
    go_wp2
    go_ret
    exact ⟨rfl, Below.refl _ _⟩
  · by_cases h0 : len = 0
    · have e : atV w a len i n = (i : Int) * 7 % n := by unfold atV; rw [if_neg h1, if_pos h0]
      rw [e]
      subst h0
      clear e
      go_enter Tryd.func11, Tryd.ntmps11
      go_wp2
      go_ret
      exact ⟨rfl, Below.refl _ _⟩
    · rcases hc with h | ⟨b, off, rfl, hb, hc⟩
      · omega
      have hlp : (0 : Int) < (len : Int) := by omega
      have hlne : ((len : Int) == 0) = false := by simp; omega
      have hq1 : (i : Int) % (len : Int) = ((i % len : Nat) : Int) := by simp
      have hq2 : ((i : Int) + 1) % (len : Int) = (((i + 1) % len : Nat) : Int) := by simp
      have hq3 : (i : Int) / (len : Int) = ((i / len : Nat) : Int) := by simp
      have hq1b : i % len < len := Nat.mod_lt _ (by omega)
      have hq2b : (i + 1) % len < len := Nat.mod_lt _ (by omega)
      have hq3b : i / len ≤ 1000000 := Nat.le_trans (Nat.div_le_self _ _) hi
      obtain ⟨c1, hc10, hc11, hc12⟩ := hc (i % len) hq1b
      obtain ⟨c2, hc20, hc21, hc22⟩ := hc ((i + 1) % len) hq2b
      have e : atV w (some ⟨b, off, none⟩) len i n = (c1 * 31 + c2 + ((i / len : Nat) : Int)) % n := by
        unfold atV
        rw [if_neg h1, if_neg h0]
        have k1 : atB w (some ⟨b, off, none⟩) (i % len) = c1 := by unfold atB; simp only; rw [hc12]
        have k2 : atB w (some ⟨b, off, none⟩) ((i + 1) % len) = c2 := by unfold atB; simp only; rw [hc22]
        rw [k1, k2]
      rw [e]
      clear e hc
      generalize i % len = q1 at *
      generalize (i + 1) % len = q2 at *
      generalize i / len = q3 at *
      go_enter Tryd.func11, Tryd.ntmps11
      go_wp2
      go_region
      go_wp2
      go_ret
      exact ⟨rfl, (Below.refl _ _).drew⟩
end Go.Proofs.YtakdhmlegickmaaDoor

/- What spec.l01In answers: whether a number lies between two others; the world stays as it was. -/
namespace Go.Proofs.YtakdhmlegickmaaDoor
open Go.ChangeShapes Go.WideShapes Go.ChangeAt Go.RowKit
set_option linter.unusedVariables false

theorem in_spec (n a b : Int) (w : World) : Calls Tryd.prog 91 #[.int .i64 n, .int .i64 a, .int .i64 b] w fun e w' => e = .returned (.bool (inB n a b)) ∧ w' = w := by
  go_enter Tryd.func91, Tryd.ntmps91
  go_wp2
  all_goals go_ret
  all_goals exact ⟨ret_bool (by rw [Bool.eq_iff_iff]; simp [inB]; try omega), rfl⟩
end Go.Proofs.YtakdhmlegickmaaDoor
