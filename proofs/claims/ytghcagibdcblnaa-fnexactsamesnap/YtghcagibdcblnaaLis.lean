/- A run: whether it is packed, and how it is told. -/
import Derived.Test.YtghcagibdcblnaaLhs
import Derived.Deep.QuietTactic
import Derived.BigQuiet
namespace Go.Proofs.Ytghcagibdcblnaa
open Go.ChangeShapes Go.WideShapes Go.ChangeAt Go.RowKit
set_option linter.unusedVariables false
set_option linter.unusedSimpArgs false

abbrev rnA (b : Int) (n : Nat) : Array Value := #[.int .u8 b, .int .i64 (n : Int)]
abbrev rnV (b : Int) (n : Nat) : Value := .agg (rnA b n)
def pkB (b : Int) (n : Nat) : Bool := if b = 237 then decide (2 ≤ n) else decide (5 ≤ n)
def pkL (b : Int) (n : Nat) : List Int := if pkB b n = true then [237, 237, (n : Int), b] else List.replicate n b
/-- a row of bytes that was made since, to be read -/
structure RdB (w W : World) (g : Nat) (L : List Int) : Prop where
  bel : Below w.heap.size w W
  far : w.heap.size ≤ g
  holds : ∀ (j : Nat) (x : Int), L[j]? = some x → W.cell? ⟨g, j, none⟩ = some (.int .u8 x)
theorem Rp.rd {w w1 W : World} {g n : Nat} {b : Int} (h : Rp w1 W g n n b) (hb : Below w.heap.size w w1) : RdB w W g (List.replicate n b) :=
  ⟨hb.trans (h.bel.mono hb.size), Nat.le_trans hb.size h.far, fun j x hx => by
    rw [List.getElem?_replicate] at hx
    split at hx
    · obtain rfl := Option.some.inj hx
      exact h.holds j (by omega)
    · cases hx⟩
set_option maxRecDepth 100000 in
theorem ispacked_impl (b : Int) (n : Nat) (w : World) : Calls Try.prog 70 #[rnV b n] w fun e w' => e = .returned (.bool (pkB b n)) ∧ Below w.heap.size w w' := by
  unfold pkB
  by_cases hb : b = 237
  · subst hb
    rw [if_pos rfl]
    have hd : decide ((2 : Int) ≤ (n : Int)) = decide (2 ≤ n) := by
      by_cases h : 2 ≤ n
      · rw [decide_eq_true h, decide_eq_true (by omega)]
      · rw [decide_eq_false h, decide_eq_false (by omega)]
    generalize decide (2 ≤ n) = B at *
    go_enter Try.func70, Try.ntmps70
    go_wp2
    go_ret
    exact ⟨rfl, (Below.refl _ _).alloc (Nat.le_refl _) _⟩
  · rw [if_neg hb]
    have hb2 : (b == 237) = false := by rw [beq_eq_false_iff_ne]; exact hb
    have hd : decide ((5 : Int) ≤ (n : Int)) = decide (5 ≤ n) := by
      by_cases h : 5 ≤ n
      · rw [decide_eq_true h, decide_eq_true (by omega)]
      · rw [decide_eq_false h, decide_eq_false (by omega)]
    generalize decide (5 ≤ n) = B at *
    clear hb
    go_enter Try.func70, Try.ntmps70
    go_wp2
    go_ret
    exact ⟨rfl, (Below.refl _ _).alloc (Nat.le_refl _) _⟩
def lnB (b : Int) (n : Nat) : Bool := decide (b = 237 ∧ n = 1)
set_option maxRecDepth 100000 in
theorem islone_impl (b : Int) (n : Nat) (w : World) : Calls Try.prog 69 #[rnV b n] w fun e w' => e = .returned (.bool (lnB b n)) ∧ Below w.heap.size w w' := by
  unfold lnB
  by_cases hb : b = 237
  · subst hb
    by_cases hn : n = 1
    · subst hn
      rw [decide_eq_true ⟨rfl, rfl⟩]
      go_enter Try.func69, Try.ntmps69
      go_wp2
      go_ret
      exact ⟨rfl, (Below.refl _ _).alloc (Nat.le_refl _) _⟩
    · rw [decide_eq_false (fun h => hn h.2)]
      have hn2 : ((n : Int) == 1) = false := by rw [beq_eq_false_iff_ne]; omega
      clear hn
      go_enter Try.func69, Try.ntmps69
      go_wp2
      go_ret
      exact ⟨rfl, (Below.refl _ _).alloc (Nat.le_refl _) _⟩
  · rw [decide_eq_false (fun h => hb h.1)]
    have hb2 : (b == 237) = false := by rw [beq_eq_false_iff_ne]; exact hb
    clear hb
    go_enter Try.func69, Try.ntmps69
    go_wp2
    go_ret
    exact ⟨rfl, (Below.refl _ _).alloc (Nat.le_refl _) _⟩
set_option maxRecDepth 100000 in
theorem unpacked_impl (b : Int) (n : Nat) (w : World) (hn : n ≤ 255) : Calls Try.prog 71 #[rnV b n] w fun e w' => ∃ g, e = .returned (.slice (some ⟨g, 0, none⟩) n n) ∧ RdB w w' g (List.replicate n b) := by
  have hb1 : Below w.heap.size w (w.alloc (.cells (rnA b n) 102)) := (Below.refl _ _).alloc (Nat.le_refl _) _
  have hR := hid (repeat_impl (w.heap.size + 1) b n ((w.alloc (.cells (rnA b n) 102)).alloc (.cells #[.int .u8 b] 5)) (by
    have := Blk.new (w.alloc (.cells (rnA b n) 102)) #[.int .u8 b] 5
    rwa [World.size_alloc] at this) hn)
  have hb2 := hid (hb1.alloc hb1.size (.cells #[.int .u8 b] 5))
  clear hb1
  go_enter Try.func71, Try.ntmps71
  go_wp2_with fail
  refine hR.out.mono ?_
  rintro e w1 ⟨g, rfl, h⟩
  replace h := hid h
  go_wp2
  refine bodyPost_ret (v := .slice (some ⟨g, 0, none⟩) n n) (by simp [results, Try.results71]) rfl ⟨g, rfl, h.out.rd hb2.out⟩
set_option maxRecDepth 100000 in
theorem packed_impl (b : Int) (n : Nat) (w : World) (hn : n ≤ 255) : Calls Try.prog 66 #[rnV b n] w fun e w' => ∃ g m, e = .returned (.slice (some ⟨g, 0, none⟩) m m) ∧ (pkL b n).length = m ∧ RdB w w' g (pkL b n) := by
  have hP := hid (fun W => ispacked_impl b n W)
  have hU := hid (fun W => unpacked_impl b n W hn)
  have hb1 : Below w.heap.size w (w.alloc (.cells (rnA b n) 102)) := (Below.refl _ _).alloc (Nat.le_refl _) _
  have q1 := Blk.new w (rnA b n) 102
  unfold pkL
  cases hp : pkB b n
  · rw [hp] at hP
    rw [if_neg (by simp)]
    go_enter Try.func66, Try.ntmps66
    go_wp2_with fail
    refine (hP.out _).mono ?_
    rintro e w1 ⟨rfl, hb⟩
    have q2 := q1.below hb q1.lt
    have x0 := q2.cell
    have l0 := q2.lt
    have hb2 := hid (hb1.trans (hb.mono hb1.size))
    clear hb q2 q1 hb1 hP
    go_wp2_with fail
    refine (hU.out _).mono ?_
    rintro e w2 ⟨g, rfl, h⟩
    replace h := hid h
    clear x0 l0
    go_wp2
    refine bodyPost_ret (v := .slice (some ⟨g, 0, none⟩) n n) (by simp [results, Try.results66]) rfl ⟨g, n, rfl, by simp, hb2.out.trans (h.out.bel.mono hb2.out.size), Nat.le_trans hb2.out.size h.out.far, h.out.holds⟩
  · rw [hp] at hP
    rw [if_pos rfl]
    have wn : IntKind.u8.wrap (n : Int) = (n : Int) := by rw [IntKind.wrap_u8]; omega
    go_enter Try.func66, Try.ntmps66
    go_wp2_with fail
    refine (hP.out _).mono ?_
    rintro e w1 ⟨rfl, hb⟩
    have q2 := q1.below hb q1.lt
    have x0 := q2.cell
    have l0 := q2.lt
    have hb2 := hid (hb1.trans (hb.mono hb1.size))
    clear hb q2 q1 hb1 hP hU
    go_wp2
    refine bodyPost_ret (v := .slice (some ⟨w1.heap.size, 0, none⟩) 4 4) (by simp [results, Try.results66]) rfl ⟨w1.heap.size, 4, rfl, rfl, hb2.out.alloc hb2.out.size _, hb2.out.size, fun j x hx => ?_⟩
    have q := (Blk.new w1 #[.int .u8 237, .int .u8 237, .int .u8 (n : Int), .int .u8 b] 5).cell j
    have e : (#[Value.int .u8 237, .int .u8 237, .int .u8 (n : Int), .int .u8 b] : Array Value)[j]? = ([237, 237, (n : Int), b] : List Int)[j]?.map (Value.int .u8) := by
      match j with
      | 0 => rfl
      | 1 => rfl
      | 2 => rfl
      | 3 => rfl
      | j + 4 => rfl
    rw [e, hx] at q
    exact q
end Go.Proofs.Ytghcagibdcblnaa
