/- A list of code: what it says, as plain texts. -/
import Derived.Test.YtneagomkohoceaaDoorC11
import Derived.Test.YtneagomkohoceaaDoorIhc
import Derived.Test.YtneagomkohoceaaDoorIbc
import Derived.Test.YtneagomkohoceaaDoorKjc
import Derived.Test.YtneagomkohoceaaDoorIcc
import Derived.Deep.QuietTactic
import Derived.BigQuiet
namespace Go.Proofs.YtneagomkohoceaaDoor
open Go.ChangeShapes Go.WideShapes Go.ChangeAt Go.RowKit
set_option linter.unusedVariables false
set_option linter.unusedSimpArgs false

def insB (x y : Int) : ByteArray := textB (decO x).toNat (decA x).toNat (decB x y).toNat (decN x y).toNat
def lcW (zs : List Int) (i : Nat) : ByteArray := hxB (i : Int) ++ ⟨#[32]⟩ ++ insB (zs.getD i 0) (zs.getD (i + 1) 0)
def lcS (zs : List Int) : Nat → Nat × List ByteArray
  | 0 => (0, [])
  | k + 1 => if (lcS zs k).1 < zs.length then ((lcS zs k).1 + (decL (zs.getD (lcS zs k).1 0)).toNat, (lcS zs k).2 ++ [lcW zs (lcS zs k).1]) else lcS zs k
def lc2 (zs : List Int) : List ByteArray × Int := if 4096 < zs.length then ([], 2) else if 256 < zs.length then ([], 8) else if zs.all (fun z => inB z 0 255) = true then ((lcS zs zs.length).2, 0) else ([], 4)
theorem decL_pos (x : Int) : 1 ≤ decL x ∧ decL x ≤ 2 := by
  unfold decL
  split
  · omega
  · unfold bitI
    split <;> omega
theorem lcS_done {zs : List Int} {k : Nat} (h : zs.length ≤ (lcS zs k).1) : ∀ m, lcS zs (k + m) = lcS zs k
  | 0 => rfl
  | m + 1 => by
    have ih := lcS_done h m
    show (if (lcS zs (k + m)).1 < zs.length then _ else lcS zs (k + m)) = _
    rw [ih, if_neg (by omega)]
theorem lcS_ge (zs : List Int) : ∀ k, k ≤ (lcS zs k).1 ∨ zs.length ≤ (lcS zs k).1
  | 0 => .inl (Nat.le_refl 0)
  | k + 1 => by
    have ih := lcS_ge zs k
    have hp := decL_pos (zs.getD (lcS zs k).1 0)
    show k + 1 ≤ (if (lcS zs k).1 < zs.length then _ else lcS zs k).1 ∨ _ ≤ (if (lcS zs k).1 < zs.length then _ else lcS zs k).1
    by_cases h : (lcS zs k).1 < zs.length
    · rw [if_pos h]
      dsimp only
      omega
    · rw [if_neg h]
      omega
theorem lcS_fin {zs : List Int} {k : Nat} (h : zs.length ≤ (lcS zs k).1) : lcS zs k = lcS zs zs.length := by
  rcases Nat.le_total k zs.length with hk | hk
  · have := lcS_done h (zs.length - k)
    rw [show k + (zs.length - k) = zs.length from by omega] at this
    exact this.symm
  · have h2 : zs.length ≤ (lcS zs zs.length).1 := by
      rcases lcS_ge zs zs.length with h | h <;> exact h
    have := lcS_done h2 (k - zs.length)
    rwa [show zs.length + (k - zs.length) = k from by omega] at this
theorem lcS_succ {zs : List Int} {k : Nat} (h : (lcS zs k).1 < zs.length) : lcS zs (k + 1) = ((lcS zs k).1 + (decL (zs.getD (lcS zs k).1 0)).toNat, (lcS zs k).2 ++ [lcW zs (lcS zs k).1]) := by
  show (if _ then _ else _) = _
  rw [if_pos h]
theorem lcS_bd (zs : List Int) : ∀ k, (lcS zs k).1 ≤ zs.length + 1 ∧ (lcS zs k).2.length ≤ (lcS zs k).1
  | 0 => ⟨Nat.zero_le _, Nat.le_refl 0⟩
  | k + 1 => by
    have ih := lcS_bd zs k
    have hp := decL_pos (zs.getD (lcS zs k).1 0)
    by_cases h : (lcS zs k).1 < zs.length
    · rw [lcS_succ h]
      dsimp only
      rw [List.length_append]
      simp only [List.length_cons, List.length_nil]
      omega
    · have e : lcS zs (k + 1) = lcS zs k := by
        show (if _ then _ else _) = _
        rw [if_neg h]
      rw [e]
      exact ih
theorem dec_ok {x y : Int} (h0 : 0 ≤ x) (h1 : x ≤ 255) (h2 : 0 ≤ y) (h3 : y ≤ 255) : okI (decO x) (decA x) (decB x y) (decN x y) (decL x) = true := by
  unfold okI decO decA decB decN decL
  by_cases h : 23 ≤ x / 8
  · simp only [if_pos h]
    simp [inB]
    omega
  · simp only [if_neg h]
    rw [if_neg (by omega : ¬ x / 8 = 23)]
    generalize hasC (x / 8).toNat 65 = p
    generalize hasC (x / 8).toNat 66 = q
    generalize hasC (x / 8).toNat 78 = r
    cases p <;> cases q <;> cases r <;> simp [inB, bitI] <;> omega
theorem dec_facts {x y : Int} (h0 : 0 ≤ x) (h1 : x ≤ 255) (h2 : 0 ≤ y) (h3 : y ≤ 255) : okI (decO x) (decA x) (decB x y) (decN x y) (decL x) = true ∧ ∃ K A B N : Nat, K < 24 ∧ A < 8 ∧ B < 8 ∧ N < 256 ∧ decO x = K ∧ decA x = A ∧ decB x y = B ∧ decN x y = N ∧ insB x y = textB K A B N := by
  have b1 : 0 ≤ decO x ∧ decO x < 24 := by unfold decO; split <;> omega
  have b2 : 0 ≤ decA x ∧ decA x < 8 := by unfold decA; split; omega; split <;> omega
  have b3 : 0 ≤ decB x y ∧ decB x y < 8 := by unfold decB; split; omega; split <;> omega
  have b4 : 0 ≤ decN x y ∧ decN x y < 256 := by unfold decN; split; omega; split <;> omega
  exact ⟨dec_ok h0 h1 h2 h3, (decO x).toNat, (decA x).toNat, (decB x y).toNat, (decN x y).toNat, by omega, by omega, by omega, by omega, by omega, by omega, by omega, by omega, rfl⟩
theorem insB_size {x y : Int} (h0 : 0 ≤ x) (h1 : x ≤ 255) (h2 : 0 ≤ y) (h3 : y ≤ 255) : (insB x y).size ≤ 100 := by
  obtain ⟨_, K, A, B, N, k, a, b, n, _, _, _, _, e⟩ := dec_facts h0 h1 h2 h3
  rw [e]
  exact textB_size K A B N k (by omega) (by omega) n
theorem all_getD {zs : List Int} (h : zs.all (fun z => inB z 0 255) = true) (i : Nat) : 0 ≤ zs.getD i 0 ∧ zs.getD i 0 ≤ 255 := by
  rcases Nat.lt_or_ge i zs.length with hi | hi
  · rw [List.getD_eq_getElem?_getD, List.getElem?_eq_getElem hi]
    have := List.all_eq_true.1 h _ (List.getElem_mem hi)
    unfold inB at this
    simpa using this
  · rw [List.getD_eq_getElem?_getD, List.getElem?_eq_none hi]
    exact ⟨by decide, by decide⟩
end Go.Proofs.YtneagomkohoceaaDoor

/- How often the specification says that an instruction reaches what h points to. -/
namespace Go.Proofs.YtneagomkohoceaaDoor
open Go.ChangeShapes Go.WideShapes Go.ChangeAt Go.RowKit
set_option linter.unusedVariables false
set_option linter.unusedSimpArgs false

def reachI (o a b : Int) : Int :=
  if o = 1 then bitI (a == 6) + bitI (b == 6) else if o = 2 then bitI (a == 6) else if o = 5 ∨ o = 10 then bitI (b == 6) else if o = 7 ∨ o = 8 then 2 * bitI (a == 6) else if o = 9 then 2 * bitI (b == 6)
  else if o = 3 ∨ o = 4 ∨ o = 15 ∨ o = 16 then 1 else if o = 22 then 2 else 0
theorem reachI_bd (o a b : Int) : 0 ≤ reachI o a b ∧ reachI o a b ≤ 2 := by
  have h1 := bitI_bd (a == 6)
  have h2 := bitI_bd (b == 6)
  unfold reachI
  repeat' split
  all_goals omega
theorem bitEq {b : Bool} {i : Int} (h : bitI b = i) (w : World) : Calls Tryd.prog 49 #[.bool b] w fun e w' => e = .returned (.int .i64 i) ∧ w' = w := by
  rw [← h]
  exact bitI_spec b w
set_option maxRecDepth 100000 in
set_option maxHeartbeats 1000000 in
theorem reach_spec (o a b n l : Int) (w : World) (h0 : 0 ≤ o) (h1 : o ≤ 23) :
    Calls Tryd.prog 48 #[insV o a b n l] w fun e w' => e = .returned (.int .i64 (reachI o a b)) ∧ Below w.heap.size w w' := by
  have hB : Hid (∀ ob, Below w.heap.size w (w.alloc ob)) := fun ob => (Below.refl _ _).alloc (Nat.le_refl _) _
  have hBd : Hid (∀ ob n, Below w.heap.size w ((w.alloc ob).drewN n)) := fun ob n => (hB.out ob).trans (belD _ _ _)
  obtain ⟨pa, hpa⟩ : ∃ x, (a == 6) = x := ⟨_, rfl⟩
  obtain ⟨pb, hpb⟩ : ∃ x, (b == 6) = x := ⟨_, rfl⟩
  obtain ⟨ia, hia⟩ : ∃ x, bitI pa = x := ⟨_, rfl⟩
  obtain ⟨ib, hib⟩ : ∃ x, bitI pb = x := ⟨_, rfl⟩
  have ba : 0 ≤ ia ∧ ia ≤ 1 := by rw [← hia]; exact bitI_bd _
  have bb : 0 ≤ ib ∧ ib ≤ 1 := by rw [← hib]; exact bitI_bd _
  have e : ∀ o, reachI o a b = (if o = 1 then ia + ib else if o = 2 then ia else if o = 5 ∨ o = 10 then ib else if o = 7 ∨ o = 8 then 2 * ia else if o = 9 then 2 * ib else if o = 3 ∨ o = 4 ∨ o = 15 ∨ o = 16 then 1 else if o = 22 then 2 else 0) := fun o => by unfold reachI; rw [hpa, hpb, hia, hib]
  rw [e]
  clear e
  replace hia := hid hia
  replace hib := hid hib
  by_cases ho : o = 1
  · subst ho
    rw [if_pos rfl]
    go_enter Tryd.func48, Tryd.ntmps48
    go_wp2
    go_quiet (first | (go_at_call 49; exact Calls.quiet_of_same (bitEq hia.out _)) | (go_at_call 49; exact Calls.quiet_of_same (bitEq hib.out _)))
    go_wp2
    go_ret
    exact ⟨rfl, hBd.out _ _⟩
  have h24 : o = 0 ∨ o = 2 ∨ o = 3 ∨ o = 4 ∨ o = 5 ∨ o = 6 ∨ o = 7 ∨ o = 8 ∨ o = 9 ∨ o = 10 ∨ o = 11 ∨ o = 12 ∨ o = 13 ∨ o = 14 ∨ o = 15 ∨ o = 16 ∨ o = 17 ∨ o = 18 ∨ o = 19 ∨ o = 20 ∨ o = 21 ∨ o = 22 ∨ o = 23 := by omega
  clear ho h0 h1
  rcases h24 with rfl | rfl | rfl | rfl | rfl | rfl | rfl | rfl | rfl | rfl | rfl | rfl | rfl | rfl | rfl | rfl | rfl | rfl | rfl | rfl | rfl | rfl | rfl
  all_goals
    go_enter Tryd.func48, Tryd.ntmps48
    go_wp2_with (go_at_call 49; refine (bitI_spec _ _).mono ?_; rintro e w' ⟨rfl, rfl⟩; (first | rw [hia.out] | rw [hib.out]))
    go_ret
    exact ⟨rfl, hB.out _⟩
end Go.Proofs.YtneagomkohoceaaDoor
