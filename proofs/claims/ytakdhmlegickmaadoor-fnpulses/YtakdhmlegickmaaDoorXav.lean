/- The parts of a block that is heard: the pilot, the sync, the pairs: the program. -/
import Derived.Test.YtakdhmlegickmaaDoorV28
import Derived.Test.YtakdhmlegickmaaDoorZbv
import Derived.BigQuiet
namespace Go.Proofs.YtakdhmlegickmaaDoor
open Go.ChangeShapes Go.WideShapes Go.ChangeAt Go.RowKit
set_option linter.unusedVariables false
set_option linter.unusedSimpArgs false

theorem pilC_in : ∀ (P : List Int) (k : Nat), k < pilC P → k < P.length ∧ 42 < P.getD k 0 ∧ P.getD k 0 < 200
  | [], k, h => by unfold pilC at h; omega
  | x :: r, k, h => by
    unfold pilC at h
    split at h
    · rename_i hx
      cases k with
      | zero => exact ⟨by simp, by simpa using hx⟩
      | succ k =>
        have := pilC_in r k (by omega)
        exact ⟨by simp; omega, by simpa using this.2⟩
    · omega
theorem pilC_at : ∀ (P : List Int), pilC P < P.length → ¬ (42 < P.getD (pilC P) 0 ∧ P.getD (pilC P) 0 < 200)
  | [], h => by simp at h
  | x :: r, h => by
    by_cases hx : 42 < x ∧ x < 200
    · have e : pilC (x :: r) = pilC r + 1 := by rw [pilC, if_pos hx]
      rw [e] at h ⊢
      have := pilC_at r (by simpa using h)
      simpa using this
    · have e : pilC (x :: r) = 0 := by rw [pilC, if_neg hx]
      rw [e]
      simpa using hx
/-- pulses from a place in a block on -/
structure RowC (W : World) (b off cap : Nat) (P : List Int) : Prop where
  c : P.length ≤ cap
  r : ∀ i, i < P.length → W.cell? ⟨b, off + i, none⟩ = some (.int .i64 (P.getD i 0))
theorem RowC.below {W W' : World} {b off cap : Nat} {P : List Int} (h : RowC W b off cap P) (hb : Below W.heap.size W W') : RowC W' b off cap P := ⟨h.c, fun i hi => cell_keptU hb (h.r i hi)⟩
theorem drop_getD (P : List Int) (n i : Nat) : (P.drop n).getD i 0 = P.getD (n + i) 0 := by
  rw [List.getD_eq_getElem?_getD, List.getElem?_drop, List.getD_eq_getElem?_getD]
theorem RowC.drop {W : World} {b off cap : Nat} {P : List Int} (h : RowC W b off cap P) (n : Nat) (hn : n ≤ P.length) : RowC W b (off + n) (cap - n) (P.drop n) := by
  have := h.c
  refine ⟨by rw [List.length_drop]; omega, fun i hi => ?_⟩
  rw [List.length_drop] at hi
  rw [drop_getD, show off + n + i = off + (n + i) by omega]
  exact h.r (n + i) (by omega)
/-- a slice from place n on -/
def SubR (W : World) (b off cap : Nat) (P : List Int) (n : Nat) (v : Value) : Prop := ∃ off', v = .slice (some ⟨b, off', none⟩) (P.drop n).length (cap - n) ∧ RowC W b off' (cap - n) (P.drop n)
theorem SubR.mk1 {W : World} {b off cap : Nat} {P : List Int} (h : RowC W b off cap P) (n : Nat) (hn : n ≤ P.length) : SubR W b off cap P n (.slice (some ⟨b, off + n, none⟩) (P.length - n) (cap - n)) := ⟨off + n, by rw [List.length_drop], h.drop n hn⟩
theorem SubR.mk0 {W : World} {b off cap : Nat} {P : List Int} (n : Nat) (hn : P.length ≤ n) (c : Nat) (hc : cap - n = c) : SubR W b off cap P n (.slice (some ⟨b, off, none⟩) (P.length - n) c) := by
  subst hc
  refine ⟨off, by rw [List.length_drop], by rw [List.length_drop]; omega, fun i hi => ?_⟩
  rw [List.length_drop] at hi
  omega
theorem SubR.below {W W' : World} {b off cap : Nat} {P : List Int} {n : Nat} {v : Value} (h : SubR W b off cap P n v) (hb : Below W.heap.size W W') : SubR W' b off cap P n v := by
  obtain ⟨o, e, h⟩ := h
  exact ⟨o, e, h.below hb⟩
def PilR (w : World) (b off cap : Nat) (P : List Int) (N : Nat) (e6 : Addr) (v1 v2 : Value) : Prop := (N < 8 ∧ v1 = .slice none 0 0 ∧ v2 = iE e6) ∨ (8 ≤ N ∧ v2 = .nilIface ∧ SubR w b off cap P N v1)
def SynB (Q : List Int) : Prop := Q.length < 2 ∨ 18 ≤ Q.getD 0 0 ∨ 18 ≤ Q.getD 1 0
def SynR (w : World) (b off cap : Nat) (Q : List Int) (e7 : Addr) (v1 v2 : Value) : Prop := (SynB Q ∧ v1 = .slice none 0 0 ∧ v2 = iE e7) ∨ (¬ SynB Q ∧ v2 = .nilIface ∧ SubR w b off cap Q 2 v1)
set_option maxRecDepth 100000 in
set_option maxHeartbeats 2000000 in
theorem behindPilot_impl (b off cap : Nat) (P : List Int) (e6 : Addr) (w : World) (h : RowC w b off cap P) (hl : P.length ≤ 4096) (hE : w.cell? ⟨4, 0, none⟩ = some (iE e6)) :
    Calls Tryd.prog 88 #[.slice (some ⟨b, off, none⟩) P.length cap] w fun e w' => (∃ v1 v2, e = .returned (.tuple #[v1, v2]) ∧ PilR w b off cap P (pilC P) e6 v1 v2) ∧ Below w.heap.size w w' := by
  have hin : Hid (∀ k, k < pilC P → k < P.length ∧ 42 < P.getD k 0 ∧ P.getD k 0 < 200) := pilC_in P
  have hat : Hid (pilC P < P.length → ¬ (42 < P.getD (pilC P) 0 ∧ P.getD (pilC P) 0 < 200)) := pilC_at P
  have hle := pilC_le P
  have hcap := h.c
  have hr : Hid (∀ i, i < P.length → w.cell? ⟨b, off + i, none⟩ = some (.int .i64 (P.getD i 0))) := h.r
  replace h := hid h
  obtain ⟨N, hN⟩ : ∃ N, pilC P = N := ⟨_, rfl⟩
  rw [hN] at hin hat hle ⊢
  clear hN
  have hB : Hid (∀ n, Below w.heap.size w (w.drewN n)) := fun n => ⟨rfl, rfl, rfl, Nat.le_refl _, fun _ _ => rfl⟩
  go_enter Tryd.func88, Tryd.ntmps88
  go_wp2
  go_loop [4] (fun i => ∃ k : Nat, k ≤ N ∧ i = .int .i64 k) (fun i => N - (intOf i).toNat)
  case atStart => exact ⟨0, by omega, rfl⟩
  case round =>
    obtain ⟨k, hk, rfl⟩ := hrel
    by_cases hlt : k < N
    · obtain ⟨h1, h2, h3⟩ := hin.out k hlt
      have x1 := hr.out k h1
      generalize P.getD k 0 = X at *
      clear hin hat
      go_wp2
      go_round
      case rel => exact ⟨k + 1, by omega, by go_num⟩
      case measure => simp [intOf] <;> omega
    · obtain rfl : k = N := by omega
      by_cases h8 : k < 8
      · have h8b : decide ((k : Int) < 8) = true := decide_eq_true (by omega)
        by_cases hkl : k < P.length
        · have hx := hat.out hkl
          have x1 := hr.out k hkl
          generalize P.getD k 0 = X at *
          clear hin hat hr
          by_cases hx1 : 42 < X
          · have hx2 : ¬ X < 200 := fun h => hx ⟨hx1, h⟩
            go_wp2
            go_region
            go_wp2
            go_ret2
            exact ⟨⟨_, _, rfl, .inl ⟨h8, rfl, rfl⟩⟩, hB.out 1⟩
          · go_wp2
            go_region
            go_wp2
            go_ret2
            exact ⟨⟨_, _, rfl, .inl ⟨h8, rfl, rfl⟩⟩, hB.out 1⟩
        · clear hin hat hr
          go_wp2
          go_region
          go_wp2
          go_ret2
          exact ⟨⟨_, _, rfl, .inl ⟨h8, rfl, rfl⟩⟩, hB.out 1⟩
      · have h8b : decide ((k : Int) < 8) = false := decide_eq_false (by omega)
        by_cases hkl : k < P.length
        · have hx := hat.out hkl
          have x1 := hr.out k hkl
          generalize P.getD k 0 = X at *
          clear hin hat hr
          by_cases hx1 : 42 < X
          · have hx2 : ¬ X < 200 := fun h => hx ⟨hx1, h⟩
            go_wp2
            go_ret2
            exact ⟨⟨_, _, rfl, .inr ⟨by omega, rfl, SubR.mk1 h.out k hle⟩⟩, Below.refl _ _⟩
          · go_wp2
            go_ret2
            exact ⟨⟨_, _, rfl, .inr ⟨by omega, rfl, SubR.mk1 h.out k hle⟩⟩, Below.refl _ _⟩
        · clear hin hat hr
          go_wp2
          all_goals go_ret2
          all_goals first
            | exact ⟨⟨_, _, rfl, .inr ⟨by omega, rfl, SubR.mk1 h.out k hle⟩⟩, Below.refl _ _⟩
            | exact ⟨⟨_, _, rfl, .inr ⟨by omega, rfl, SubR.mk0 k (by omega) _ (by omega)⟩⟩, Below.refl _ _⟩
set_option maxRecDepth 100000 in
set_option maxHeartbeats 2000000 in
theorem behindSync_impl (b off cap : Nat) (Q : List Int) (e7 : Addr) (w : World) (h : RowC w b off cap Q) (hl : Q.length ≤ 4096) (hE : w.cell? ⟨5, 0, none⟩ = some (iE e7)) :
    Calls Tryd.prog 89 #[.slice (some ⟨b, off, none⟩) Q.length cap] w fun e w' => (∃ v1 v2, e = .returned (.tuple #[v1, v2]) ∧ SynR w b off cap Q e7 v1 v2) ∧ Below w.heap.size w w' := by
  have hcap := h.c
  have hB : Hid (∀ n, Below w.heap.size w (w.drewN n)) := fun n => ⟨rfl, rfl, rfl, Nat.le_refl _, fun _ _ => rfl⟩
  by_cases h2 : Q.length < 2
  · have hG : Hid (SynB Q) := .inl h2
    have h2b : decide ((Q.length : Int) < 2) = true := decide_eq_true (by omega)
    clear h
    go_enter Tryd.func89, Tryd.ntmps89
    go_wp2
    go_region
    go_wp2
    go_region
    go_wp2
    go_ret2
    exact ⟨⟨_, _, rfl, .inl ⟨hG.out, rfl, rfl⟩⟩, hB.out 2⟩
  · have x0 : w.cell? ⟨b, off, none⟩ = some (.int .i64 (Q.getD 0 0)) := h.r 0 (by omega)
    have x1 := h.r 1 (by omega)
    have hm : (Q.length < 2 ∨ 18 ≤ Q.getD 0 0 ∨ 18 ≤ Q.getD 1 0) ↔ 18 ≤ max (Q.getD 0 0) (Q.getD 1 0) := by omega
    have h2b : decide ((Q.length : Int) < 2) = false := decide_eq_false (by omega)
    have l0 : 0 < Q.length := by omega
    have l1 : 1 < Q.length := by omega
    have l2 : (0 : Int) < (Q.length : Int) := by omega
    have l3 : (1 : Int) < (Q.length : Int) := by omega
    by_cases hs : 18 ≤ max (Q.getD 0 0) (Q.getD 1 0)
    · have hG : Hid (SynB Q) := hm.2 hs
      clear h hm
      obtain ⟨X, hX⟩ : ∃ X, Q.getD 0 0 = X := ⟨_, rfl⟩
      obtain ⟨Y, hY⟩ : ∃ Y, Q.getD 1 0 = Y := ⟨_, rfl⟩
      rw [hX, hY] at hs
      rw [hX] at x0
      rw [hY] at x1
      replace hX := hid hX
      replace hY := hid hY
      go_enter Tryd.func89, Tryd.ntmps89
      go_wp2
      go_region
      go_wp2
      go_region
      go_wp2
      go_ret2
      exact ⟨⟨_, _, rfl, .inl ⟨hG.out, rfl, rfl⟩⟩, hB.out 2⟩
    · have hG : Hid (¬ SynB Q) := fun h => hs (hm.1 h)
      clear hm
      have hRC := hid h
      clear h
      obtain ⟨X, hX⟩ : ∃ X, Q.getD 0 0 = X := ⟨_, rfl⟩
      obtain ⟨Y, hY⟩ : ∃ Y, Q.getD 1 0 = Y := ⟨_, rfl⟩
      rw [hX, hY] at hs
      rw [hX] at x0
      rw [hY] at x1
      replace hX := hid hX
      replace hY := hid hY
      go_enter Tryd.func89, Tryd.ntmps89
      go_wp2
      go_region
      go_wp2
      all_goals go_ret2
      all_goals
        have hq : Below w.heap.size w w.drew := hB.out 1
        refine ⟨⟨_, _, rfl, .inr ⟨hG.out, rfl, ?_⟩⟩, hq⟩
        first
          | exact SubR.mk1 hRC.out 2 (by omega)
          | exact SubR.mk0 2 (by omega) _ (by omega)
set_option maxRecDepth 100000 in
theorem beginPair_impl (b off cap : Nat) (Q : List Int) (w : World) (h : RowC w b off cap Q) (hl : Q.length ≤ 4096) :
    Calls Tryd.prog 94 #[.slice (some ⟨b, off, none⟩) Q.length cap] w fun e w' => e = .returned (.bool (decide (2 ≤ Q.length ∧ Q.getD 0 0 < 200))) ∧ w' = w := by
  by_cases h2 : 2 ≤ Q.length
  · have x0 : w.cell? ⟨b, off, none⟩ = some (.int .i64 (Q.getD 0 0)) := h.r 0 (by omega)
    clear h
    have e : decide (2 ≤ Q.length ∧ Q.getD 0 0 < 200) = decide (Q.getD 0 0 < 200) := by rw [Bool.eq_iff_iff]; simp [h2]
    rw [e]
    clear e
    generalize Q.getD 0 0 = X at *
    have h2b : decide ((2 : Int) ≤ (Q.length : Int)) = true := decide_eq_true (by omega)
    go_enter Tryd.func94, Tryd.ntmps94
    go_wp2
    go_ret
    exact ⟨rfl, rfl⟩
  · have e : decide (2 ≤ Q.length ∧ Q.getD 0 0 < 200) = false := decide_eq_false (fun h => h2 h.1)
    rw [e]
    clear h e
    have h2b : decide ((2 : Int) ≤ (Q.length : Int)) = false := decide_eq_false (by omega)
    go_enter Tryd.func94, Tryd.ntmps94
    go_wp2
    go_ret
    exact ⟨rfl, rfl⟩
theorem heardBit_impl (x y : Int) (w : World) (hx : 1 ≤ x ∧ x ≤ 1000) (hy : 1 ≤ y ∧ y ≤ 1000) : Calls Tryd.prog 95 #[.int .i64 x, .int .i64 y] w fun e w' => e = .returned (.int .i64 (hbit x y : Nat)) ∧ w' = w := by
  unfold hbit
  by_cases h : 60 < x + y
  · rw [if_pos h]
    go_enter Tryd.func95, Tryd.ntmps95
    go_wp2
    go_ret
    exact ⟨rfl, rfl⟩
  · rw [if_neg h]
    go_enter Tryd.func95, Tryd.ntmps95
    go_wp2
    go_ret
    exact ⟨rfl, rfl⟩
end Go.Proofs.YtakdhmlegickmaaDoor
