/- What the exact laws' helpers over rows of rows and over memories answer. -/
import Derived.Test.YtifcdojaocndhaaDoorMbm
import Derived.Deep.QuietTactic
import Derived.Test.YtifcdojaocndhaaDoorM00
namespace Go.Proofs.YtifcdojaocndhaaDoor
open Go.ChangeShapes Go.WideShapes Go.ChangeAt Go.RowKit
set_option linter.unusedVariables false

theorem RowsR.drewN {w : World} {v : Value} {zss : List (List Int)} (h : RowsR w v zss) (n : Nat) : RowsR (w.drewN n) v zss := h
/-- how many numbers the first i rows have -/
def pre (zss : List (List Int)) (i : Nat) : Nat := ((zss.take i).map List.length).sum
theorem pre_succ (zss : List (List Int)) (i : Nat) (h : i < zss.length) : pre zss (i + 1) = pre zss i + (zss.getD i []).length := by
  have e : zss.take (i + 1) = zss.take i ++ [zss[i]] := List.take_succ_eq_append_getElem h
  unfold pre
  rw [e, List.map_append, List.sum_append, List.getD_eq_getElem?_getD, List.getElem?_eq_getElem h]
  simp
theorem pre_zero (zss : List (List Int)) : pre zss 0 = 0 := rfl
theorem pre_mono (zss : List (List Int)) (i j : Nat) (h : i ≤ j) (hj : j ≤ zss.length) : pre zss i ≤ pre zss j := by
  induction j with
  | zero =>
    obtain rfl : i = 0 := by omega
    exact Nat.le_refl _
  | succ j ih =>
    by_cases e : i = j + 1
    · rw [e]
      exact Nat.le_refl _
    · rw [pre_succ zss j (by omega)]
      have := ih (by omega) (by omega)
      omega
theorem row_le_pre (zss : List (List Int)) (i : Nat) (h : i < zss.length) : (zss.getD i []).length ≤ pre zss zss.length := by
  have h1 := pre_succ zss i h
  have h2 := pre_mono zss (i + 1) zss.length h (Nat.le_refl _)
  omega
theorem rows_some {w : World} {a : Option Addr} {zss : List (List Int)} (h : zss = [] ∨ ∃ b off, a = some ⟨b, off, none⟩ ∧ ∀ i, i < zss.length → ∃ u, w.cell? ⟨b, off + i, none⟩ = some u ∧ RowR w u (zss.getD i [])) {k : Nat} (hk : k < zss.length) :
    ∃ b off a' cap', a = some ⟨b, off, none⟩ ∧ w.cell? ⟨b, off + k, none⟩ = some (.slice a' (zss.getD k []).length cap') ∧ RowR w (.slice a' (zss.getD k []).length cap') (zss.getD k []) := by
  rcases h with h | ⟨b, off, h1, h2⟩
  · rw [h] at hk
    simp at hk
  · obtain ⟨u, h3, h4⟩ := h2 k hk
    have h5 := h4
    obtain ⟨a', cap', rfl, _⟩ := h5
    exact ⟨b, off, a', cap', h1, h3, h4⟩
theorem RowsR.disj {w : World} {a : Option Addr} {n cap : Nat} {zss : List (List Int)} (h : RowsR w (.slice a n cap) zss) : zss = [] ∨ ∃ b off, a = some ⟨b, off, none⟩ ∧ ∀ i, i < zss.length → ∃ u, w.cell? ⟨b, off + i, none⟩ = some u ∧ RowR w u (zss.getD i []) := by
  obtain ⟨a', cap', e, h⟩ := h
  injection e with e _ _
  subst e
  exact h
theorem RowR.disj {w : World} {a : Option Addr} {n cap : Nat} {zs : List Int} (h : RowR w (.slice a n cap) zs) : zs = [] ∨ ∃ b off, a = some ⟨b, off, none⟩ ∧ ∀ i, i < zs.length → w.cell? ⟨b, off + i, none⟩ = some (.int .i64 (zs.getD i 0)) := by
  obtain ⟨a', cap', e, h⟩ := h
  injection e with e _ _
  subst e
  exact h
/-- the first k rows are marked from m on -/
def mrL (zss : List (List Int)) (m : Int) (k : Nat) : List (List Int) := (List.range zss.length).map fun (i : Nat) => if i < k then markL (m + (pre zss i : Nat)) (zss.getD i []).length else zss.getD i []
theorem mrL_len (zss : List (List Int)) (m : Int) (k : Nat) : (mrL zss m k).length = zss.length := by simp [mrL]
theorem mrL_at (zss : List (List Int)) (m : Int) (k i : Nat) (h : i < zss.length) : (mrL zss m k).getD i [] = if i < k then markL (m + (pre zss i : Nat)) (zss.getD i []).length else zss.getD i [] := by
  simp [mrL, List.getD_eq_getElem?_getD, List.getElem?_range h]
theorem getD_ext2 {a b : List (List Int)} (hl : a.length = b.length) (h : ∀ i, i < a.length → a.getD i [] = b.getD i []) : a = b := by
  apply List.ext_getElem hl
  intro i h1 h2
  have := h i h1
  simpa [List.getD_eq_getElem?_getD, List.getElem?_eq_getElem h1, List.getElem?_eq_getElem h2] using this
theorem mrL_zero (zss : List (List Int)) (m : Int) : mrL zss m 0 = zss := getD_ext2 (mrL_len _ _ _) (fun i hi => by rw [mrL_len] at hi; rw [mrL_at _ _ _ _ hi, if_neg (by omega)])
theorem mrL_succ (zss : List (List Int)) (m : Int) (k : Nat) (hk : k < zss.length) : (mrL zss m k).set k (markL (m + (pre zss k : Nat)) (zss.getD k []).length) = mrL zss m (k + 1) := by
  refine getD_ext2 (by rw [List.length_set, mrL_len, mrL_len]) (fun i hi => ?_)
  rw [List.length_set, mrL_len] at hi
  rw [mrL_at _ _ _ _ hi, List.getD_eq_getElem?_getD]
  by_cases e : k = i
  · subst e
    rw [List.getElem?_set_self (by rw [mrL_len]; exact hi), if_pos (by omega)]
    rfl
  · rw [List.getElem?_set_ne e, ← List.getD_eq_getElem?_getD, mrL_at _ _ _ _ hi]
    by_cases h : i < k
    · rw [if_pos h, if_pos (by omega)]
    · rw [if_neg h, if_neg (by omega)]
/-- one row of a slice of rows, and what another content of it makes of the whole -/
theorem RowsO.at {w : World} {s : Nat} {G : Nat → Nat} {v : Value} {zss : List (List Int)} (h : RowsO w s G v zss) {k : Nat} (hk : k < zss.length) :
    ∃ cap u, v = .slice (some ⟨s, 0, none⟩) zss.length cap ∧ w.cell? ⟨s, k, none⟩ = some u ∧ RowO w (G k) u (zss.getD k []) ∧
      ∀ w' zs', RowO w' (G k) u zs' → w.grownBy w' (some (G k)) → (∀ i, i < zss.length → G i ≠ s) → (∀ i j, i < zss.length → j < zss.length → G i = G j → i = j) → RowsO w' s G v (zss.set k zs') := by
  obtain ⟨cap, c, t, V, hv, h1, h2, h3⟩ := h
  refine ⟨cap, V k, hv, by simp [World.cell?, h1, h2 k hk], h3 k hk, fun w' zs' hr hg hs hd => ?_⟩
  have hslt : s < w.heap.size := (Array.getElem?_eq_some_iff.1 h1).1
  refine ⟨cap, c, t, V, by rw [List.length_set]; exact hv, (hg.block s hslt (by simp; exact fun e => hs k hk e.symm)).trans h1, fun i hi => h2 i (by rw [List.length_set] at hi; exact hi), fun i hi => ?_⟩
  rw [List.length_set] at hi
  by_cases e : k = i
  · subst e
    rw [List.getD_eq_getElem?_getD, List.getElem?_set_self hk]
    exact hr
  · rw [List.getD_eq_getElem?_getD, List.getElem?_set_ne e, ← List.getD_eq_getElem?_getD]
    exact (h3 i hi).kept (hg.block _ (h3 i hi).lt (by simp; exact fun e2 => e (hd i k hi hk e2).symm))

set_option maxRecDepth 100000 in
theorem eqss_yes (v v' : Value) (zss : List (List Int)) (w : World) (h : RowsR w v zss) (h' : RowsR w v' zss) (hl : zss.length ≤ 1000000000) (hr : ∀ i, i < zss.length → (zss.getD i []).length ≤ 1000000000) :
    Calls Tryd.prog 84 #[v, v'] w fun e w' => e = .returned (.bool true) ∧ ∃ n, w' = w.drewN n := by
  obtain ⟨a, cap, rfl, h⟩ := h
  obtain ⟨a', cap', rfl, h'⟩ := h'
  replace h := hid (h)
  replace h' := hid (h')
  replace hr : Hid (∀ i, i < zss.length → (zss.getD i []).length ≤ 1000000000) := hr
  go_enter Tryd.func84, Tryd.ntmps84
  go_wp2
  go_loopw [5] (fun i wr => ∃ k : Nat, k ≤ zss.length ∧ i = .int .i64 k ∧ ∃ n, wr = w.drewN n) (fun i _ => zss.length - (intOf i).toNat)
  case atStart => exact ⟨0, by omega, rfl, 0, rfl⟩
  case round =>
    obtain ⟨k, hk, rfl, n, rfl⟩ := hrel
    by_cases hlt : k < zss.length
    · obtain ⟨b, off, a1, p1, rfl, c1, r1⟩ := rows_some h.out hlt
      obtain ⟨b', off', a2, p2, rfl, c2, r2⟩ := rows_some h'.out hlt
      have hb := hr.out k hlt
      clear h h' hr
      replace r1 := hid (r1.drewN n)
      replace r2 := hid (r2.drewN n)
      replace c1 : (w.drewN n).cell? ⟨b, off + k, none⟩ = _ := c1
      replace c2 : (w.drewN n).cell? ⟨b', off' + k, none⟩ = _ := c2
      generalize zss.getD k [] = z at *
      generalize hW : w.drewN n = W at *
      replace hW := hid (hW)
      go_wp2
      go_quiet ((go_at_call 83; refine Calls.quiet_of (eqr_yes _ _ z _ ?_ ?_ hb); exact r1.out; exact r2.out))
      go_wp2
      go_roundw
      case rel => exact ⟨k + 1, by omega, by go_num, n + nq, by rw [← World.drewN_drewN, hW.out]⟩
      case measure => simp [intOf]; omega
    · obtain rfl : k = zss.length := by omega
      go_wp2
      go_ret
      exact ⟨rfl, n, rfl⟩
set_option maxRecDepth 100000 in
theorem heldss (v : Value) (m : Int) (zss : List (List Int)) (w : World) (h : RowsR w v (mrL zss m zss.length)) (hl : zss.length ≤ 1000000000) (hp : pre zss zss.length ≤ 100000000) (hm0 : 0 ≤ m) (hm1 : m ≤ 100000000) :
    Calls Tryd.prog 91 #[v, .int .i64 m] w fun e w' => e = .returned (.int .i64 (m + (pre zss zss.length : Nat))) ∧ w' = w := by
  obtain ⟨a, cap, rfl, h⟩ := h
  have hL := mrL_len zss m zss.length
  have hAt : Hid (∀ k, k < zss.length → (mrL zss m zss.length).getD k [] = markL (m + (pre zss k : Nat)) (zss.getD k []).length) := fun k hk => by rw [mrL_at _ _ _ _ hk, if_pos hk]
  have hS : Hid (∀ k, k < zss.length → pre zss (k + 1) = pre zss k + (zss.getD k []).length ∧ pre zss k ≤ pre zss zss.length ∧ (zss.getD k []).length ≤ pre zss zss.length) := fun k hk => ⟨pre_succ zss k hk, pre_mono zss k _ (by omega) (Nat.le_refl _), row_le_pre zss k hk⟩
  replace h := hid (h)
  rw [hL]
  generalize hn : pre zss zss.length = tot at *
  replace hn := hid (hn)
  go_enter Tryd.func91, Tryd.ntmps91
  go_wp2
  go_loop [1, 5] (fun q i => ∃ k : Nat, k ≤ zss.length ∧ i = .int .i64 k ∧ q = .int .i64 (m + (pre zss k : Nat))) (fun _ i => zss.length - (intOf i).toNat)
  case atStart => exact ⟨0, by omega, rfl, by simp [pre_zero]⟩
  case round =>
    obtain ⟨k, hk, rfl, rfl⟩ := hrel
    by_cases hlt : k < zss.length
    · obtain ⟨b, off, a1, p1, rfl, c1, r1⟩ := rows_some h.out (k := k) (by rw [hL]; exact hlt)
      obtain ⟨hs, hs2, hs3⟩ := hS.out k hlt
      have r2 : Hid (RowR w (.slice a1 ((mrL zss m zss.length).getD k []).length p1) (markL (m + (pre zss k : Nat)) (zss.getD k []).length)) := by
        have := hAt.out k hlt
        unfold Hid
        rw [← this]
        exact r1
      clear h hL hAt hS r1
      obtain ⟨q, hq⟩ : ∃ q : Int, m + (pre zss k : Nat) = q := ⟨_, rfl⟩
      rw [hq] at r2 ⊢
      have hq1 : Hid (q + ((zss.getD k []).length : Int) = m + (pre zss (k + 1) : Nat)) := by unfold Hid; omega
      have hq0 : 0 ≤ q ∧ q ≤ 200000000 := by omega
      clear hq hs hs2
      generalize ((mrL zss m zss.length).getD k []).length = L0 at *
      generalize (zss.getD k []).length = L1 at *
      go_wp2_with (go_at_call 90; refine (heldr _ _ _ _ r2.out (by omega) (by omega) (by omega)).mono ?_; rintro e w' ⟨rfl, rfl⟩)
      go_round
      case rel => exact ⟨k + 1, by omega, by go_num, by rw [hq1.out]⟩
      case measure => simp [intOf]; omega
    · obtain rfl : k = zss.length := by omega
      rw [hn.out]
      clear hL
      go_wp2
      go_ret
      exact ⟨rfl, rfl⟩
set_option maxRecDepth 100000 in
theorem markss (v : Value) (m : Int) (zss : List (List Int)) (s lo hi : Nat) (G : Nat → Nat) (w : World) (h : RowsO w s G v zss) (hG : ∀ i, i < zss.length → lo ≤ G i ∧ G i < hi) (hs : ∀ i, i < zss.length → G i ≠ s)
    (hd : ∀ i j, i < zss.length → j < zss.length → G i = G j → i = j) (hl : zss.length ≤ 1000000000) (hp : pre zss zss.length ≤ 100000000) (hm0 : 0 ≤ m) (hm1 : m ≤ 100000000) :
    Calls Tryd.prog 89 #[v, .int .i64 m] w fun e w' => e = .returned (.int .i64 (m + (pre zss zss.length : Nat))) ∧ RowsO w' s G v (mrL zss m zss.length) ∧ Touch lo hi w w' ∧ ∀ b, b < w.heap.size → (∀ i, i < zss.length → G i ≠ b) → w'.heap[b]? = w.heap[b]? := by
  have h' := h
  obtain ⟨cap, c, t, V, hv, _, _, _⟩ := h'
  have h0 : Hid (RowsO w s G v (mrL zss m 0)) := by rw [mrL_zero]; exact h
  have hS : Hid (∀ k, k < zss.length → pre zss (k + 1) = pre zss k + (zss.getD k []).length ∧ pre zss k ≤ pre zss zss.length ∧ (zss.getD k []).length ≤ pre zss zss.length) := fun k hk => ⟨pre_succ zss k hk, pre_mono zss k _ (by omega) (Nat.le_refl _), row_le_pre zss k hk⟩
  replace hG : Hid (∀ i, i < zss.length → lo ≤ G i ∧ G i < hi) := hG
  replace hs : Hid (∀ i, i < zss.length → G i ≠ s) := hs
  replace hd : Hid (∀ i j, i < zss.length → j < zss.length → G i = G j → i = j) := hd
  clear h
  subst hv
  generalize hn : pre zss zss.length = tot at *
  replace hn := hid (hn)
  go_enter Tryd.func89, Tryd.ntmps89
  go_wp2
  go_loopw [1, 5] (fun q i wr => ∃ k : Nat, k ≤ zss.length ∧ i = .int .i64 k ∧ q = .int .i64 (m + (pre zss k : Nat)) ∧ RowsO wr s G (.slice (some ⟨s, 0, none⟩) zss.length cap) (mrL zss m k) ∧ Touch lo hi w wr ∧ ∀ b, b < w.heap.size → (∀ i, i < zss.length → G i ≠ b) → wr.heap[b]? = w.heap[b]?) (fun _ i _ => zss.length - (intOf i).toNat)
  case atStart => exact ⟨0, by omega, rfl, by simp [pre_zero], h0.out, Touch.refl _ _ _, fun _ _ _ => rfl⟩
  case round =>
    obtain ⟨k, hk, rfl, rfl, hM, hT, hO⟩ := hrel
    by_cases hlt : k < zss.length
    · obtain ⟨cap', u, hv', hc, hr, hstep⟩ := hM.at (k := k) (by rw [mrL_len]; exact hlt)
      rw [mrL_at _ _ _ _ hlt, if_neg (by omega)] at hr
      rw [mrL_len] at hstep
      obtain ⟨hs1, hs2, hs3⟩ := hS.out k hlt
      have hu := hr
      obtain ⟨cu, cc, ct, rfl, _, _⟩ := hu
      have E : Hid (∀ w', RowO w' (G k) (.slice (some ⟨G k, 0, none⟩) (zss.getD k []).length cu) (markL (m + (pre zss k : Nat)) (zss.getD k []).length) → wr.grownBy w' (some (G k)) → RowsO w' s G (.slice (some ⟨s, 0, none⟩) zss.length cap) (mrL zss m (k + 1)) ∧ Touch lo hi w w' ∧ ∀ b, b < w.heap.size → (∀ i, i < zss.length → G i ≠ b) → w'.heap[b]? = w.heap[b]?) := by
        intro w' h1 h2
        refine ⟨by rw [← mrL_succ zss m k hlt]; exact hstep w' _ h1 h2 hs.out hd.out, hT.trans (Touch.of_grown h2 (hG.out k hlt).1 (hG.out k hlt).2), fun b hb hne => ?_⟩
        rw [h2.block b (Nat.lt_of_lt_of_le hb hT.size) (by simp; exact fun e => hne k hlt e.symm)]
        exact hO b hb hne
      replace hr := hid (hr)
      clear hM hT hO hstep hv'
      obtain ⟨q, hq⟩ : ∃ q : Int, m + (pre zss k : Nat) = q := ⟨_, rfl⟩
      rw [hq] at E ⊢
      have hq1 : Hid (q + ((zss.getD k []).length : Int) = m + (pre zss (k + 1) : Nat)) := by unfold Hid; omega
      have hq0 : 0 ≤ q ∧ q ≤ 200000000 := by omega
      clear hq hs1 hs2
      generalize zss.getD k [] = z at *
      go_wp2_with (go_at_call 88; refine (markr _ _ _ _ _ hr.out (by omega) (by omega) (by omega)).mono ?_; rintro e w' ⟨rfl, hr1, hg1⟩)
      obtain ⟨E1, E2, E3⟩ := E.out w' hr1 hg1
      clear E hr1 hg1
      replace E1 := hid (E1)
      replace E2 := hid (E2)
      replace E3 := hid (E3)
      go_wp2
      go_roundw
      case rel => exact ⟨k + 1, by omega, by go_num, by rw [hq1.out], E1.out, E2.out, E3.out⟩
      case measure => simp [intOf]; omega
    · obtain rfl : k = zss.length := by omega
      rw [hn.out]
      replace hO := hid (hO)
      go_wp2
      go_ret
      exact ⟨rfl, hM, hT, hO.out⟩
set_option maxRecDepth 100000 in
theorem szss (v : Value) (zss : List (List Int)) (left : Int) (w : World) (h : RowsR w v zss) (hl : zss.length ≤ maxLen) (hr : ∀ i, i < zss.length → (zss.getD i []).length ≤ maxLen) (h0 : 0 ≤ left) (h1 : left ≤ 1000000000) :
    Calls Tryd.prog 93 #[v, .int .i64 left] w fun e w' => ∃ R : Int, e = .returned (.int .i64 R) ∧ (R < 0 ∨ (0 ≤ R ∧ (zss.length : Int) + (pre zss zss.length : Nat) + R = left)) ∧ w' = w := by
  obtain ⟨a, cap, rfl, h⟩ := h
  replace h := hid (h)
  replace hr : Hid (∀ i, i < zss.length → (zss.getD i []).length ≤ maxLen) := hr
  have hS : Hid (∀ k, k < zss.length → pre zss (k + 1) = pre zss k + (zss.getD k []).length) := fun k hk => pre_succ zss k hk
  unfold maxLen at hl
  by_cases hlt0 : left - (zss.length : Int) < 0
  · go_enter Tryd.func93, Tryd.ntmps93
    go_wp2
    go_ret
    exact ⟨_, rfl, .inl (by omega), rfl⟩
  · go_enter Tryd.func93, Tryd.ntmps93
    go_wp2
    go_loop [1, 5] (fun q i => ∃ k : Nat, k ≤ zss.length ∧ i = .int .i64 k ∧ ∃ R : Int, q = .int .i64 R ∧ 0 ≤ R ∧ (zss.length : Int) + (pre zss k : Nat) + R = left) (fun _ i => zss.length - (intOf i).toNat)
    case atStart => exact ⟨0, by omega, rfl, _, rfl, by omega, by rw [pre_zero]; omega⟩
    case round =>
      obtain ⟨k, hk, rfl, R, rfl, hR0, hR⟩ := hrel
      by_cases hlt : k < zss.length
      · obtain ⟨b, off, a1, p1, rfl, c1, r1⟩ := rows_some h.out hlt
        have hb := hr.out k hlt
        have hs := hS.out k hlt
        replace r1 := hid (r1)
        clear h hr hS
        have hRl : R ≤ 1000000000 := by omega
        generalize zss.getD k [] = z at *
        by_cases hneg : R - (z.length : Int) < 0
        · clear hR hs
          go_wp2_with (go_at_call 92; refine (szr _ _ _ _ r1.out hb hR0 hRl).mono ?_; rintro e w' ⟨rfl, rfl⟩; rw [if_pos hneg])
          go_ret
          exact ⟨_, rfl, .inl (by omega), rfl⟩
        · have hR2 : Hid ((zss.length : Int) + (pre zss (k + 1) : Nat) + (R - (z.length : Int)) = left) := by unfold Hid; omega
          clear hR hs
          go_wp2_with (go_at_call 92; refine (szr _ _ _ _ r1.out hb hR0 hRl).mono ?_; rintro e w' ⟨rfl, rfl⟩; rw [if_neg hneg])
          go_round
          case rel => exact ⟨k + 1, by omega, by go_num, _, rfl, by omega, hR2.out⟩
          case measure => simp [intOf]; omega
      · obtain rfl : k = zss.length := by omega
        replace hR := hid (hR)
        go_wp2
        go_ret
        exact ⟨_, rfl, .inr ⟨hR0, hR.out⟩, rfl⟩
end Go.Proofs.YtifcdojaocndhaaDoor

/- What spec.l01In answers: whether a number lies between two others; the world stays as it was. -/
namespace Go.Proofs.YtifcdojaocndhaaDoor
open Go.ChangeShapes Go.WideShapes Go.ChangeAt Go.RowKit
set_option linter.unusedVariables false

theorem in_spec (n a b : Int) (w : World) : Calls Tryd.prog 99 #[.int .i64 n, .int .i64 a, .int .i64 b] w fun e w' => e = .returned (.bool (inB n a b)) ∧ w' = w := by
  go_enter Tryd.func99, Tryd.ntmps99
  go_wp2
  all_goals go_ret
  all_goals exact ⟨ret_bool (by rw [Bool.eq_iff_iff]; simp [inB]; try omega), rfl⟩
end Go.Proofs.YtifcdojaocndhaaDoor

/- What the specification says of a memory that is right, and of what is asked of one. -/
namespace Go.Proofs.YtifcdojaocndhaaDoor
open Go.ChangeShapes Go.WideShapes Go.ChangeAt Go.RowKit
set_option linter.unusedVariables false

/-- so many bytes -/
def bytesB (zs : List Int) (n : Nat) : Bool := zs.all (fun z => inB z 0 255) && decide (zs.length = n)
/-- a memory that is right -/
def okM (M : Mem) : Bool := bytesB M.rom 64 && decide (M.ram.length = 4) && inB M.page 0 3 && (decide (M.screen = 1) || decide (M.screen = 3)) && M.ram.all (fun r => bytesB r 64)
theorem bytes_no {zs : List Int} {k n : Nat} (hk : k < zs.length) (h : inB (zs.getD k 0) 0 255 = false) : bytesB zs n = false := by
  unfold bytesB
  rw [Bool.and_eq_false_iff]
  left
  rw [List.all_eq_false]
  refine ⟨zs[k], List.getElem_mem hk, ?_⟩
  rw [List.getD_eq_getElem?_getD, List.getElem?_eq_getElem hk] at h
  simpa using h
theorem bytes_all {zs : List Int} {n : Nat} (h : ∀ i, i < zs.length → inB (zs.getD i 0) 0 255 = true) : bytesB zs n = decide (zs.length = n) := by
  unfold bytesB
  have : zs.all (fun z => inB z 0 255) = true := by
    rw [List.all_eq_true]
    intro z hz
    obtain ⟨i, hi, rfl⟩ := List.mem_iff_getElem.1 hz
    have := h i hi
    simpa [List.getD_eq_getElem?_getD, List.getElem?_eq_getElem hi] using this
  rw [this, Bool.true_and]
theorem bytes_len {zs : List Int} {n : Nat} (h : bytesB zs n = true) : zs.length = n := by
  unfold bytesB at h
  simp at h
  exact h.2
theorem bytes_at {zs : List Int} {n i : Nat} (h : bytesB zs n = true) (hi : i < zs.length) : inB (zs.getD i 0) 0 255 = true := by
  cases e : inB (zs.getD i 0) 0 255
  · rw [bytes_no hi e] at h
    cases h
  · rfl
theorem bytes_bd {zs : List Int} {n i : Nat} (h : bytesB zs n = true) (hi : i < zs.length) : 0 ≤ zs.getD i 0 ∧ zs.getD i 0 ≤ 255 := by
  have := bytes_at h hi
  simpa [inB] using this
theorem ok_parts {M : Mem} (h : okM M = true) : bytesB M.rom 64 = true ∧ M.ram.length = 4 ∧ (0 ≤ M.page ∧ M.page ≤ 3) ∧ (M.screen = 1 ∨ M.screen = 3) ∧ ∀ i, i < M.ram.length → bytesB (M.ram.getD i []) 64 = true := by
  unfold okM at h
  simp only [Bool.and_eq_true, Bool.or_eq_true, decide_eq_true_eq] at h
  obtain ⟨⟨⟨⟨h1, h2⟩, h3⟩, h4⟩, h5⟩ := h
  refine ⟨h1, h2, by simpa [inB] using h3, h4, fun i hi => ?_⟩
  rw [List.all_eq_true] at h5
  have := h5 _ (List.getElem_mem hi)
  simpa [List.getD_eq_getElem?_getD, List.getElem?_eq_getElem hi] using this
theorem ram_no {M : Mem} {k : Nat} (hk : k < M.ram.length) (h : bytesB (M.ram.getD k []) 64 = false) : okM M = false := by
  cases e : okM M
  · rfl
  · have := (ok_parts e).2.2.2.2 k hk
    rw [h] at this
    cases this
theorem ok_all {M : Mem} (h1 : bytesB M.rom 64 = true) (h2 : M.ram.length = 4) (h3 : inB M.page 0 3 = true) (h4 : M.screen = 1 ∨ M.screen = 3) (h5 : ∀ i, i < 4 → bytesB (M.ram.getD i []) 64 = true) : okM M = true := by
  unfold okM
  simp only [Bool.and_eq_true, Bool.or_eq_true, decide_eq_true_eq]
  refine ⟨⟨⟨⟨h1, h2⟩, h3⟩, h4⟩, ?_⟩
  rw [List.all_eq_true]
  intro z hz
  obtain ⟨i, hi, rfl⟩ := List.mem_iff_getElem.1 hz
  have := h5 i (by omega)
  simpa [List.getD_eq_getElem?_getD, List.getElem?_eq_getElem hi] using this
theorem okM_false {M : Mem} (h : bytesB M.rom 64 = false ∨ ¬ M.ram.length = 4 ∨ inB M.page 0 3 = false ∨ ¬ (M.screen = 1 ∨ M.screen = 3)) : okM M = false := by
  cases e : okM M
  · rfl
  · obtain ⟨h1, h2, h3, h4, _⟩ := ok_parts e
    rcases h with h | h | h | h
    · rw [h1] at h; cases h
    · exact absurd h2 h
    · rw [in_yes h3.1 h3.2] at h; cases h
    · exact absurd h4 h
theorem MemR.form {w : World} {v : Value} {M : Mem} (h : MemR w v M) : ∃ a1 p1 a2 p2, v = memV (.slice a1 M.rom.length p1) (.slice a2 M.ram.length p2) M.page M.screen M.locked ∧ RowR w (.slice a1 M.rom.length p1) M.rom ∧ RowsR w (.slice a2 M.ram.length p2) M.ram := by
  obtain ⟨vr, vm, rfl, h1, h2⟩ := h
  obtain ⟨a1, p1, rfl, _⟩ := id h1
  obtain ⟨a2, p2, rfl, _⟩ := id h2
  exact ⟨a1, p1, a2, p2, rfl, h1, h2⟩

theorem byteM_spec (v : Int) (w : World) : Calls Tryd.prog 66 #[.int .i64 v] w fun e w' => e = .returned (.bool (inB v 0 255)) ∧ w' = w := by
  go_enter Tryd.func66, Tryd.ntmps66
  go_wp2_with (go_at_call 99; refine (in_spec _ _ _ _).mono ?_; rintro e w' ⟨rfl, rfl⟩)
  go_ret
  exact ⟨rfl, rfl⟩
set_option maxRecDepth 100000 in
theorem bytes_spec (v : Value) (zs : List Int) (n : Nat) (w : World) (h : RowR w v zs) (hl : zs.length ≤ 1000000000) (hn : n ≤ 1000000000) :
    Calls Tryd.prog 135 #[v, .int .i64 n] w fun e w' => e = .returned (.bool (bytesB zs n)) ∧ w' = w := by
  obtain ⟨a, cap, rfl, h⟩ := h
  replace h := hid h
  have hno : Hid (∀ k, k < zs.length → inB (zs.getD k 0) 0 255 = false → bytesB zs n = false) := fun k hk => bytes_no hk
  have hall : Hid ((∀ i, i < zs.length → inB (zs.getD i 0) 0 255 = true) → bytesB zs n = decide (zs.length = n)) := bytes_all
  go_enter Tryd.func135, Tryd.ntmps135
  go_wp2
  go_loop [5] (fun i => ∃ k : Nat, k ≤ zs.length ∧ i = .int .i64 k ∧ ∀ j, j < k → inB (zs.getD j 0) 0 255 = true) (fun i => zs.length - (intOf i).toNat)
  case atStart => exact ⟨0, by omega, rfl, fun j hj => by omega⟩
  case round =>
    obtain ⟨k, hk, rfl, hj⟩ := hrel
    by_cases hlt : k < zs.length
    · obtain ⟨b, off, rfl, c1⟩ := row_some h.out hlt
      cases hb : inB (zs.getD k 0) 0 255
      · have hE := hid (hno.out k hlt hb)
        clear h hj hno hall
        generalize zs.getD k 0 = z at *
        go_wp2_with (go_at_call 66; refine (byteM_spec _ _).mono ?_; rintro e w' ⟨rfl, rfl⟩; rw [hb])
        go_ret
        exact ⟨ret_bool hE.out.symm, rfl⟩
      · have hj2 : Hid (∀ j, j < k + 1 → inB (zs.getD j 0) 0 255 = true) := fun j hj1 => by
          by_cases e : j = k
          · rw [e]; exact hb
          · exact hj j (by omega)
        clear h hj hno hall
        generalize zs.getD k 0 = z at *
        go_wp2_with (go_at_call 66; refine (byteM_spec _ _).mono ?_; rintro e w' ⟨rfl, rfl⟩; rw [hb])
        go_round
        case rel => exact ⟨k + 1, by omega, by go_num, hj2.out⟩
        case measure => simp [intOf]; omega
    · obtain rfl : k = zs.length := by omega
      have hE := hid (hall.out hj)
      clear hj h hno hall
      go_wp2
      go_ret
      exact ⟨ret_bool (by rw [hE.out, Bool.eq_iff_iff]; simp; omega), rfl⟩
set_option maxRecDepth 100000 in
theorem ok_spec (v : Value) (M : Mem) (w : World) (h : MemR w v M) (hl : M.rom.length ≤ 1000000000) (hm : M.ram.length ≤ 1000000000) (hr : ∀ i, i < M.ram.length → (M.ram.getD i []).length ≤ 1000000000) :
    Calls Tryd.prog 95 #[v] w fun e w' => e = .returned (.bool (okM M)) ∧ Below w.heap.size w w' := by
  obtain ⟨a1, p1, a2, p2, rfl, h1, h2⟩ := h.form
  have hB : Hid (∀ o, Below w.heap.size w (w.alloc o)) := fun o => (Below.refl _ _).alloc (Nat.le_refl _) _
  have k1 : Hid (∀ o, RowR (w.alloc o) (.slice a1 M.rom.length p1) M.rom) := fun o => h1.below (hB.out o)
  have k2 : Hid (RowsR w (.slice a2 M.ram.length p2) M.ram) := h2
  replace hr := hid hr
  clear h h1 h2
  cases hb1 : bytesB M.rom 64
  · rw [okM_false (.inl hb1)]
    go_enter Tryd.func95, Tryd.ntmps95
    go_wp2_with (go_at_call 135; refine (bytes_spec _ M.rom 64 _ (k1.out _) hl (by omega)).mono ?_; rintro e w' ⟨rfl, rfl⟩; rw [hb1])
    go_ret
    exact ⟨rfl, hB.out _⟩
  · by_cases h4 : M.ram.length = 4
    · cases hp : inB M.page 0 3
      · rw [okM_false (.inr (.inr (.inl hp)))]
        have h4' : ((M.ram.length : Int) != 4) = false := by simp; omega
        clear h4
        go_enter Tryd.func95, Tryd.ntmps95
        go_wp2_with (first | (go_at_call 135; refine (bytes_spec _ M.rom 64 _ (k1.out _) hl (by omega)).mono ?_; rintro e w' ⟨rfl, rfl⟩; rw [hb1]) | (go_at_call 99; refine (in_spec _ _ _ _).mono ?_; rintro e w' ⟨rfl, rfl⟩; rw [hp]))
        go_ret
        exact ⟨rfl, hB.out _⟩
      · by_cases hs : M.screen = 1 ∨ M.screen = 3
        · have h4' : ((M.ram.length : Int) != 4) = false := by simp; omega
          have hno : Hid (∀ k, k < 4 → bytesB (M.ram.getD k []) 64 = false → okM M = false) := fun k hk => ram_no (by omega)
          have hall : Hid ((∀ i, i < 4 → bytesB (M.ram.getD i []) 64 = true) → okM M = true) := ok_all hb1 h4 hp hs
          have hs1 : ((M.screen != 1) && (M.screen != 3)) = false := by
            rcases hs with hs | hs <;> simp [hs]
          have hs2 : M.screen = 1 ∨ (M.screen != 1) = true ∧ (M.screen != 3) = false := by
            rcases hs with hs | hs
            · exact .inl hs
            · exact .inr (by simp [hs])
          have h4n := hid h4
          clear h4 hs hs1
          generalize M.screen = sc at *
          rcases hs2 with rfl | ⟨hs3, hs4⟩
          all_goals
            go_enter Tryd.func95, Tryd.ntmps95
            go_wp2_with (first | (go_at_call 135; refine (bytes_spec _ M.rom 64 _ (k1.out _) hl (by omega)).mono ?_; rintro e w' ⟨rfl, rfl⟩; rw [hb1]) | (go_at_call 99; refine (in_spec _ _ _ _).mono ?_; rintro e w' ⟨rfl, rfl⟩; rw [hp]))
            go_loop [3] (fun i => ∃ k : Nat, k ≤ 4 ∧ i = .int .i64 k ∧ ∀ j, j < k → bytesB (M.ram.getD j []) 64 = true) (fun i => 4 - (intOf i).toNat)
            case atStart => exact ⟨0, by omega, rfl, fun j hj => by omega⟩
            case round =>
              obtain ⟨k, hk, rfl, hj⟩ := hrel
              by_cases hlt : k < 4
              · have hh := k2.out.disj
                obtain ⟨b, off, a3, p3, rfl, c1, r1⟩ := rows_some hh (k := k) (by have := h4n.out; omega)
                have hbl := World.block_lt_of_cell? w _ c1
                dsimp only at hbl
                have hrl := hr.out k (by have := h4n.out; omega)
                have hlt2 : k < M.ram.length := by have := h4n.out; omega
                replace r1 := hid r1
                cases hb : bytesB (M.ram.getD k []) 64
                · have hE := hid (hno.out k hlt hb)
                  clear hj hno hall hh
                  generalize M.ram.getD k [] = z at *
                  go_wp2_with (go_at_call 135; refine (bytes_spec _ z 64 _ (r1.out.below (hB.out _)) hrl (by omega)).mono ?_; rintro e w' ⟨rfl, rfl⟩; rw [hb])
                  go_ret
                  exact ⟨ret_bool hE.out.symm, hB.out _⟩
                · have hj2 : Hid (∀ j, j < k + 1 → bytesB (M.ram.getD j []) 64 = true) := fun j hj1 => by
                    by_cases e : j = k
                    · rw [e]; exact hb
                    · exact hj j (by omega)
                  clear hj hno hall hh
                  generalize M.ram.getD k [] = z at *
                  go_wp2_with (go_at_call 135; refine (bytes_spec _ z 64 _ (r1.out.below (hB.out _)) hrl (by omega)).mono ?_; rintro e w' ⟨rfl, rfl⟩; rw [hb])
                  go_round
                  case rel => exact ⟨k + 1, by omega, by go_num, hj2.out⟩
                  case measure => simp [intOf]; omega
              · obtain rfl : k = 4 := by omega
                have hE := hid (hall.out hj)
                clear hj hno hall
                go_wp2
                go_ret
                exact ⟨ret_bool hE.out.symm, hB.out _⟩
        · rw [okM_false (.inr (.inr (.inr hs)))]
          have h4' : ((M.ram.length : Int) != 4) = false := by simp; omega
          have hs1 : (M.screen != 1) = true := by simp; exact fun e => hs (.inl e)
          have hs2 : (M.screen != 3) = true := by simp; exact fun e => hs (.inr e)
          clear h4 hs
          go_enter Tryd.func95, Tryd.ntmps95
          go_wp2_with (first | (go_at_call 135; refine (bytes_spec _ M.rom 64 _ (k1.out _) hl (by omega)).mono ?_; rintro e w' ⟨rfl, rfl⟩; rw [hb1]) | (go_at_call 99; refine (in_spec _ _ _ _).mono ?_; rintro e w' ⟨rfl, rfl⟩; rw [hp]))
          go_ret
          exact ⟨rfl, hB.out _⟩
    · rw [okM_false (.inr (.inl h4))]
      have h4' : ((M.ram.length : Int) != 4) = true := by simp; omega
      clear h4
      go_enter Tryd.func95, Tryd.ntmps95
      go_wp2_with (go_at_call 135; refine (bytes_spec _ M.rom 64 _ (k1.out _) hl (by omega)).mono ?_; rintro e w' ⟨rfl, rfl⟩; rw [hb1])
      go_ret
      exact ⟨rfl, hB.out _⟩
end Go.Proofs.YtifcdojaocndhaaDoor
