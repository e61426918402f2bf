/- What the exact laws' helpers over rows of rows and over memories answer. -/
import Derived.Test.YtneagomkohoceabDoorMbl
import Derived.Deep.QuietTactic
namespace Go.Proofs.YtneagomkohoceabDoor
open Go.ChangeShapes Go.WideShapes Go.ChangeAt Go.RowKit
set_option linter.unusedVariables false

theorem RowsR.drewN {w : World} {v : Value} {zss : List (List Int)} (h : RowsR w v zss) (n : Nat) : RowsR (w.drewN n) v zss := h
/-- how many numbers the first i rows have -/
def pre (zss : List (List Int)) (i : Nat) : Nat := ((zss.take i).map List.length).sum
theorem pre_succ (zss : List (List Int)) (i : Nat) (h : i < zss.length) : pre zss (i + 1) = pre zss i + (zss.getD i []).length := by
  have e : zss.take (i + 1) = zss.take i ++ [zss[i]] := List.take_succ_eq_append_getElem h
  unfold pre
  rw [e, List.map_append, List.sum_append, List.getD_eq_getElem?_getD, List.getElem?_eq_getElem h]
  simp
theorem pre_zero (zss : List (List Int)) : pre zss 0 = 0 := rfl
theorem pre_mono (zss : List (List Int)) (i j : Nat) (h : i ≤ j) (hj : j ≤ zss.length) : pre zss i ≤ pre zss j := by
  induction j with
  | zero =>
    obtain rfl : i = 0 := by omega
    exact Nat.le_refl _
  | succ j ih =>
    by_cases e : i = j + 1
    · rw [e]
      exact Nat.le_refl _
    · rw [pre_succ zss j (by omega)]
      have := ih (by omega) (by omega)
      omega
theorem row_le_pre (zss : List (List Int)) (i : Nat) (h : i < zss.length) : (zss.getD i []).length ≤ pre zss zss.length := by
  have h1 := pre_succ zss i h
  have h2 := pre_mono zss (i + 1) zss.length h (Nat.le_refl _)
  omega
theorem rows_some {w : World} {a : Option Addr} {zss : List (List Int)} (h : zss = [] ∨ ∃ b off, a = some ⟨b, off, none⟩ ∧ ∀ i, i < zss.length → ∃ u, w.cell? ⟨b, off + i, none⟩ = some u ∧ RowR w u (zss.getD i [])) {k : Nat} (hk : k < zss.length) :
    ∃ b off a' cap', a = some ⟨b, off, none⟩ ∧ w.cell? ⟨b, off + k, none⟩ = some (.slice a' (zss.getD k []).length cap') ∧ RowR w (.slice a' (zss.getD k []).length cap') (zss.getD k []) := by
  rcases h with h | ⟨b, off, h1, h2⟩
  · rw [h] at hk
    simp at hk
  · obtain ⟨u, h3, h4⟩ := h2 k hk
    have h5 := h4
    obtain ⟨a', cap', rfl, _⟩ := h5
    exact ⟨b, off, a', cap', h1, h3, h4⟩
theorem RowsR.disj {w : World} {a : Option Addr} {n cap : Nat} {zss : List (List Int)} (h : RowsR w (.slice a n cap) zss) : zss = [] ∨ ∃ b off, a = some ⟨b, off, none⟩ ∧ ∀ i, i < zss.length → ∃ u, w.cell? ⟨b, off + i, none⟩ = some u ∧ RowR w u (zss.getD i []) := by
  obtain ⟨a', cap', e, h⟩ := h
  injection e with e _ _
  subst e
  exact h
theorem RowR.disj {w : World} {a : Option Addr} {n cap : Nat} {zs : List Int} (h : RowR w (.slice a n cap) zs) : zs = [] ∨ ∃ b off, a = some ⟨b, off, none⟩ ∧ ∀ i, i < zs.length → w.cell? ⟨b, off + i, none⟩ = some (.int .i64 (zs.getD i 0)) := by
  obtain ⟨a', cap', e, h⟩ := h
  injection e with e _ _
  subst e
  exact h
/-- the first k rows are marked from m on -/
def mrL (zss : List (List Int)) (m : Int) (k : Nat) : List (List Int) := (List.range zss.length).map fun (i : Nat) => if i < k then markL (m + (pre zss i : Nat)) (zss.getD i []).length else zss.getD i []
theorem mrL_len (zss : List (List Int)) (m : Int) (k : Nat) : (mrL zss m k).length = zss.length := by simp [mrL]
theorem mrL_at (zss : List (List Int)) (m : Int) (k i : Nat) (h : i < zss.length) : (mrL zss m k).getD i [] = if i < k then markL (m + (pre zss i : Nat)) (zss.getD i []).length else zss.getD i [] := by
  simp [mrL, List.getD_eq_getElem?_getD, List.getElem?_range h]
theorem getD_ext2 {a b : List (List Int)} (hl : a.length = b.length) (h : ∀ i, i < a.length → a.getD i [] = b.getD i []) : a = b := by
  apply List.ext_getElem hl
  intro i h1 h2
  have := h i h1
  simpa [List.getD_eq_getElem?_getD, List.getElem?_eq_getElem h1, List.getElem?_eq_getElem h2] using this
theorem mrL_zero (zss : List (List Int)) (m : Int) : mrL zss m 0 = zss := getD_ext2 (mrL_len _ _ _) (fun i hi => by rw [mrL_len] at hi; rw [mrL_at _ _ _ _ hi, if_neg (by omega)])
theorem mrL_succ (zss : List (List Int)) (m : Int) (k : Nat) (hk : k < zss.length) : (mrL zss m k).set k (markL (m + (pre zss k : Nat)) (zss.getD k []).length) = mrL zss m (k + 1) := by
  refine getD_ext2 (by rw [List.length_set, mrL_len, mrL_len]) (fun i hi => ?_)
  rw [List.length_set, mrL_len] at hi
  rw [mrL_at _ _ _ _ hi, List.getD_eq_getElem?_getD]
  by_cases e : k = i
  · subst e
    rw [List.getElem?_set_self (by rw [mrL_len]; exact hi), if_pos (by omega)]
    rfl
  · rw [List.getElem?_set_ne e, ← List.getD_eq_getElem?_getD, mrL_at _ _ _ _ hi]
    by_cases h : i < k
    · rw [if_pos h, if_pos (by omega)]
    · rw [if_neg h, if_neg (by omega)]
/-- one row of a slice of rows, and what another content of it makes of the whole -/
theorem RowsO.at {w : World} {s : Nat} {G : Nat → Nat} {v : Value} {zss : List (List Int)} (h : RowsO w s G v zss) {k : Nat} (hk : k < zss.length) :
    ∃ cap u, v = .slice (some ⟨s, 0, none⟩) zss.length cap ∧ w.cell? ⟨s, k, none⟩ = some u ∧ RowO w (G k) u (zss.getD k []) ∧
      ∀ w' zs', RowO w' (G k) u zs' → w.grownBy w' (some (G k)) → (∀ i, i < zss.length → G i ≠ s) → (∀ i j, i < zss.length → j < zss.length → G i = G j → i = j) → RowsO w' s G v (zss.set k zs') := by
  obtain ⟨cap, c, t, V, hv, h1, h2, h3⟩ := h
  refine ⟨cap, V k, hv, by simp [World.cell?, h1, h2 k hk], h3 k hk, fun w' zs' hr hg hs hd => ?_⟩
  have hslt : s < w.heap.size := (Array.getElem?_eq_some_iff.1 h1).1
  refine ⟨cap, c, t, V, by rw [List.length_set]; exact hv, (hg.block s hslt (by simp; exact fun e => hs k hk e.symm)).trans h1, fun i hi => h2 i (by rw [List.length_set] at hi; exact hi), fun i hi => ?_⟩
  rw [List.length_set] at hi
  by_cases e : k = i
  · subst e
    rw [List.getD_eq_getElem?_getD, List.getElem?_set_self hk]
    exact hr
  · rw [List.getD_eq_getElem?_getD, List.getElem?_set_ne e, ← List.getD_eq_getElem?_getD]
    exact (h3 i hi).kept (hg.block _ (h3 i hi).lt (by simp; exact fun e2 => e (hd i k hi hk e2).symm))

set_option maxRecDepth 100000 in
theorem eqss_yes (v v' : Value) (zss : List (List Int)) (w : World) (h : RowsR w v zss) (h' : RowsR w v' zss) (hl : zss.length ≤ 1000000000) (hr : ∀ i, i < zss.length → (zss.getD i []).length ≤ 1000000000) :
    Calls Tryd.prog 104 #[v, v'] w fun e w' => e = .returned (.bool true) ∧ ∃ n, w' = w.drewN n := by
  obtain ⟨a, cap, rfl, h⟩ := h
  obtain ⟨a', cap', rfl, h'⟩ := h'
  replace h := hid (h)
  replace h' := hid (h')
  replace hr : Hid (∀ i, i < zss.length → (zss.getD i []).length ≤ 1000000000) := hr
  go_enter Tryd.func104, Tryd.ntmps104
  go_wp2
  go_loopw [5] (fun i wr => ∃ k : Nat, k ≤ zss.length ∧ i = .int .i64 k ∧ ∃ n, wr = w.drewN n) (fun i _ => zss.length - (intOf i).toNat)
  case atStart => exact ⟨0, by omega, rfl, 0, rfl⟩
  case round =>
    obtain ⟨k, hk, rfl, n, rfl⟩ := hrel
    by_cases hlt : k < zss.length
    · obtain ⟨b, off, a1, p1, rfl, c1, r1⟩ := rows_some h.out hlt
      obtain ⟨b', off', a2, p2, rfl, c2, r2⟩ := rows_some h'.out hlt
      have hb := hr.out k hlt
      clear h h' hr
      replace r1 := hid (r1.drewN n)
      replace r2 := hid (r2.drewN n)
      replace c1 : (w.drewN n).cell? ⟨b, off + k, none⟩ = _ := c1
      replace c2 : (w.drewN n).cell? ⟨b', off' + k, none⟩ = _ := c2
      generalize zss.getD k [] = z at *
      generalize hW : w.drewN n = W at *
      replace hW := hid (hW)
      go_wp2
      go_quiet ((go_at_call 29; refine Calls.quiet_of (eqr_yes _ _ z _ ?_ ?_ hb); exact r1.out; exact r2.out))
      go_wp2
      go_roundw
      case rel => exact ⟨k + 1, by omega, by go_num, n + nq, by rw [← World.drewN_drewN, hW.out]⟩
      case measure => simp [intOf]; omega
    · obtain rfl : k = zss.length := by omega
      go_wp2
      go_ret
      exact ⟨rfl, n, rfl⟩
set_option maxRecDepth 100000 in
theorem markss (v : Value) (m : Int) (zss : List (List Int)) (s lo hi : Nat) (G : Nat → Nat) (w : World) (h : RowsO w s G v zss) (hG : ∀ i, i < zss.length → lo ≤ G i ∧ G i < hi) (hs : ∀ i, i < zss.length → G i ≠ s)
    (hd : ∀ i j, i < zss.length → j < zss.length → G i = G j → i = j) (hl : zss.length ≤ 1000000000) (hp : pre zss zss.length ≤ 100000000) (hm0 : 0 ≤ m) (hm1 : m ≤ 100000000) :
    Calls Tryd.prog 108 #[v, .int .i64 m] w fun e w' => e = .returned (.int .i64 (m + (pre zss zss.length : Nat))) ∧ RowsO w' s G v (mrL zss m zss.length) ∧ Touch lo hi w w' ∧ ∀ b, b < w.heap.size → (∀ i, i < zss.length → G i ≠ b) → w'.heap[b]? = w.heap[b]? := by
  have h' := h
  obtain ⟨cap, c, t, V, hv, _, _, _⟩ := h'
  have h0 : Hid (RowsO w s G v (mrL zss m 0)) := by rw [mrL_zero]; exact h
  have hS : Hid (∀ k, k < zss.length → pre zss (k + 1) = pre zss k + (zss.getD k []).length ∧ pre zss k ≤ pre zss zss.length ∧ (zss.getD k []).length ≤ pre zss zss.length) := fun k hk => ⟨pre_succ zss k hk, pre_mono zss k _ (by omega) (Nat.le_refl _), row_le_pre zss k hk⟩
  replace hG : Hid (∀ i, i < zss.length → lo ≤ G i ∧ G i < hi) := hG
  replace hs : Hid (∀ i, i < zss.length → G i ≠ s) := hs
  replace hd : Hid (∀ i j, i < zss.length → j < zss.length → G i = G j → i = j) := hd
  clear h
  subst hv
  generalize hn : pre zss zss.length = tot at *
  replace hn := hid (hn)
  go_enter Tryd.func108, Tryd.ntmps108
  go_wp2
  go_loopw [1, 5] (fun q i wr => ∃ k : Nat, k ≤ zss.length ∧ i = .int .i64 k ∧ q = .int .i64 (m + (pre zss k : Nat)) ∧ RowsO wr s G (.slice (some ⟨s, 0, none⟩) zss.length cap) (mrL zss m k) ∧ Touch lo hi w wr ∧ ∀ b, b < w.heap.size → (∀ i, i < zss.length → G i ≠ b) → wr.heap[b]? = w.heap[b]?) (fun _ i _ => zss.length - (intOf i).toNat)
  case atStart => exact ⟨0, by omega, rfl, by simp [pre_zero], h0.out, Touch.refl _ _ _, fun _ _ _ => rfl⟩
  case round =>
    obtain ⟨k, hk, rfl, rfl, hM, hT, hO⟩ := hrel
    by_cases hlt : k < zss.length
    · obtain ⟨cap', u, hv', hc, hr, hstep⟩ := hM.at (k := k) (by rw [mrL_len]; exact hlt)
      rw [mrL_at _ _ _ _ hlt, if_neg (by omega)] at hr
      rw [mrL_len] at hstep
      obtain ⟨hs1, hs2, hs3⟩ := hS.out k hlt
      have hu := hr
      obtain ⟨cu, cc, ct, rfl, _, _⟩ := hu
      have E : Hid (∀ w', RowO w' (G k) (.slice (some ⟨G k, 0, none⟩) (zss.getD k []).length cu) (markL (m + (pre zss k : Nat)) (zss.getD k []).length) → wr.grownBy w' (some (G k)) → RowsO w' s G (.slice (some ⟨s, 0, none⟩) zss.length cap) (mrL zss m (k + 1)) ∧ Touch lo hi w w' ∧ ∀ b, b < w.heap.size → (∀ i, i < zss.length → G i ≠ b) → w'.heap[b]? = w.heap[b]?) := by
        intro w' h1 h2
        refine ⟨by rw [← mrL_succ zss m k hlt]; exact hstep w' _ h1 h2 hs.out hd.out, hT.trans (Touch.of_grown h2 (hG.out k hlt).1 (hG.out k hlt).2), fun b hb hne => ?_⟩
        rw [h2.block b (Nat.lt_of_lt_of_le hb hT.size) (by simp; exact fun e => hne k hlt e.symm)]
        exact hO b hb hne
      replace hr := hid (hr)
      clear hM hT hO hstep hv'
      obtain ⟨q, hq⟩ : ∃ q : Int, m + (pre zss k : Nat) = q := ⟨_, rfl⟩
      rw [hq] at E ⊢
      have hq1 : Hid (q + ((zss.getD k []).length : Int) = m + (pre zss (k + 1) : Nat)) := by unfold Hid; omega
      have hq0 : 0 ≤ q ∧ q ≤ 200000000 := by omega
      clear hq hs1 hs2
      generalize zss.getD k [] = z at *
      go_wp2_with (go_at_call 30; refine (markr _ _ _ _ _ hr.out (by omega) (by omega) (by omega)).mono ?_; rintro e w' ⟨rfl, hr1, hg1⟩)
      obtain ⟨E1, E2, E3⟩ := E.out w' hr1 hg1
      clear E hr1 hg1
      replace E1 := hid (E1)
      replace E2 := hid (E2)
      replace E3 := hid (E3)
      go_wp2
      go_roundw
      case rel => exact ⟨k + 1, by omega, by go_num, by rw [hq1.out], E1.out, E2.out, E3.out⟩
      case measure => simp [intOf]; omega
    · obtain rfl : k = zss.length := by omega
      rw [hn.out]
      replace hO := hid (hO)
      go_wp2
      go_ret
      exact ⟨rfl, hM, hT, hO.out⟩
set_option maxRecDepth 100000 in
theorem szss (v : Value) (zss : List (List Int)) (left : Int) (w : World) (h : RowsR w v zss) (hl : zss.length ≤ maxLen) (hr : ∀ i, i < zss.length → (zss.getD i []).length ≤ maxLen) (h0 : 0 ≤ left) (h1 : left ≤ 1000000000) :
    Calls Tryd.prog 83 #[v, .int .i64 left] w fun e w' => ∃ R : Int, e = .returned (.int .i64 R) ∧ (R < 0 ∨ (0 ≤ R ∧ (zss.length : Int) + (pre zss zss.length : Nat) + R = left)) ∧ w' = w := by
  obtain ⟨a, cap, rfl, h⟩ := h
  replace h := hid (h)
  replace hr : Hid (∀ i, i < zss.length → (zss.getD i []).length ≤ maxLen) := hr
  have hS : Hid (∀ k, k < zss.length → pre zss (k + 1) = pre zss k + (zss.getD k []).length) := fun k hk => pre_succ zss k hk
  unfold maxLen at hl
  by_cases hlt0 : left - (zss.length : Int) < 0
  · go_enter Tryd.func83, Tryd.ntmps83
    go_wp2
    go_ret
    exact ⟨_, rfl, .inl (by omega), rfl⟩
  · go_enter Tryd.func83, Tryd.ntmps83
    go_wp2
    go_loop [1, 5] (fun q i => ∃ k : Nat, k ≤ zss.length ∧ i = .int .i64 k ∧ ∃ R : Int, q = .int .i64 R ∧ 0 ≤ R ∧ (zss.length : Int) + (pre zss k : Nat) + R = left) (fun _ i => zss.length - (intOf i).toNat)
    case atStart => exact ⟨0, by omega, rfl, _, rfl, by omega, by rw [pre_zero]; omega⟩
    case round =>
      obtain ⟨k, hk, rfl, R, rfl, hR0, hR⟩ := hrel
      by_cases hlt : k < zss.length
      · obtain ⟨b, off, a1, p1, rfl, c1, r1⟩ := rows_some h.out hlt
        have hb := hr.out k hlt
        have hs := hS.out k hlt
        replace r1 := hid (r1)
        clear h hr hS
        have hRl : R ≤ 1000000000 := by omega
        generalize zss.getD k [] = z at *
        by_cases hneg : R - (z.length : Int) < 0
        · clear hR hs
          go_wp2_with (go_at_call 82; refine (szr _ _ _ _ r1.out hb hR0 hRl).mono ?_; rintro e w' ⟨rfl, rfl⟩; rw [if_pos hneg])
          go_ret
          exact ⟨_, rfl, .inl (by omega), rfl⟩
        · have hR2 : Hid ((zss.length : Int) + (pre zss (k + 1) : Nat) + (R - (z.length : Int)) = left) := by unfold Hid; omega
          clear hR hs
          go_wp2_with (go_at_call 82; refine (szr _ _ _ _ r1.out hb hR0 hRl).mono ?_; rintro e w' ⟨rfl, rfl⟩; rw [if_neg hneg])
          go_round
          case rel => exact ⟨k + 1, by omega, by go_num, _, rfl, by omega, hR2.out⟩
          case measure => simp [intOf]; omega
      · obtain rfl : k = zss.length := by omega
        replace hR := hid (hR)
        go_wp2
        go_ret
        exact ⟨_, rfl, .inr ⟨hR0, hR.out⟩, rfl⟩
end Go.Proofs.YtneagomkohoceabDoor
