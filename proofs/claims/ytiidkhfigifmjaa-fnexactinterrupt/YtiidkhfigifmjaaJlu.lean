/- What the exact laws' helpers over lists of cycles answer: equal lists are told equal, marks are held. -/
import Derived.Test.YtiidkhfigifmjaaU17
import Derived.Test.YtiidkhfigifmjaaMbu
import Derived.Deep.RegionWith
import Derived.Deep.Onto
import Derived.Deep.DrawnRows
import Derived.Deep.QuietTactic
namespace Go.Proofs.Ytiidkhfigifmjaa
open Go.ChangeShapes Go.WideShapes Go.ChangeAt Go.RowKit
set_option linter.unusedVariables false
set_option linter.unusedSimpArgs false

abbrev cyz : Nat × Nat × Nat := (0, 0, 0)
theorem cyV_at (l : List (Nat × Nat × Nat)) : ∀ (k : Nat), k < l.length → (cyV l)[k * 3]? = some (.int .i64 ((l.getD k cyz).1 : Int)) ∧ (cyV l)[k * 3 + 1]? = some (.int .i64 ((l.getD k cyz).2.1 : Int)) ∧ (cyV l)[k * 3 + 2]? = some (.int .i64 ((l.getD k cyz).2.2 : Int)) := by
  induction l with
  | nil => intro k hk; simp at hk
  | cons x t ih =>
    intro k hk
    have e : cyV (x :: t) = .int .i64 (x.1 : Int) :: .int .i64 (x.2.1 : Int) :: .int .i64 (x.2.2 : Int) :: cyV t := rfl
    cases k with
    | zero => exact ⟨rfl, rfl, rfl⟩
    | succ k =>
      have h := ih k (by simpa using hk)
      have e1 : (k + 1) * 3 = k * 3 + 1 + 1 + 1 := by omega
      rw [e, e1]
      simp only [List.getElem?_cons_succ, List.getD_cons_succ]
      exact h
theorem cyV_set (l : List (Nat × Nat × Nat)) : ∀ (k a b c : Nat), (((cyV l).set (k * 3) (.int .i64 (a : Int))).set (k * 3 + 1) (.int .i64 (b : Int))).set (k * 3 + 2) (.int .i64 (c : Int)) = cyV (l.set k (a, b, c)) := by
  induction l with
  | nil => intro k a b c; simp [cyV]
  | cons x t ih =>
    intro k a b c
    have e : ∀ y : Nat × Nat × Nat, ∀ t, cyV (y :: t) = .int .i64 (y.1 : Int) :: .int .i64 (y.2.1 : Int) :: .int .i64 (y.2.2 : Int) :: cyV t := fun _ _ => rfl
    cases k with
    | zero => rfl
    | succ k =>
      have e1 : (k + 1) * 3 = k * 3 + 1 + 1 + 1 := by omega
      have h := ih k a b c
      rw [e, e1]
      simp only [List.set_cons_succ]
      rw [h, e]
/-- a block that holds a row of cycles -/
def CyB (W : World) (g n cap : Nat) (xs : List Value) : Prop := ∃ cur, W.heap[g]? = some (.cells cur 64 (0, 0)) ∧ n ≤ cap ∧ cap ≤ maxLen ∧ cur.size = cap * 3 ∧ cur.toList.take (n * 3) = xs
theorem CyB.cell {W : World} {g n cap : Nat} {xs : List Value} (h : CyB W g n cap xs) (i : Nat) (hi : i < n * 3) : W.cell? ⟨g, i, none⟩ = xs[i]? := by
  obtain ⟨cur, hc, h1, h2, h3, h4⟩ := h
  rw [← h4, List.getElem?_take, if_pos hi]
  simp [World.cell?, hc]
theorem CyB.frozen {W : World} {g n cap : Nat} {xs : List Value} (h : CyB W g n cap xs) (i : Nat) : W.frozen? ⟨g, i, none⟩ = false := by
  obtain ⟨cur, hc, h1, h2, h3, h4⟩ := h
  simp [World.frozen?, hc]
theorem CyB.lt {W : World} {g n cap : Nat} {xs : List Value} (h : CyB W g n cap xs) : g < W.heap.size := by
  obtain ⟨cur, hc, _⟩ := h
  exact (Array.getElem?_eq_some_iff.1 hc).1
theorem CyB.set {W : World} {g n cap : Nat} {xs : List Value} (h : CyB W g n cap xs) (i : Nat) (u : Value) : CyB (W.setCell ⟨g, i, none⟩ u) g n cap (xs.set i u) := by
  obtain ⟨cur, hc, h1, h2, h3, h4⟩ := h
  refine ⟨cur.setIfInBounds i u, heap_setCell_same' _ _ _ _ _ _ hc, h1, h2, by simpa using h3, ?_⟩
  rw [← h4, ← List.take_set, Array.toList_setIfInBounds]
theorem CyO.form {W : World} {v : Value} {l : List (Nat × Nat × Nat)} (h : CyO W v l) : (v = .slice none 0 0 ∧ l = []) ∨ ∃ g cap, v = .slice (some ⟨g, 0, none⟩) l.length cap ∧ CyB W g l.length cap (cyV l) := by
  rcases h.2 with ⟨rfl, e⟩ | ⟨g, cap, cur, rfl, _, hc, h1, h2, h3, h4⟩
  · exact .inl ⟨rfl, List.eq_nil_of_length_eq_zero e⟩
  · exact .inr ⟨g, cap, rfl, cur, hc, h1, h2, h3, h4⟩
theorem CyO.of {W : World} {g cap : Nat} {l : List (Nat × Nat × Nat)} (h : CyB W g l.length cap (cyV l)) : CyO W (.slice (some ⟨g, 0, none⟩) l.length cap) l := by
  obtain ⟨cur, hc, h1, h2, h3, h4⟩ := h
  exact ⟨cyV_len l, .inr ⟨g, cap, cur, rfl, Nat.zero_le _, hc, h1, h2, h3, h4⟩⟩
theorem CyO.slice {W : World} {v : Value} {l : List (Nat × Nat × Nat)} (h : CyO W v l) : ∃ a cap, v = .slice a l.length cap := by
  rcases h.form with ⟨rfl, rfl⟩ | ⟨g, cap, rfl, _⟩
  · exact ⟨none, 0, rfl⟩
  · exact ⟨_, _, rfl⟩
theorem CyO.some {W : World} {a : Option Addr} {n cap : Nat} {l : List (Nat × Nat × Nat)} (h : CyO W (.slice a n cap) l) {k : Nat} (hk : k < l.length) :
    ∃ g, a = some ⟨g, 0, none⟩ ∧ n = l.length ∧ W.cell? ⟨g, k * 3, none⟩ = some (.int .i64 ((l.getD k cyz).1 : Int)) ∧ W.cell? ⟨g, k * 3 + 1, none⟩ = some (.int .i64 ((l.getD k cyz).2.1 : Int)) ∧ W.cell? ⟨g, k * 3 + 2, none⟩ = some (.int .i64 ((l.getD k cyz).2.2 : Int)) := by
  rcases h.form with ⟨_, rfl⟩ | ⟨g, cap', e, hB⟩
  · simp at hk
  · injection e with e1 e2 e3
    obtain ⟨k1, k2, k3⟩ := cyV_at l k hk
    exact ⟨g, e1, e2, by rw [hB.cell _ (by omega)]; exact k1, by rw [hB.cell _ (by omega)]; exact k2, by rw [hB.cell _ (by omega)]; exact k3⟩
set_option maxRecDepth 100000 in
theorem eqcy_yes (x y z : Int) (w : World) : Calls Try.prog 46 #[.agg #[.int .i64 x, .int .i64 y, .int .i64 z], .agg #[.int .i64 x, .int .i64 y, .int .i64 z]] w fun e w' => e = .returned (.bool true) ∧ Below w.heap.size w w' := by
  go_enter Try.func46, Try.ntmps46
  go_wp2
  go_ret
  exact ⟨rfl, ((Below.refl _ _).alloc (Nat.le_refl _) _).alloc (by simp) _⟩
set_option maxRecDepth 100000 in
set_option maxHeartbeats 1000000 in
theorem eqcs_yes (v v' : Value) (l : List (Nat × Nat × Nat)) (w : World) (h : CyO w v l) (h' : CyO w v' l) (hl : l.length ≤ 1000000) :
    Calls Try.prog 17 #[v, v'] w fun e w' => e = .returned (.bool true) ∧ Below w.heap.size w w' := by
  obtain ⟨a, cap, rfl⟩ := h.slice
  obtain ⟨a', cap', rfl⟩ := h'.slice
  have hK : Hid (∀ W', Below w.heap.size w W' → CyO W' (.slice a l.length cap) l ∧ CyO W' (.slice a' l.length cap') l) := fun W' hb => ⟨h.kept (fun b hb' => hb.block b (h.lt b hb').2), h'.kept (fun b hb' => hb.block b (h'.lt b hb').2)⟩
  clear h h'
  go_enter Try.func17, Try.ntmps17
  go_wp2
  go_loopw [5] (fun i wr => ∃ k : Nat, k ≤ l.length ∧ i = .int .i64 k ∧ Below w.heap.size w wr) (fun i _ => l.length - (intOf i).toNat)
  case atStart => exact ⟨0, by omega, rfl, Below.refl _ _⟩
  case round =>
    obtain ⟨k, hk, rfl, hB⟩ := hrel
    by_cases hlt : k < l.length
    · obtain ⟨g, rfl, _, c1, c2, c3⟩ := (hK.out _ hB).1.some hlt
      obtain ⟨g', rfl, _, d1, d2, d3⟩ := (hK.out _ hB).2.some hlt
      clear hK
      replace hB := hid hB
      generalize (l.getD k cyz).1 = x1 at *
      generalize (l.getD k cyz).2.1 = x2 at *
      generalize (l.getD k cyz).2.2 = x3 at *
      go_wp2_with fail
      have hD : Hid (Below w.heap.size w wr.drew) := hB.out.drew
      go_region_with (go_at_call 46; refine (eqcy_yes _ _ _ _).mono ?_; rintro e w1 ⟨rfl, hb1⟩; have hB1 := hid (new_trans hD.out hb1); clear hb1)
      all_goals
        go_wp2
        go_roundw
        case rel => exact ⟨k + 1, by omega, by go_num, hB1.out⟩
        case measure => simp [intOf]; omega
    · obtain rfl : k = l.length := by omega
      replace hB := hid hB
      clear hK
      go_wp2
      go_ret
      exact ⟨rfl, hB.out⟩
/-- the first k cycles are marked -/
def mkC (l : List (Nat × Nat × Nat)) (m k : Nat) : List (Nat × Nat × Nat) := (List.range l.length).map fun i => if i < k then (m + 3 * i, m + 3 * i + 1, m + 3 * i + 2) else l.getD i cyz
def markC (m n : Nat) : List (Nat × Nat × Nat) := (List.range n).map fun i => (m + 3 * i, m + 3 * i + 1, m + 3 * i + 2)
theorem mkC_len (l : List (Nat × Nat × Nat)) (m k : Nat) : (mkC l m k).length = l.length := by simp [mkC]
theorem markC_len (m n : Nat) : (markC m n).length = n := by simp [markC]
theorem markC_at (m n i : Nat) (h : i < n) : (markC m n).getD i cyz = (m + 3 * i, m + 3 * i + 1, m + 3 * i + 2) := by
  simp [markC, List.getD_eq_getElem?_getD, List.getElem?_range h]
theorem mkC_zero (l : List (Nat × Nat × Nat)) (m : Nat) : mkC l m 0 = l := by
  apply List.ext_getElem (mkC_len _ _ _)
  intro i h1 h2
  simp [mkC, List.getD_eq_getElem?_getD, List.getElem?_eq_getElem h2]
theorem mkC_all (l : List (Nat × Nat × Nat)) (m : Nat) : mkC l m l.length = markC m l.length := by
  unfold mkC markC
  apply List.map_congr_left
  intro i hi
  rw [if_pos (List.mem_range.1 hi)]
theorem mkC_succ (l : List (Nat × Nat × Nat)) (m k : Nat) (hk : k < l.length) : (mkC l m k).set k (m + 3 * k, m + 3 * k + 1, m + 3 * k + 2) = mkC l m (k + 1) := by
  apply List.ext_getElem (by rw [List.length_set, mkC_len, mkC_len])
  intro i h1 h2
  rw [mkC_len] at h2
  by_cases e : k = i
  · subst e
    rw [List.getElem_set_self]
    simp [mkC]
  · rw [List.getElem_set_ne e]
    simp only [mkC, List.getElem_map, List.getElem_range]
    by_cases h : i < k
    · rw [if_pos h, if_pos (by omega)]
    · rw [if_neg h, if_neg (by omega)]
/-- a cell of a row is written -/
theorem cyb_grown {W : World} {g i : Nat} {u : Value} : W.grownBy (W.setCell ⟨g, i, none⟩ u) (some g) := set_grown W g i u
theorem cyb_three {W : World} {g cap m k : Nat} {l : List (Nat × Nat × Nat)} (h : CyB W g l.length cap (cyV (mkC l m k))) (hk : k < l.length) (a b c : Int) (ha : a = (m + 3 * k : Nat)) (hb : b = (m + 3 * k + 1 : Nat)) (hc : c = (m + 3 * k + 2 : Nat)) :
    CyB (((W.setCell ⟨g, k * 3, none⟩ (.int .i64 a)).setCell ⟨g, k * 3 + 1, none⟩ (.int .i64 b)).setCell ⟨g, k * 3 + 2, none⟩ (.int .i64 c)) g l.length cap (cyV (mkC l m (k + 1))) := by
  have q := ((h.set (k * 3) (.int .i64 a)).set (k * 3 + 1) (.int .i64 b)).set (k * 3 + 2) (.int .i64 c)
  rw [ha, hb, hc, cyV_set, mkC_succ l m k hk] at q
  rw [ha, hb, hc]
  exact q
theorem grown_three {w W : World} {g : Nat} (h : w.grownBy W (some g)) (i j k : Nat) (a b c : Value) : w.grownBy (((W.setCell ⟨g, i, none⟩ a).setCell ⟨g, j, none⟩ b).setCell ⟨g, k, none⟩ c) (some g) :=
  grown_set1 (grown_set1 (grown_set1 h))
set_option maxRecDepth 100000 in
set_option maxHeartbeats 1000000 in
theorem markc (v : Value) (m : Nat) (l : List (Nat × Nat × Nat)) (w : World) (h : CyO w v l) (hl : l.length ≤ 1000000) (hm : m ≤ 1000000000) :
    Calls Try.prog 19 #[v, .int .i64 (m : Int)] w fun e w' => e = .returned (.int .i64 ((m + 3 * l.length : Nat) : Int)) ∧ CyO w' v (markC m l.length) ∧ w.grownBy w' v.ownBlock := by
  rcases h.form with ⟨rfl, rfl⟩ | ⟨g, cap, rfl, hB⟩
  · replace h := hid h
    go_enter Try.func19, Try.ntmps19
    go_wp2
    go_loop [1, 5] (fun q i => q = .int .i64 (m : Int) ∧ i = .int .i64 0) (fun _ i => 0)
    case atStart => exact ⟨rfl, rfl⟩
    case round =>
      obtain ⟨rfl, rfl⟩ := hrel
      go_wp2
      go_ret
      exact ⟨rfl, h.out, World.grownBy.refl _ _⟩
  · have h0 : Hid (CyB w g l.length cap (cyV (mkC l m 0))) := by rw [mkC_zero]; exact hB
    have hall : Hid (∀ W, CyB W g l.length cap (cyV (mkC l m l.length)) → CyO W (.slice (some ⟨g, 0, none⟩) l.length cap) (markC m l.length)) := fun W hW => by
      rw [mkC_all] at hW
      have := CyO.of (l := markC m l.length) (g := g) (cap := cap) (W := W) (by rw [markC_len]; exact hW)
      rw [markC_len] at this
      exact this
    clear h hB
    go_enter Try.func19, Try.ntmps19
    go_wp2
    go_loopw [1, 5] (fun q i wr => ∃ k : Nat, k ≤ l.length ∧ i = .int .i64 k ∧ q = .int .i64 ((m + 3 * k : Nat) : Int) ∧ CyB wr g l.length cap (cyV (mkC l m k)) ∧ w.grownBy wr (some g)) (fun _ i _ => l.length - (intOf i).toNat)
    case atStart => exact ⟨0, by omega, rfl, rfl, h0.out, World.grownBy.refl _ _⟩
    case round =>
      obtain ⟨k, hk, rfl, rfl, hM, hG⟩ := hrel
      by_cases hlt : k < l.length
      · obtain ⟨x1, hx1⟩ : ∃ x, wr.cell? ⟨g, k * 3, none⟩ = some x := ⟨_, by rw [hM.cell _ (by omega)]; exact (cyV_at (mkC l m k) k (by rw [mkC_len]; exact hlt)).1⟩
        obtain ⟨x2, hx2⟩ : ∃ x, wr.cell? ⟨g, k * 3 + 1, none⟩ = some x := ⟨_, by rw [hM.cell _ (by omega)]; exact (cyV_at (mkC l m k) k (by rw [mkC_len]; exact hlt)).2.1⟩
        obtain ⟨x3, hx3⟩ : ∃ x, wr.cell? ⟨g, k * 3 + 2, none⟩ = some x := ⟨_, by rw [hM.cell _ (by omega)]; exact (cyV_at (mkC l m k) k (by rw [mkC_len]; exact hlt)).2.2⟩
        have hfr := hM.frozen
        have hz := hM.lt
        obtain ⟨q, hq⟩ : ∃ q : Int, ((m + 3 * k : Nat) : Int) = q := ⟨_, rfl⟩
        have hN := hid (cyb_three hM hlt q (q + 1) (q + 1 + 1) (by omega) (by omega) (by omega))
        have hG2 := hid (grown_three hG (k * 3) (k * 3 + 1) (k * 3 + 2) (.int .i64 q) (.int .i64 (q + 1)) (.int .i64 (q + 1 + 1)))
        have hq0 : 0 ≤ q ∧ q ≤ 2000000000 := by omega
        have hq1 : Hid (q + 3 = ((m + 3 * (k + 1) : Nat) : Int)) := by unfold Hid; omega
        rw [hq]
        clear hq hM hG
        go_wp2
        go_roundw
        case rel => exact ⟨k + 1, by omega, by go_num, by rw [← hq1.out]; go_num, hN.out, hG2.out⟩
        case measure => simp [intOf]; omega
      · obtain rfl : k = l.length := by omega
        replace hM := hid hM
        replace hG := hid hG
        go_wp2
        go_ret
        exact ⟨rfl, hall.out _ hM.out, hG.out⟩
set_option maxRecDepth 100000 in
set_option maxHeartbeats 1000000 in
theorem heldc (v : Value) (m n : Nat) (w : World) (h : CyO w v (markC m n)) (hl : n ≤ 1000000) (hm : m ≤ 1000000000) :
    Calls Try.prog 21 #[v, .int .i64 (m : Int)] w fun e w' => e = .returned (.int .i64 ((m + 3 * n : Nat) : Int)) ∧ w' = w := by
  have hL := markC_len m n
  obtain ⟨a, cap, rfl⟩ := h.slice
  have hAt : Hid (∀ k, k < n → ∃ g, a = some ⟨g, 0, none⟩ ∧ w.cell? ⟨g, k * 3, none⟩ = some (.int .i64 ((m + 3 * k : Nat) : Int)) ∧ w.cell? ⟨g, k * 3 + 1, none⟩ = some (.int .i64 ((m + 3 * k + 1 : Nat) : Int)) ∧ w.cell? ⟨g, k * 3 + 2, none⟩ = some (.int .i64 ((m + 3 * k + 2 : Nat) : Int))) := fun k hk => by
    obtain ⟨g, e, _, c1, c2, c3⟩ := h.some (k := k) (by rw [hL]; exact hk)
    rw [markC_at m n k hk] at c1 c2 c3
    exact ⟨g, e, c1, c2, c3⟩
  rw [hL]
  clear h hL
  go_enter Try.func21, Try.ntmps21
  go_wp2
  go_loop [1, 5] (fun q i => ∃ k : Nat, k ≤ n ∧ i = .int .i64 k ∧ q = .int .i64 ((m + 3 * k : Nat) : Int)) (fun _ i => n - (intOf i).toNat)
  case atStart => exact ⟨0, by omega, rfl, rfl⟩
  case round =>
    obtain ⟨k, hk, rfl, rfl⟩ := hrel
    by_cases hlt : k < n
    · obtain ⟨g, rfl, c1, c2, c3⟩ := hAt.out k hlt
      obtain ⟨q, hq⟩ : ∃ q : Int, ((m + 3 * k : Nat) : Int) = q := ⟨_, rfl⟩
      have e2 : ((m + 3 * k + 1 : Nat) : Int) = q + 1 := by omega
      have e3 : ((m + 3 * k + 2 : Nat) : Int) = q + 1 + 1 := by omega
      rw [hq] at c1
      rw [e2] at c2
      rw [e3] at c3
      have hq0 : 0 ≤ q ∧ q ≤ 2000000000 := by omega
      have hq1 : Hid (q + 3 = ((m + 3 * (k + 1) : Nat) : Int)) := by unfold Hid; omega
      rw [hq]
      clear hq e2 e3 hAt
      go_wp2
      go_round
      case rel => exact ⟨k + 1, by omega, by go_num, by rw [← hq1.out]; go_num⟩
      case measure => simp [intOf]; omega
    · obtain rfl : k = n := by omega
      clear hAt
      go_wp2
      go_ret
      exact ⟨rfl, rfl⟩
end Go.Proofs.Ytiidkhfigifmjaa
