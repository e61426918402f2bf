/- An act's text: the program. -/
import Derived.Test.YtneagomkohoceabDoorTxk
namespace Go.Proofs.YtneagomkohoceabDoor
open Go.ChangeShapes Go.WideShapes Go.ChangeAt Go.RowKit
set_option linter.unusedVariables false
set_option linter.unusedSimpArgs false

theorem either_impl (on : Bool) (x y : ByteArray) (w : World) : Calls Tryd.prog 112 #[.bool on, .string x, .string y] w fun e w' => e = .returned (.string (if on = true then x else y)) ∧ w' = w := by
  cases on
  all_goals
    go_enter Tryd.func112, Tryd.ntmps112
    go_wp2
    go_ret
    exact ⟨rfl, rfl⟩
theorem down_impl (d : Bool) (w : World) : Calls Tryd.prog 64 #[.bool d] w fun e w' => e = .returned (.string (downB d)) ∧ w' = w := by
  have h := hid (fun W => either_impl d ⟨#[100, 111, 119, 110]⟩ ⟨#[117, 112]⟩ W)
  have e : (if d = true then (⟨#[100, 111, 119, 110]⟩ : ByteArray) else ⟨#[117, 112]⟩) = downB d := rfl
  rw [e] at h
  clear e
  generalize downB d = D at *
  go_enter Tryd.func64, Tryd.ntmps64
  go_wp2_with (go_at_call 112; refine (h.out _).mono ?_; rintro e w' ⟨rfl, rfl⟩)
  go_ret
  exact ⟨rfl, rfl⟩
theorem acN_bd (k : Nat) : acN k = 0 ∨ acN k = 1 ∨ acN k = 2 := by
  unfold acN
  split
  · exact .inr (.inr rfl)
  · split
    · exact .inr (.inl rfl)
    · split
      · exact .inr (.inl rfl)
      · exact .inl rfl
theorem plact_R {W : World} {g X k a b : Nat} {d : Bool} (q : Blk W X (acA k a b d)) (h0 : W.cell? ⟨g, 0, none⟩ = some (.pointer (some ⟨X, 1, none⟩))) (h1 : W.cell? ⟨g, 1, none⟩ = some (.pointer (some ⟨X, 2, none⟩))) (ha : a < 1000) (hb : b < 1000) : PlR W (.slice (some ⟨g, 0, none⟩) (acN k) 2) (acNs k a b) := by
  have y1 : W.cell? ⟨X, 1, none⟩ = some (.int .i64 (a : Nat)) := q.cell 1
  have y2 : W.cell? ⟨X, 2, none⟩ = some (.int .i64 (b : Nat)) := q.cell 2
  refine ⟨some ⟨g, 0, none⟩, g, 2, by rw [acNs_len], fun _ => rfl, fun i hi => ?_⟩
  rw [acNs_len] at hi
  unfold acNs
  have hc : acN k ≤ 2 := by rcases acN_bd k with h | h | h <;> omega
  match i, hi with
  | 0, hi =>
    have e : ([a, b].take (acN k)).getD 0 0 = a := by
      rw [List.getD_eq_getElem?_getD, List.getElem?_take_of_lt hi]; rfl
    rw [e]
    exact ⟨X, 1, h0, y1, by omega⟩
  | 1, hi =>
    have e : ([a, b].take (acN k)).getD 1 0 = b := by
      rw [List.getD_eq_getElem?_getD, List.getElem?_take_of_lt hi]; rfl
    rw [e]
    exact ⟨X, 2, h1, y2, by omega⟩
  | i + 2, hi => omega
set_option maxRecDepth 100000 in
set_option maxHeartbeats 1000000 in
theorem act_impl (k a b : Int) (d : Bool) (w : World) (hF : AcFs w) (hT : PowT w) : Calls Tryd.prog 22 #[acV k a b d] w fun e w' => e = .returned (act2 k a b d) ∧ Below w.heap.size w w' := by
  have hb0 := hid ((Below.refl w.heap.size w).alloc (Nat.le_refl _) (.cells (acA k a b d) 68))
  have hq0 := hid (Blk.new w (acA k a b d) 68)
  replace hF := hid hF
  replace hT := hid hT
  cases hok : okAc k a b d
  · have e : act2 k a b d = .tuple #[.string ⟨#[]⟩, .int .i64 1] := by unfold act2; rw [hok]; rfl
    rw [e]
    clear e
    go_enter Tryd.func22, Tryd.ntmps22
    go_wp2_with fail
    refine (actok_impl _ _ _ _ _).mono ?_
    rintro e w1 ⟨rfl, hb⟩
    rw [hok]
    have hb1 := hid (new_trans hb0.out hb)
    clear hb hb0 hq0
    go_wp2
    go_ret2
    exact ⟨rfl, hb1.out⟩
  obtain ⟨b0, b1, b2, b3, b4, b5⟩ := okAc_bd hok
  obtain ⟨K, rfl⟩ : ∃ X : Nat, k = (X : Int) := ⟨k.toNat, by omega⟩
  obtain ⟨A, rfl⟩ : ∃ X : Nat, a = (X : Int) := ⟨a.toNat, by omega⟩
  obtain ⟨B, rfl⟩ : ∃ X : Nat, b = (X : Int) := ⟨b.toNat, by omega⟩
  have e : act2 K A B d = .tuple #[.string (lineB (actWs K A B d)), .int .i64 0] := by unfold act2; rw [hok, if_pos rfl, act_line K A B d (by omega) (by omega)]; rfl
  rw [e]
  clear e
  have hK9 : K < 9 := by omega
  have hP : Hid (∀ (V W : World), Blk V w.heap.size (acA K A B d) → Below V.heap.size V W → Calls Tryd.prog 63 #[.agg (afA (acW K) (acN K) (acDn K)), .pointer (some ⟨w.heap.size, 0, none⟩)] W fun r w' => ∃ v, r = .returned v ∧ PlR w' v (acNs K A B) ∧ Below W.heap.size W w') := fun V W q hb => (plact_impl (acW K) (acN K) (acDn K) w.heap.size W (acN_bd K)).mono (by
    rintro e w3 ⟨g, rfl, c0, c1, _, hb3⟩
    have q2 := q.below hb q.lt
    exact ⟨_, rfl, plact_R (q2.below hb3 q2.lt) c0 c1 (by omega) (by omega), hb3⟩)
  have hl2 : (acNs K A B).length ≤ 100 := by rw [acNs_len]; rcases acN_bd K with h | h | h <;> omega
  have hz : Hid (∀ x ∈ actWs K A B d, x.size ≤ 1000) := by
    intro x hx
    unfold actWs at hx
    rw [List.mem_append, List.mem_cons] at hx
    rcases hx with (rfl | hx) | hx
    · have := (acW_facts K hK9 (by omega)).1; omega
    · obtain ⟨n, hn, rfl⟩ := List.mem_map.1 hx
      have hn2 : n = A ∨ n = B := by
        have := List.mem_of_mem_take hn
        simpa using this
      exact Nat.le_trans (digB_size n (Nat.lt_of_lt_of_le (by omega : n < 1000) (by decide))) (by decide)
    · split at hx
      · rw [List.mem_singleton] at hx
        rw [hx]
        have := (downB_facts d).1
        omega
      · cases hx
  have hlen : Hid ((actWs K A B d).length ≤ 1000) := by
    unfold actWs Hid
    rw [List.length_append, List.length_cons, List.length_map]
    split <;> simp <;> omega
  have k0 : (0 : Int) ≤ (K : Int) := by omega
  have k1 : (K : Int) < 9 := by omega
  go_enter Tryd.func22, Tryd.ntmps22
  go_wp2_with fail
  refine (actok_impl _ _ _ _ _).mono ?_
  rintro e w1 ⟨rfl, hb⟩
  rw [hok]
  have hb1 := hid (new_trans hb0.out hb)
  have hq1 := hid (hq0.out.below hb hq0.out.lt)
  clear hb hb0 hq0 hok
  have x1 := hq1.out.cell
  have z1 := hq1.out.lt
  obtain ⟨y0, y1, y2⟩ := (hF.out.up hb1.out) K hK9
  go_upto_region 4 with fail
  clear x1 y0 y1 y2
  have q4 := hid (Blk.new w1 (afA (acW K) (acN K) (acDn K)) 109)
  have hV1 : Hid (Below w.heap.size w (w1.alloc (.cells (afA (acW K) (acN K) (acDn K)) 109))) := hb1.out.alloc hb1.out.size _
  have hqV := hid (hq1.out.alloc (.cells (afA (acW K) (acN K) (acDn K)) 109))
  generalize w1.alloc (.cells (afA (acW K) (acN K) (acDn K)) 109) = V at *
  refine ta_reg _ V _ w1.heap.size w.heap.size (acW K) (acN K) (acDn K) _ rfl rfl q4.out (hT.out.up hV1.out) hl2 (hid (fun W hb => hP.out V W hqV.out hb)) (by simp) ?_
  rintro W ⟨e1, e2, e3, e4⟩ ⟨hbW, hO⟩
  dsimp only at hO
  have hB2 := hid (new_trans hV1.out hbW)
  have hlo := hbW.size
  have q4W := hid (q4.out.below hbW q4.out.lt)
  have qXW := hid (hqV.out.below hbW hqV.out.lt)
  have hV2 := hid (hV1.out.size)
  have hVs : Hid (w.heap.size ≤ V.heap.size) := hV1.out.size
  obtain ⟨M, hM⟩ : ∃ M, (acNs K A B).map digB = M := ⟨_, rfl⟩
  have hML : M.length = (acNs K A B).length := by rw [← hM, List.length_map]
  rw [hM] at hO
  clear hbW hP hqV hV1 q4 hq1 hb1 hF hT
  simp only [putsA, Act.put, List.setIfInBounds_toArray, List.set_cons_zero, List.set_cons_succ]
  have x4 := q4W.out.cell
  have xX := qXW.out.cell
  cases hdn : acDn K
  · rw [hdn] at x4
    have hws : Hid (actWs K A B d = acW K :: M) := by unfold actWs Hid; rw [hdn, hM]; simp
    obtain ⟨g, c, rfl, hlo2, hglt, hcap, hcs⟩ := own_cells (ws := acW K :: M) (by simpa [hML, Nat.add_comm] using hO) (by simp)
    rw [hws.out] at hz hlen
    have hL := hid (line_impl g c (acW K :: M) W hcs hlen.out hz.out)
    clear hO hcs hz hlen
    generalize (acW K :: M).length = n at *
    go_wp2_with fail
    refine hL.out.mono ?_
    rintro e w3 ⟨rfl, hb3⟩
    have hB3 := hid (new_trans hB2.out hb3)
    clear hb3 hB2 hL
    go_wp2
    go_ret2
    exact ⟨by rw [hws.out]; rfl, hB3.out⟩
  · rw [hdn] at x4
    have hws : Hid (actWs K A B d = acW K :: M ++ [downB d]) := by unfold actWs Hid; rw [hdn, hM]; simp
    rw [hws.out] at hz hlen
    obtain ⟨i0, hi0, hz0, hz1, hz2⟩ := info_parts infoStr
    have hO2 : Hid (W.ownsRow V.heap.size 9 1 e4 (1 + (acNs K A B).length) ((acW K :: M).map Value.string)) := hO
    obtain ⟨g, c, rfl, hlo2, hglt⟩ := hO2.out.form (by omega)
    have hm100 : M.length ≤ 100 := by omega
    have hBg : Hid (∀ o w2, (W.alloc o).grownBy w2 (some g) → Below w.heap.size w w2) := fun o w2 hg => (hB2.out.alloc hB2.out.size o).grown hg (by have := hB2.out.size; simp; omega) (fun k hk => by cases hk; have := hVs.out; omega)
    clear hO
    go_wp2_with fail
    refine (down_impl _ _).mono ?_
    rintro e w' ⟨rfl, hww⟩
    obtain rfl := hww.symm
    go_wp2_with (at_builtin; refine wpList_append_lies _ rfl _ _ 48 rfl V.heap.size 9 i0 _ 1 16 Tryd.underlying48 hi0 hz0 hz1 hz2 rfl (by omega) _ (1 + (acNs K A B).length) ((acW K :: M).map Value.string) rfl (hO2.out.alloc _) ⟨_, 0, none⟩ 1 1 [.string (downB d)] rfl rfl (World.news_of_block (cs := #[.string (downB d)]) (t := 9) (fr := (0, 0)) (heap_alloc_new _ _)) (by simp [Value.oneCell']) (by omega) (by unfold maxLen; omega) (by omega) (by rw [World.size_alloc]; exact Nat.le_succ_of_le hlo) _ rfl ?_; intro g2 c2 w2 ho hg hat hlt2; have hB3 := hid (hBg.out _ _ hg); have hO3 := hid ho; clear ho hg hat hlt2 hO2 hBg hB2 x4 xX)
    obtain ⟨g', c', hv', hlo3, hglt3, hcap3, hcs3⟩ := own_cells (W := w2) (lo := V.heap.size) (ws := acW K :: M ++ [downB d]) (v := .slice (some ⟨g2, 0, none⟩) (1 + (acNs K A B).length + 1) c2) (by have := hO3.out; simpa [hML, Nat.add_comm, Nat.add_assoc, Nat.add_left_comm] using this) (by simp)
    injection hv' with e5 e6 e7
    obtain rfl : g2 = g' := by injection e5 with e8; injection e8
    subst e7
    have hL := hid (line_impl g2 c2 (acW K :: M ++ [downB d]) w2 hcs3 hlen.out hz.out)
    rw [← e6] at hL
    clear hcs3 hz hlen hO3
    refine hL.out.mono ?_
    rintro e w3 ⟨rfl, hb3⟩
    have hB4 := hid (new_trans hB3.out hb3)
    clear hb3 hB3 hL
    go_wp2
    go_ret2
    exact ⟨by rw [hws.out]; rfl, hB4.out⟩
end Go.Proofs.YtneagomkohoceabDoor
