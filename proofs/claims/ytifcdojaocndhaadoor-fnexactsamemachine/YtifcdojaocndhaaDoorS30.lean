/- What the program says of a sound chip that is right, and of a new one; its table of registers' bits. -/
import Derived.Test.YtifcdojaocndhaaDoorS08
import Derived.LaidMore
import Derived.OpenShut
import Derived.Stop.Joined
import Derived.Test.YtifcdojaocndhaaDoorS18
namespace Go.Proofs.YtifcdojaocndhaaDoor
open Go.ChangeShapes Go.WideShapes Go.ChangeAt Go.RowKit
set_option linter.unusedVariables false
set_option linter.unusedSimpArgs false

/-- the table of the bits that registers have, in its block -/
def PBit (w : World) : Prop := ∀ i, i < 8 → w.cell? ⟨0, i, none⟩ = some (.int .i64 (maskN i : Nat))
theorem cell_keptY {W W' : World} {b i : Nat} {v : Value} (hb : Below W.heap.size W W') (h : W.cell? ⟨b, i, none⟩ = some v) : W'.cell? ⟨b, i, none⟩ = some v := by
  have hlt : b < W.heap.size := by
    by_cases h1 : b < W.heap.size
    · exact h1
    · exfalso
      have : W.heap[b]? = none := by simp; omega
      simp [World.cell?, this] at h
  rw [hb.cell (p := ⟨b, i, none⟩) hlt]
  exact h
theorem PBit.below {w w' : World} (h : PBit w) (hb : Below w.heap.size w w') : PBit w' := fun i hi => cell_keptY hb (h i hi)
theorem PBit.lt {w : World} (h : PBit w) : 0 < w.heap.size := by
  by_cases h1 : 0 < w.heap.size
  · exact h1
  · exfalso
    have h0 := h 0 (by omega)
    have : w.heap[0]? = none := by simp only [Array.getElem?_eq_none_iff]; omega
    simp [World.cell?, this] at h0
theorem PBit.alloc {w : World} (h : PBit w) (o : Obj) : PBit (w.alloc o) := h.below ((Below.refl _ _).alloc (Nat.le_refl _) o)
theorem PBit.drew {w : World} (h : PBit w) : PBit w.drew := h.below (Below.refl _ _).drew
theorem gPB : Tryd.prog.globalNamed "loop.example/g00644/impl.psgBits" = some 0 := by kernel_rfl
theorem tPB : (Tryd.prog.globals[0]?).map (·.type) = some 24 := by kernel_rfl
theorem pbit_of {W : World} (h : laidMetH Tryd.prog [("loop.example/g00644/impl.psgBits", Rows.laid_loop_example_g00644_impl_psgBits)] W) : PBit W := by
  rw [MakeChecks.laidMetH_plain _ _ _ (by kernel_rfl)] at h
  obtain ⟨ps, ⟨g0, t0, cs0, f0, p0, q0, hg0, ht0, hv0, hd0, _⟩, _⟩ := h
  obtain rfl := Option.some.inj (gPB.symm.trans hg0)
  obtain rfl := Option.some.inj (tPB.symm.trans ht0)
  obtain ⟨xs, m1, rfl, hx1, hlen, hn, hel⟩ := DataW.trod_array Tryd.underlying24 hd0
  have c1 : Tryd.prog.cellsOf 3 = 1 := by kernel_rfl
  have hd : xs.map (·.1) = [(.lit (.int .i64 255) : DataW Unit), .lit (.int .i64 255), .lit (.int .i64 31), .lit (.int .i64 15), .lit (.int .i64 31), .lit (.int .i64 31), .lit (.int .i64 255), .lit (.int .i64 3)] := by
    have := congrArg Prod.fst hx1
    simp only [Rows.laid_loop_example_g00644_impl_psgBits, DataW.agg.injEq] at this
    exact this.symm
  have key : ∀ i (hi : i < 8) (z : Int), (xs.map (·.1))[i]? = some (DataW.lit (.int .i64 z) : DataW Unit) → W.cell? ⟨0, i, none⟩ = some (.int .i64 z) := by
    intro i hi z hz
    have h0 := hel i hi
    rw [c1, Nat.mul_one] at h0
    have hxi : xs[i]? = some xs[i] := List.getElem?_eq_getElem (by omega)
    rw [hxi] at h0
    obtain ⟨n, e1, e2, _⟩ := DataW.trod_int Tryd.underlying3 h0
    have hcs : cs0[i]? = some (.int .i64 n) := by
      have := congrArg (·[0]?) e1
      simpa [List.getElem?_take, List.getElem?_drop] using this
    rw [World.var?_cell gPB hv0 i, hcs]
    rw [List.getElem?_map, hxi, e2] at hz
    simp at hz
    rw [hz]
  intro i hi
  have h8 : i = 0 ∨ i = 1 ∨ i = 2 ∨ i = 3 ∨ i = 4 ∨ i = 5 ∨ i = 6 ∨ i = 7 := by omega
  rcases h8 with rfl | rfl | rfl | rfl | rfl | rfl | rfl | rfl
  all_goals exact key _ (by omega) _ (by rw [hd]; rfl)
theorem iswS_impl (n a b : Int) (w : World) : Calls Tryd.prog 114 #[.int .i64 n, .int .i64 a, .int .i64 b] w fun e w' => e = .returned (.bool (inB n a b)) ∧ w' = w := by
  go_enter Tryd.func114, Tryd.ntmps114
  go_wp2
  all_goals go_ret
  all_goals exact ⟨ret_bool (by rw [Bool.eq_iff_iff]; simp [inB]; try omega), rfl⟩
theorem isbS_impl (n : Int) (w : World) : Calls Tryd.prog 68 #[.int .i64 n] w fun e w' => e = .returned (.bool (inB n 0 255)) ∧ w' = w := by
  go_enter Tryd.func68, Tryd.ntmps68
  go_wp2
  all_goals go_ret
  all_goals exact ⟨ret_bool (by rw [Bool.eq_iff_iff]; simp [inB]; try omega), rfl⟩
theorem areS_impl (n m : Int) (w : World) : Calls Tryd.prog 116 #[.int .i64 n, .int .i64 m] w fun e w' => e = .returned (.bool (inB n 0 255 && inB m 0 255)) ∧ w' = w := by
  cases h1 : inB n 0 255
  · go_enter Tryd.func116, Tryd.ntmps116
    go_wp2_with (go_at_call 68; refine (isbS_impl _ _).mono ?_; rintro e w' ⟨rfl, rfl⟩; rw [h1])
    go_ret
    exact ⟨rfl, rfl⟩
  · go_enter Tryd.func116, Tryd.ntmps116
    go_wp2_with (go_at_call 68; refine (isbS_impl _ _).mono ?_; rintro e w' ⟨rfl, rfl⟩; try rw [h1])
    go_ret
    exact ⟨ret_bool (by simp), rfl⟩
theorem sgr_at (c : Sg) (k : Nat) (hk : k < 8) (w : World) : (Instr.index 24 (.agg #[.int .i64 c.r0, .int .i64 c.r1, .int .i64 c.r2, .int .i64 c.r3, .int .i64 c.r4, .int .i64 c.r5, .int .i64 c.r6, .int .i64 c.r7]) (.int .i64 (k : Int))).run Tryd.prog w = .ok (.int .i64 (c.reg k)) w := by
  rcases (by omega : k = 0 ∨ k = 1 ∨ k = 2 ∨ k = 3 ∨ k = 4 ∨ k = 5 ∨ k = 6 ∨ k = 7) with rfl | rfl | rfl | rfl | rfl | rfl | rfl | rfl <;> kernel_rfl
set_option maxRecDepth 100000 in
set_option maxHeartbeats 4000000 in
theorem sok_impl (c : Sg) (w : World) (hP : PBit w) : Calls Tryd.prog 111 #[sgV c] w fun e w' => e = .returned (.bool (okS c)) ∧ Below w.heap.size w w' := by
  have hno : Hid (∀ k, k < 8 → inB (c.reg k) 0 (maskN k : Nat) = false → okS c = false) := fun k hk => sreg_no hk
  have hall : Hid ((∀ i, i < 8 → inB (c.reg i) 0 (maskN i : Nat) = true) → okS c = (inB c.sel 0 7 && inB c.c0 0 255 && inB c.c1 0 255 && inB c.noise 0 31 && inB c.shift 1 131071 && inB c.env 0 31 && inB c.ec 0 255)) := fun h => by unfold okS; rw [sreg_all h, Bool.true_and]
  have hB := hid ((Below.refl w.heap.size w).alloc (Nat.le_refl _) (.cells (sgA c) 36))
  have q1 := (Blk.new w (sgA c) 36).cell
  have hP1 := hid (hP.alloc (.cells (sgA c) 36))
  clear hP
  have hix := hid (sgr_at c)
  obtain ⟨Q, hQ⟩ : ∃ Q, okS c = Q := ⟨_, rfl⟩
  rw [hQ] at hno hall ⊢
  clear hQ
  go_enter Tryd.func111, Tryd.ntmps111
  go_upto_region 1 with fail
  obtain ⟨V, hV⟩ : ∃ V, w.alloc (Obj.cells (sgA c) 36) = V := ⟨_, rfl⟩
  rw [hV] at hB q1 hP1 ⊢
  clear hV
  go_wp2
  go_loop [7] (fun i => ∃ k : Nat, k ≤ 8 ∧ i = .int .i64 k ∧ ∀ j, j < k → inB (c.reg j) 0 (maskN j : Nat) = true) (fun i => 8 - (intOf i).toNat)
  case atStart => exact ⟨0, by omega, rfl, fun j hj => by omega⟩
  case round =>
    obtain ⟨k, hk, rfl, hj⟩ := hrel
    by_cases hlt : k < 8
    · have i1 := hix.out k hlt
      have x1 := hP1.out k hlt
      cases hb : inB (c.reg k) 0 (maskN k : Nat)
      · have hE := hid (hno.out k hlt hb)
        clear hj hno hall hk
        generalize c.reg k = y at *
        generalize maskN k = m at *
        go_wp2_with (go_at_call 114; refine (iswS_impl _ _ _ _).mono ?_; rintro e w' ⟨rfl, rfl⟩; rw [hb])
        go_ret
        exact ⟨ret_bool hE.out.symm, hB.out⟩
      · have hj2 : Hid (∀ j, j < k + 1 → inB (c.reg j) 0 (maskN j : Nat) = true) := fun j hj1 => by
          by_cases e : j = k
          · rw [e]; exact hb
          · exact hj j (by omega)
        clear hj hno hall hk
        generalize c.reg k = y at *
        generalize maskN k = m at *
        go_wp2_with (go_at_call 114; refine (iswS_impl _ _ _ _).mono ?_; rintro e w' ⟨rfl, rfl⟩; rw [hb])
        go_round
        case rel => exact ⟨k + 1, by omega, by go_num, hj2.out⟩
        case measure => simp [intOf]; omega
    · obtain rfl : k = 8 := by omega
      have hE := hall.out hj
      clear hj hno hall hk hlt hix
      replace hE := hid hE
      go_wp2_with (first | (go_at_call 114; refine (iswS_impl _ _ _ _).mono ?_; rintro e w' ⟨rfl, hww⟩; obtain rfl := hww.symm) | (go_at_call 68; refine (isbS_impl _ _).mono ?_; rintro e w' ⟨rfl, hww⟩; obtain rfl := hww.symm) | (go_at_call 116; refine (areS_impl _ _ _).mono ?_; rintro e w' ⟨rfl, hww⟩; obtain rfl := hww.symm))
      all_goals go_ret
      all_goals exact ⟨ret_bool (by rw [hE.out]; simp_all), hB.out⟩
set_option maxRecDepth 100000 in
theorem newsg_impl (w : World) (hP : PBit w) : Calls Tryd.prog 34 #[] w fun e w' => e = .returned (sgV neS) ∧ Below w.heap.size w w' := by
  have hs := two_in (w := w) (sgA zeS) (sgA neS) 36 36
  have hl := hP.lt
  have hl2 : 0 < w.heap.size + 1 := by omega
  have x3 : w.cell? ⟨0, 3, none⟩ = some (.int .i64 15) := hP 3 (by omega)
  clear hP
  obtain ⟨C, hC⟩ : ∃ C, neS = C := ⟨_, rfl⟩
  have hCV : Hid (sgV neS = sgV C) := by rw [hC]; rfl
  rw [hCV.out]
  go_enter Tryd.func34, Tryd.ntmps34
  go_upto_region 3 with fail
  obtain ⟨V, hV⟩ : ∃ V, (w.alloc (.cells (sgA zeS) 36)).alloc (.cells (sgA neS) 36) = V := ⟨_, rfl⟩
  rw [hV] at hs ⊢
  clear hV x3 hl hl2
  have hr := hid (sg_range hs.2.1)
  have hth := hid (sg_there hs.1 neS)
  have hB := hid hs.2.2
  obtain ⟨tt, ht⟩ := sg_laid hs.1 neS
  replace ht := hid ht
  clear hs
  rw [hC] at hr hth ht
  clear hC
  go_wp2_with (first | (refine wpList_load_mid rfl 36 _ rfl (w.heap.size + 1) 0 rfl (sgA C).toList _ hr.out Tryd.underlying36 rfl (sg_size C) ?_) | (refine wpList_store_mid rfl 36 _ _ rfl w.heap.size 0 (sgA C) rfl rfl hth.out (sg_size C) (sg_one C) ?_))
  exact bodyPost_ret (v := sgV C) (results_cell_row Tryd.results34 _ _ w.heap.size tt (sgA C) (0, 0) _ rfl ht.out Tryd.underlying36 rfl (sg_size C)) rfl ⟨rfl, lay_below _ _ _ (Nat.le_refl _) hB.out⟩
/-- what all calls with a number ask first -/
def faultS (c : Sg) (v most : Int) : Int := if okS c = true then (if inB v 0 most = true then 0 else 4) else 1
end Go.Proofs.YtifcdojaocndhaaDoor

/- What the program's frame answers: where a T stands, its waits, its fetches; the two patterns being in their blocks. -/
namespace Go.Proofs.YtifcdojaocndhaaDoor
open Go.ChangeShapes Go.WideShapes Go.ChangeAt Go.RowKit
set_option linter.unusedVariables false

theorem scr_row (t : Int) : inB (t / 32 - 4) 0 7 = inB (t / 32) 4 11 := by
  unfold inB
  rw [decide_eq_decide]
  omega
theorem wi_impl (n a b : Int) (w : World) : Calls Tryd.prog 114 #[.int .i64 n, .int .i64 a, .int .i64 b] w fun e w' => e = .returned (.bool (inB n a b)) ∧ w' = w := by
  go_enter Tryd.func114, Tryd.ntmps114
  go_wp2
  all_goals go_ret
  all_goals exact ⟨ret_bool (by rw [Bool.eq_iff_iff]; simp [inB]; try omega), rfl⟩
theorem frame_impl (t : Int) (w : World) : Calls Tryd.prog 113 #[.int .i64 t] w fun e w' => e = .returned (.bool (inB t 0 639)) ∧ w' = w := by
  go_enter Tryd.func113, Tryd.ntmps113
  go_wp2_with (go_at_call 114; refine (wi_impl _ _ _ _).mono ?_; rintro e w' ⟨rfl, rfl⟩)
  go_ret
  exact ⟨rfl, rfl⟩
theorem place_impl (t : Int) (w : World) (h0 : 0 ≤ t) (h1 : t ≤ 639) : Calls Tryd.prog 149 #[.int .i64 t] w fun e w' => e = .returned (.tuple #[.int .i64 (t / 32 - 4), .int .i64 (t % 32), .bool (scrI t)]) ∧ w' = w := by
  cases h : inB (t / 32) 4 11
  all_goals
    have hr := scr_row t
    rw [h] at hr
    go_enter Tryd.func149, Tryd.ntmps149
    go_wp2_with (go_at_call 114; refine (wi_impl _ _ _ _).mono ?_; rintro e w' ⟨rfl, rfl⟩; rw [hr])
    go_ret3
    exact ⟨by simp [scrI, h], rfl⟩
/-- the pattern of waits lies in its block -/
def Pat (w : World) : Prop := ∀ i : Nat, i < 8 → w.cell? ⟨2, i, none⟩ = some (.int .i64 (max 0 (6 - (i : Int))))
theorem pat_below {w w' : World} (h : Pat w) (hb : Below w.heap.size w w') : Pat w' := by
  intro i hi
  have h1 := h i hi
  have h2 := World.block_lt_of_cell? w _ h1
  rw [hb.cell (p := ⟨2, i, none⟩) h2]
  exact h1
theorem waitof_impl (t : Int) (w : World) (h0 : 0 ≤ t) (h1 : t ≤ 639) (hP : Pat w) : Calls Tryd.prog 118 #[.int .i64 t] w fun e w' => e = .returned (.int .i64 (waitI t)) ∧ w' = w := by
  cases h : scrI t
  · have e : waitI t = 0 := by unfold waitI; rw [if_neg (by rw [h]; decide)]
    rw [e]
    clear e
    go_enter Tryd.func118, Tryd.ntmps118
    go_wp2_with (go_at_call 149; refine (place_impl _ _ h0 h1).mono ?_; rintro e w' ⟨rfl, rfl⟩; rw [h])
    go_ret
    exact ⟨rfl, rfl⟩
  · obtain ⟨k, hk, hk8⟩ : ∃ k : Nat, t % 32 % 8 = (k : Int) ∧ k < 8 := ⟨(t % 32 % 8).toNat, by omega, by omega⟩
    have e : waitI t = max 0 (6 - (k : Int)) := by unfold waitI; rw [if_pos h, ← hk]; congr 2; omega
    rw [e]
    clear e
    have hc := hP k hk8
    clear hP
    generalize max 0 (6 - (k : Int)) = v at *
    go_enter Tryd.func118, Tryd.ntmps118
    go_wp2_with (go_at_call 149; refine (place_impl _ _ h0 h1).mono ?_; rintro e w' ⟨rfl, rfl⟩; rw [h])
    go_ret
    exact ⟨rfl, rfl⟩
/-- the pattern of fetches lies in its block -/
structure FPat (w : World) : Prop where
  a0 : w.cell? ⟨4, 0, none⟩ = some (.int .i64 0)
  a1 : w.cell? ⟨4, 1, none⟩ = some (.int .i64 32)
  a2 : w.cell? ⟨4, 2, none⟩ = some (.int .i64 (-1))
  a3 : w.cell? ⟨4, 3, none⟩ = some (.int .i64 (-1))
theorem fpat_below {w w' : World} (h : FPat w) (hb : Below w.heap.size w w') : FPat w' := by
  have k : ∀ (i : Nat) (v : Value), w.cell? ⟨4, i, none⟩ = some v → w'.cell? ⟨4, i, none⟩ = some v := by
    intro i v h1
    rw [hb.cell (p := ⟨4, i, none⟩) (World.block_lt_of_cell? w _ h1)]
    exact h1
  exact ⟨k _ _ h.a0, k _ _ h.a1, k _ _ h.a2, k _ _ h.a3⟩
theorem fetch_impl (t : Int) (w : World) (hP : FPat w) : Calls Tryd.prog 157 #[.int .i64 t] w fun e w' => e = .returned (fet2 t) ∧ w' = w := by
  cases h : inB t 0 639
  · have e : fet2 t = .tuple #[.int .i64 0, .int .i64 4] := by unfold fet2; rw [h]; rfl
    rw [e]
    clear hP
    go_enter Tryd.func157, Tryd.ntmps157
    go_wp2_with (go_at_call 113; refine (frame_impl _ _).mono ?_; rintro e w' ⟨rfl, rfl⟩; rw [h])
    go_ret2
    exact ⟨rfl, rfl⟩
  · have e : fet2 t = .tuple #[.int .i64 (fetI t), .int .i64 0] := by unfold fet2; rw [h]; rfl
    rw [e]
    clear e
    obtain ⟨h0, h1⟩ := fr_yes h
    have hm : t % 4 = 0 ∨ t % 4 = 1 ∨ t % 4 = 2 ∨ t % 4 = 3 := by omega
    have hk : t % 32 % 4 = t % 4 := by omega
    cases hs : scrI t
    · have e : fetI t = -1 := by unfold fetI; rw [if_neg (by rw [hs]; simp)]
      rw [e]
      clear e
      rcases hm with hm | hm | hm | hm
      · have hc := hP.a0
        rw [hm] at hk
        clear hP hm
        go_enter Tryd.func157, Tryd.ntmps157
        go_wp2_with (first | (go_at_call 113; refine (frame_impl _ _).mono ?_; rintro e w' ⟨rfl, rfl⟩; rw [h]) | (go_at_call 149; refine (place_impl _ _ h0 h1).mono ?_; rintro e w' ⟨rfl, rfl⟩; rw [hs]))
        go_ret2
        exact ⟨rfl, rfl⟩
      · have hc := hP.a1
        rw [hm] at hk
        clear hP hm
        go_enter Tryd.func157, Tryd.ntmps157
        go_wp2_with (first | (go_at_call 113; refine (frame_impl _ _).mono ?_; rintro e w' ⟨rfl, rfl⟩; rw [h]) | (go_at_call 149; refine (place_impl _ _ h0 h1).mono ?_; rintro e w' ⟨rfl, rfl⟩; rw [hs]))
        go_ret2
        exact ⟨rfl, rfl⟩
      · have hc := hP.a2
        rw [hm] at hk
        clear hP hm
        go_enter Tryd.func157, Tryd.ntmps157
        go_wp2_with (first | (go_at_call 113; refine (frame_impl _ _).mono ?_; rintro e w' ⟨rfl, rfl⟩; rw [h]) | (go_at_call 149; refine (place_impl _ _ h0 h1).mono ?_; rintro e w' ⟨rfl, rfl⟩; rw [hs]))
        go_ret2
        exact ⟨rfl, rfl⟩
      · have hc := hP.a3
        rw [hm] at hk
        clear hP hm
        go_enter Tryd.func157, Tryd.ntmps157
        go_wp2_with (first | (go_at_call 113; refine (frame_impl _ _).mono ?_; rintro e w' ⟨rfl, rfl⟩; rw [h]) | (go_at_call 149; refine (place_impl _ _ h0 h1).mono ?_; rintro e w' ⟨rfl, rfl⟩; rw [hs]))
        go_ret2
        exact ⟨rfl, rfl⟩
    · have hb : inB (t / 32) 4 11 = true := by unfold scrI at hs; simp at hs; exact hs.1
      have hb2 : 4 ≤ t / 32 ∧ t / 32 ≤ 11 := by simpa [inB] using hb
      clear hb
      rcases hm with hm | hm | hm | hm
      · have hc := hP.a0
        have e : fetI t = 4 * (t / 32 - 4) + t % 32 / 4 + 0 := by unfold fetI; rw [if_pos ⟨hs, by omega⟩, hm]; rfl
        rw [hm] at hk
        replace e : Hid (fetI t = 4 * (t / 32 - 4) + t % 32 / 4 + 0) := e
        clear hP hm
        go_enter Tryd.func157, Tryd.ntmps157
        go_wp2_with (first | (go_at_call 113; refine (frame_impl _ _).mono ?_; rintro e w' ⟨rfl, rfl⟩; rw [h]) | (go_at_call 149; refine (place_impl _ _ h0 h1).mono ?_; rintro e w' ⟨rfl, rfl⟩; rw [hs]) | go_in)
        go_ret2
        exact ⟨by rw [e.out]; simp, rfl⟩
      · have hc := hP.a1
        have e : fetI t = 4 * (t / 32 - 4) + t % 32 / 4 + 32 := by unfold fetI; rw [if_pos ⟨hs, by omega⟩, hm]; rfl
        rw [hm] at hk
        replace e : Hid (fetI t = 4 * (t / 32 - 4) + t % 32 / 4 + 32) := e
        clear hP hm
        go_enter Tryd.func157, Tryd.ntmps157
        go_wp2_with (first | (go_at_call 113; refine (frame_impl _ _).mono ?_; rintro e w' ⟨rfl, rfl⟩; rw [h]) | (go_at_call 149; refine (place_impl _ _ h0 h1).mono ?_; rintro e w' ⟨rfl, rfl⟩; rw [hs]) | go_in)
        go_ret2
        exact ⟨by rw [e.out]; simp, rfl⟩
      · have hc := hP.a2
        have e : fetI t = -1 := by unfold fetI; rw [if_neg (by omega)]
        rw [e]
        rw [hm] at hk
        clear hP hm e
        go_enter Tryd.func157, Tryd.ntmps157
        go_wp2_with (first | (go_at_call 113; refine (frame_impl _ _).mono ?_; rintro e w' ⟨rfl, rfl⟩; rw [h]) | (go_at_call 149; refine (place_impl _ _ h0 h1).mono ?_; rintro e w' ⟨rfl, rfl⟩; rw [hs]))
        go_ret2
        exact ⟨rfl, rfl⟩
      · have hc := hP.a3
        have e : fetI t = -1 := by unfold fetI; rw [if_neg (by omega)]
        rw [e]
        rw [hm] at hk
        clear hP hm e
        go_enter Tryd.func157, Tryd.ntmps157
        go_wp2_with (first | (go_at_call 113; refine (frame_impl _ _).mono ?_; rintro e w' ⟨rfl, rfl⟩; rw [h]) | (go_at_call 149; refine (place_impl _ _ h0 h1).mono ?_; rintro e w' ⟨rfl, rfl⟩; rw [hs]))
        go_ret2
        exact ⟨rfl, rfl⟩
end Go.Proofs.YtifcdojaocndhaaDoor
