/- A new deck: the program. -/
import Derived.Test.YtifcdojaocndhaaDoorM34
import Derived.Test.YtifcdojaocndhaaDoorM35
import Derived.Test.YtifcdojaocndhaaDoorVrm
import Derived.Test.YtifcdojaocndhaaDoorM27
import Derived.Test.YtifcdojaocndhaaDoorM08
import Derived.LaidMore
import Derived.OpenShut
import Derived.Stop.Joined
namespace Go.Proofs.YtifcdojaocndhaaDoor
open Go.ChangeShapes Go.WideShapes Go.ChangeAt Go.RowKit
set_option linter.unusedVariables false
set_option linter.unusedSimpArgs false

set_option maxRecDepth 100000 in
set_option maxHeartbeats 1000000 in
theorem newd_impl (a : Option Addr) (cap : Nat) (l : List (Int × ByteArray)) (w : World) (h : BkR w a l) (hl : l.length ≤ 1048576) (hs : ∀ x ∈ l, x.2.size ≤ maxLen) (hT : Tim w) (hg : 3 < w.heap.size) :
    Calls Tryd.prog 31 #[.slice a l.length cap] w fun e w' => ∃ v, e = .returned (.tuple #[dkV v (new2 l).1, .int .i64 (new2 l).2]) ∧ Grow w w' v (new2 l).1.pulses := by
  have q0 := Blk.new w dkZ 38
  have hB := (Below.refl w.heap.size w).alloc (Nat.le_refl _) (.cells dkZ 38)
  have hTp := hid (tapepulses_impl a cap l _ (h.below hB) hl hs (hT.kept (hB.block _ hg)) (Nat.lt_of_lt_of_le hg hB.size))
  have hln := tp2_len l
  clear h hs hT hg
  by_cases h2 : (tp2 l).2 = 0
  · rw [new2_ok h2]
    rw [h2] at hTp
    obtain ⟨T, hT⟩ : ∃ T, (tp2 l).1 = T := ⟨_, rfl⟩
    rw [hT] at hTp hln ⊢
    have hM := hid (fun W b a cap hb hr hn => rewind_impl b a cap T 0 0 false false W hb hr hn (show T.length ≤ 1048576 by omega))
    obtain ⟨LF, hLF⟩ : ∃ LF, Dk.goto ⟨T, 0, 0, false, false⟩ 0 = ⟨T, 0, LF, false, false⟩ := ⟨_, rfl⟩
    rw [hLF] at hM ⊢
    clear hT h2 hLF
    go_enter Tryd.func31, Tryd.ntmps31
    go_upto_region 1 with fail
    obtain ⟨V, hV⟩ : ∃ V, w.alloc (.cells #[.slice none 0 0, .int .i64 0, .int .i64 0, .bool false, .bool false] 38) = V := ⟨_, rfl⟩
    rw [hV] at q0 hB hTp ⊢
    clear hV
    obtain ⟨O, hO⟩ : ∃ O, w.heap.size = O := ⟨_, rfl⟩
    have hOh : Hid (w.heap.size = O) := hO
    have hB' : Hid (Below w.heap.size w V) := hB
    rw [hO] at q0 ⊢
    clear hO hB
    replace q0 := hid q0
    go_wp2_with fail
    refine hTp.out.mono ?_
    rintro e w1 ⟨v1, rfl, hG⟩
    have q1 := q0.out.below hG.bel q0.out.lt
    have G1 := hG.since hB'.out
    have nb : Hid (v1.ownBlock ≠ some O) := hG.off q0.out.lt
    obtain ⟨a1, c1, rfl⟩ := hG.form
    have hal : Below w1.heap.size w1 (w1.alloc (.cells #[.slice a1 T.length c1, .int .i64 0, .int .i64 0, .bool false, .bool false] 38)) := (Below.refl _ _).alloc (Nat.le_refl _) _
    have q2 := hid (q1.below hal q1.lt)
    have G2 := hid (G1.below hal)
    have p2 := hid (Blk.new w1 #[.slice a1 T.length c1, .int .i64 0, .int .i64 0, .bool false, .bool false] 38)
    have nb2 : Hid ((Value.slice a1 T.length c1).ownBlock ≠ some w1.heap.size) := fun e => by
      have := (hG.own.lt _ e).2
      omega
    have hlt : Hid (O < w1.heap.size) := q1.lt
    have rr := hid ((OwnI.of G1).read.below hal)
    clear q0 hTp q1 G1 hal hG
    go_upto_region 5 with fail
    obtain ⟨g, hg⟩ : ∃ g, w1.heap.size = g := ⟨_, rfl⟩
    rw [hg] at p2 nb2 hlt
    (try rw [hg])
    obtain ⟨W2, hW2⟩ : ∃ W, w1.alloc (.cells #[.slice a1 T.length c1, .int .i64 0, .int .i64 0, .bool false, .bool false] 38) = W := ⟨_, rfl⟩
    rw [hW2] at q2 G2 p2 rr
    (try rw [hW2])
    clear hg hW2
    have ap := hid (G2.out.apart nb2.out)
    have n5 : ¬ O = g := by have := hlt.out; omega
    have n6 : ¬ g = O := by have := hlt.out; omega
    go_wp2_with fail
    refine (hM.out _ g a1 c1 p2.out rr.out ap.out).mono ?_
    rintro e w3 ⟨rfl, p3, g3⟩
    have q3 := q2.out.grown g3 (by simpa using n5)
    have G3 : Grow w w3 (.slice a1 T.length c1) T := ⟨G2.out.own.kept g3 (.inr nb2.out), G2.out.bel.grown g3 G2.out.bel.size (fun b e => by cases e; have := hlt.out; have := hOh.out; omega)⟩
    have x3 := p3.cell
    have x8 := (lay5_blk q3 rfl (.slice a1 T.length c1) 0 LF false false).cell
    dsimp only [lay5] at x8
    replace x8 := hid x8
    have G8 : Hid (Grow w (lay5 w3 O (.slice a1 T.length c1) 0 LF false false) (.slice a1 T.length c1) T) := G3.lay5 (by have := hOh.out; omega) nb.out _ _ _ _ _
    dsimp only [lay5] at G8
    have xR := q3.cell
    have fR := q3.frozen
    have lR := q3.lt
    clear q3 G3 p3 g3 q2 G2 p2 rr ap hM
    go_wp2
    have x9 := x8.out
    exact bodyPost_ret (v := .tuple #[.agg #[.slice a1 T.length c1, .int .i64 0, .int .i64 LF, .bool false, .bool false], .int .i64 0]) (by simp [results, Tryd.results31, go_sem, x9]; try rfl) rfl ⟨_, rfl, G8.out⟩
  · rw [new2_no h2]
    obtain ⟨T, hT⟩ : ∃ T, (tp2 l).1 = T := ⟨_, rfl⟩
    obtain ⟨C, hC⟩ : ∃ C, (tp2 l).2 = C := ⟨_, rfl⟩
    rw [hT, hC] at hTp
    rw [hC] at h2 ⊢
    have hCb : (C != 0) = true := by simpa using h2
    clear hT hC h2
    go_enter Tryd.func31, Tryd.ntmps31
    go_upto_region 1 with fail
    obtain ⟨V, hV⟩ : ∃ V, w.alloc (.cells #[.slice none 0 0, .int .i64 0, .int .i64 0, .bool false, .bool false] 38) = V := ⟨_, rfl⟩
    rw [hV] at q0 hB hTp ⊢
    clear hV
    obtain ⟨O, hO⟩ : ∃ O, w.heap.size = O := ⟨_, rfl⟩
    have hOh : Hid (w.heap.size = O) := hO
    have hB' : Hid (Below w.heap.size w V) := hB
    rw [hO] at q0 ⊢
    clear hO hB
    replace q0 := hid q0
    go_wp2_with fail
    refine hTp.out.mono ?_
    rintro e w1 ⟨v1, rfl, hG⟩
    have q1 := q0.out.below hG.bel q0.out.lt
    have B1 := new_trans hB'.out hG.bel
    obtain ⟨a1, c1, rfl⟩ := hG.form
    have x8 := (lay5_blk q1 rfl (.slice none 0 0) 0 0 false false).cell
    dsimp only [lay5] at x8
    replace x8 := hid x8
    have G8 : Hid (Grow w (lay5 w1 O (.slice none 0 0) 0 0 false false) (.slice none 0 0) []) := (Grow.nilv B1).lay5 (by have := hOh.out; omega) (by simp [Value.ownBlock]) _ _ _ _ _
    dsimp only [lay5] at G8
    have xR := q1.cell
    have fR := q1.frozen
    have lR := q1.lt
    clear q1 B1 hG q0 hTp hB'
    go_wp2
    have x9 := x8.out
    exact bodyPost_ret (v := .tuple #[.agg #[.slice none 0 0, .int .i64 0, .int .i64 0, .bool false, .bool false], .int .i64 C]) (by simp [results, Tryd.results31, go_sem, x9]; try rfl) rfl ⟨_, rfl, G8.out⟩
end Go.Proofs.YtifcdojaocndhaaDoor

/- What the program says of a sound chip that is right, and of a new one; its table of registers' bits. -/
namespace Go.Proofs.YtifcdojaocndhaaDoor
open Go.ChangeShapes Go.WideShapes Go.ChangeAt Go.RowKit
set_option linter.unusedVariables false
set_option linter.unusedSimpArgs false

/-- the table of the bits that registers have, in its block -/
def PBit (w : World) : Prop := ∀ i, i < 8 → w.cell? ⟨0, i, none⟩ = some (.int .i64 (maskN i : Nat))
theorem cell_keptY {W W' : World} {b i : Nat} {v : Value} (hb : Below W.heap.size W W') (h : W.cell? ⟨b, i, none⟩ = some v) : W'.cell? ⟨b, i, none⟩ = some v := by
  have hlt : b < W.heap.size := by
    by_cases h1 : b < W.heap.size
    · exact h1
    · exfalso
      have : W.heap[b]? = none := by simp; omega
      simp [World.cell?, this] at h
  rw [hb.cell (p := ⟨b, i, none⟩) hlt]
  exact h
theorem PBit.below {w w' : World} (h : PBit w) (hb : Below w.heap.size w w') : PBit w' := fun i hi => cell_keptY hb (h i hi)
theorem PBit.lt {w : World} (h : PBit w) : 0 < w.heap.size := by
  by_cases h1 : 0 < w.heap.size
  · exact h1
  · exfalso
    have h0 := h 0 (by omega)
    have : w.heap[0]? = none := by simp only [Array.getElem?_eq_none_iff]; omega
    simp [World.cell?, this] at h0
theorem PBit.alloc {w : World} (h : PBit w) (o : Obj) : PBit (w.alloc o) := h.below ((Below.refl _ _).alloc (Nat.le_refl _) o)
theorem PBit.drew {w : World} (h : PBit w) : PBit w.drew := h.below (Below.refl _ _).drew
theorem gPB : Tryd.prog.globalNamed "loop.example/g00644/impl.psgBits" = some 0 := by kernel_rfl
theorem tPB : (Tryd.prog.globals[0]?).map (·.type) = some 24 := by kernel_rfl
theorem pbit_of {W : World} (h : laidMetH Tryd.prog [("loop.example/g00644/impl.psgBits", Rows.laid_loop_example_g00644_impl_psgBits)] W) : PBit W := by
  rw [MakeChecks.laidMetH_plain _ _ _ (by kernel_rfl)] at h
  obtain ⟨ps, ⟨g0, t0, cs0, f0, p0, q0, hg0, ht0, hv0, hd0, _⟩, _⟩ := h
  obtain rfl := Option.some.inj (gPB.symm.trans hg0)
  obtain rfl := Option.some.inj (tPB.symm.trans ht0)
  obtain ⟨xs, m1, rfl, hx1, hlen, hn, hel⟩ := DataW.trod_array Tryd.underlying24 hd0
  have c1 : Tryd.prog.cellsOf 3 = 1 := by kernel_rfl
  have hd : xs.map (·.1) = [(.lit (.int .i64 255) : DataW Unit), .lit (.int .i64 255), .lit (.int .i64 31), .lit (.int .i64 15), .lit (.int .i64 31), .lit (.int .i64 31), .lit (.int .i64 255), .lit (.int .i64 3)] := by
    have := congrArg Prod.fst hx1
    simp only [Rows.laid_loop_example_g00644_impl_psgBits, DataW.agg.injEq] at this
    exact this.symm
  have key : ∀ i (hi : i < 8) (z : Int), (xs.map (·.1))[i]? = some (DataW.lit (.int .i64 z) : DataW Unit) → W.cell? ⟨0, i, none⟩ = some (.int .i64 z) := by
    intro i hi z hz
    have h0 := hel i hi
    rw [c1, Nat.mul_one] at h0
    have hxi : xs[i]? = some xs[i] := List.getElem?_eq_getElem (by omega)
    rw [hxi] at h0
    obtain ⟨n, e1, e2, _⟩ := DataW.trod_int Tryd.underlying3 h0
    have hcs : cs0[i]? = some (.int .i64 n) := by
      have := congrArg (·[0]?) e1
      simpa [List.getElem?_take, List.getElem?_drop] using this
    rw [World.var?_cell gPB hv0 i, hcs]
    rw [List.getElem?_map, hxi, e2] at hz
    simp at hz
    rw [hz]
  intro i hi
  have h8 : i = 0 ∨ i = 1 ∨ i = 2 ∨ i = 3 ∨ i = 4 ∨ i = 5 ∨ i = 6 ∨ i = 7 := by omega
  rcases h8 with rfl | rfl | rfl | rfl | rfl | rfl | rfl | rfl
  all_goals exact key _ (by omega) _ (by rw [hd]; rfl)
theorem iswS_impl (n a b : Int) (w : World) : Calls Tryd.prog 114 #[.int .i64 n, .int .i64 a, .int .i64 b] w fun e w' => e = .returned (.bool (inB n a b)) ∧ w' = w := by
  go_enter Tryd.func114, Tryd.ntmps114
  go_wp2
  all_goals go_ret
  all_goals exact ⟨ret_bool (by rw [Bool.eq_iff_iff]; simp [inB]; try omega), rfl⟩
theorem isbS_impl (n : Int) (w : World) : Calls Tryd.prog 68 #[.int .i64 n] w fun e w' => e = .returned (.bool (inB n 0 255)) ∧ w' = w := by
  go_enter Tryd.func68, Tryd.ntmps68
  go_wp2
  all_goals go_ret
  all_goals exact ⟨ret_bool (by rw [Bool.eq_iff_iff]; simp [inB]; try omega), rfl⟩
theorem areS_impl (n m : Int) (w : World) : Calls Tryd.prog 116 #[.int .i64 n, .int .i64 m] w fun e w' => e = .returned (.bool (inB n 0 255 && inB m 0 255)) ∧ w' = w := by
  cases h1 : inB n 0 255
  · go_enter Tryd.func116, Tryd.ntmps116
    go_wp2_with (go_at_call 68; refine (isbS_impl _ _).mono ?_; rintro e w' ⟨rfl, rfl⟩; rw [h1])
    go_ret
    exact ⟨rfl, rfl⟩
  · go_enter Tryd.func116, Tryd.ntmps116
    go_wp2_with (go_at_call 68; refine (isbS_impl _ _).mono ?_; rintro e w' ⟨rfl, rfl⟩; try rw [h1])
    go_ret
    exact ⟨ret_bool (by simp), rfl⟩
theorem sgr_at (c : Sg) (k : Nat) (hk : k < 8) (w : World) : (Instr.index 24 (.agg #[.int .i64 c.r0, .int .i64 c.r1, .int .i64 c.r2, .int .i64 c.r3, .int .i64 c.r4, .int .i64 c.r5, .int .i64 c.r6, .int .i64 c.r7]) (.int .i64 (k : Int))).run Tryd.prog w = .ok (.int .i64 (c.reg k)) w := by
  rcases (by omega : k = 0 ∨ k = 1 ∨ k = 2 ∨ k = 3 ∨ k = 4 ∨ k = 5 ∨ k = 6 ∨ k = 7) with rfl | rfl | rfl | rfl | rfl | rfl | rfl | rfl <;> kernel_rfl
set_option maxRecDepth 100000 in
set_option maxHeartbeats 4000000 in
theorem sok_impl (c : Sg) (w : World) (hP : PBit w) : Calls Tryd.prog 111 #[sgV c] w fun e w' => e = .returned (.bool (okS c)) ∧ Below w.heap.size w w' := by
  have hno : Hid (∀ k, k < 8 → inB (c.reg k) 0 (maskN k : Nat) = false → okS c = false) := fun k hk => sreg_no hk
  have hall : Hid ((∀ i, i < 8 → inB (c.reg i) 0 (maskN i : Nat) = true) → okS c = (inB c.sel 0 7 && inB c.c0 0 255 && inB c.c1 0 255 && inB c.noise 0 31 && inB c.shift 1 131071 && inB c.env 0 31 && inB c.ec 0 255)) := fun h => by unfold okS; rw [sreg_all h, Bool.true_and]
  have hB := hid ((Below.refl w.heap.size w).alloc (Nat.le_refl _) (.cells (sgA c) 36))
  have q1 := (Blk.new w (sgA c) 36).cell
  have hP1 := hid (hP.alloc (.cells (sgA c) 36))
  clear hP
  have hix := hid (sgr_at c)
  obtain ⟨Q, hQ⟩ : ∃ Q, okS c = Q := ⟨_, rfl⟩
  rw [hQ] at hno hall ⊢
  clear hQ
  go_enter Tryd.func111, Tryd.ntmps111
  go_upto_region 1 with fail
  obtain ⟨V, hV⟩ : ∃ V, w.alloc (Obj.cells (sgA c) 36) = V := ⟨_, rfl⟩
  rw [hV] at hB q1 hP1 ⊢
  clear hV
  go_wp2
  go_loop [7] (fun i => ∃ k : Nat, k ≤ 8 ∧ i = .int .i64 k ∧ ∀ j, j < k → inB (c.reg j) 0 (maskN j : Nat) = true) (fun i => 8 - (intOf i).toNat)
  case atStart => exact ⟨0, by omega, rfl, fun j hj => by omega⟩
  case round =>
    obtain ⟨k, hk, rfl, hj⟩ := hrel
    by_cases hlt : k < 8
    · have i1 := hix.out k hlt
      have x1 := hP1.out k hlt
      cases hb : inB (c.reg k) 0 (maskN k : Nat)
      · have hE := hid (hno.out k hlt hb)
        clear hj hno hall hk
        generalize c.reg k = y at *
        generalize maskN k = m at *
        go_wp2_with (go_at_call 114; refine (iswS_impl _ _ _ _).mono ?_; rintro e w' ⟨rfl, rfl⟩; rw [hb])
        go_ret
        exact ⟨ret_bool hE.out.symm, hB.out⟩
      · have hj2 : Hid (∀ j, j < k + 1 → inB (c.reg j) 0 (maskN j : Nat) = true) := fun j hj1 => by
          by_cases e : j = k
          · rw [e]; exact hb
          · exact hj j (by omega)
        clear hj hno hall hk
        generalize c.reg k = y at *
        generalize maskN k = m at *
        go_wp2_with (go_at_call 114; refine (iswS_impl _ _ _ _).mono ?_; rintro e w' ⟨rfl, rfl⟩; rw [hb])
        go_round
        case rel => exact ⟨k + 1, by omega, by go_num, hj2.out⟩
        case measure => simp [intOf]; omega
    · obtain rfl : k = 8 := by omega
      have hE := hall.out hj
      clear hj hno hall hk hlt hix
      replace hE := hid hE
      go_wp2_with (first | (go_at_call 114; refine (iswS_impl _ _ _ _).mono ?_; rintro e w' ⟨rfl, hww⟩; obtain rfl := hww.symm) | (go_at_call 68; refine (isbS_impl _ _).mono ?_; rintro e w' ⟨rfl, hww⟩; obtain rfl := hww.symm) | (go_at_call 116; refine (areS_impl _ _ _).mono ?_; rintro e w' ⟨rfl, hww⟩; obtain rfl := hww.symm))
      all_goals go_ret
      all_goals exact ⟨ret_bool (by rw [hE.out]; simp_all), hB.out⟩
set_option maxRecDepth 100000 in
theorem newsg_impl (w : World) (hP : PBit w) : Calls Tryd.prog 34 #[] w fun e w' => e = .returned (sgV neS) ∧ Below w.heap.size w w' := by
  have hs := two_in (w := w) (sgA zeS) (sgA neS) 36 36
  have hl := hP.lt
  have hl2 : 0 < w.heap.size + 1 := by omega
  have x3 : w.cell? ⟨0, 3, none⟩ = some (.int .i64 15) := hP 3 (by omega)
  clear hP
  obtain ⟨C, hC⟩ : ∃ C, neS = C := ⟨_, rfl⟩
  have hCV : Hid (sgV neS = sgV C) := by rw [hC]; rfl
  rw [hCV.out]
  go_enter Tryd.func34, Tryd.ntmps34
  go_upto_region 3 with fail
  obtain ⟨V, hV⟩ : ∃ V, (w.alloc (.cells (sgA zeS) 36)).alloc (.cells (sgA neS) 36) = V := ⟨_, rfl⟩
  rw [hV] at hs ⊢
  clear hV x3 hl hl2
  have hr := hid (sg_range hs.2.1)
  have hth := hid (sg_there hs.1 neS)
  have hB := hid hs.2.2
  obtain ⟨tt, ht⟩ := sg_laid hs.1 neS
  replace ht := hid ht
  clear hs
  rw [hC] at hr hth ht
  clear hC
  go_wp2_with (first | (refine wpList_load_mid rfl 36 _ rfl (w.heap.size + 1) 0 rfl (sgA C).toList _ hr.out Tryd.underlying36 rfl (sg_size C) ?_) | (refine wpList_store_mid rfl 36 _ _ rfl w.heap.size 0 (sgA C) rfl rfl hth.out (sg_size C) (sg_one C) ?_))
  exact bodyPost_ret (v := sgV C) (results_cell_row Tryd.results34 _ _ w.heap.size tt (sgA C) (0, 0) _ rfl ht.out Tryd.underlying36 rfl (sg_size C)) rfl ⟨rfl, lay_below _ _ _ (Nat.le_refl _) hB.out⟩
/-- what all calls with a number ask first -/
def faultS (c : Sg) (v most : Int) : Int := if okS c = true then (if inB v 0 most = true then 0 else 4) else 1
end Go.Proofs.YtifcdojaocndhaaDoor
