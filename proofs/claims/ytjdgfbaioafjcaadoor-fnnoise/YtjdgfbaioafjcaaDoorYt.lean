/- One tick of the sound chip whole: the program. -/
import Derived.Test.YtjdgfbaioafjcaaDoorYr
import Derived.Deep.DeepCutAuto
namespace Go.Proofs.YtjdgfbaioafjcaaDoor
open Go.ChangeShapes Go.WideShapes Go.ChangeAt Go.RowKit
set_option linter.unusedVariables false
set_option linter.unusedSimpArgs false

theorem sgA_noi (p : Sg) : ((sgA p).setIfInBounds 13 (.int .i64 (tickV p.noise.toNat p.r2.toNat : Nat))).setIfInBounds 14 (.int .i64 (if tickB p.noise.toNat p.r2.toNat = true then ((shN p.shift.toNat : Nat) : Int) else p.shift)) = sgA p.noi := by
  unfold Sg.noi
  simp only [List.setIfInBounds_toArray, List.set_cons_zero, List.set_cons_succ]
theorem sgA_envl (p : Sg) : ((sgA p).setIfInBounds 16 (.int .i64 (tickV p.ec.toNat p.r6.toNat : Nat))).setIfInBounds 15 (.int .i64 (if tickB p.ec.toNat p.r6.toNat = true then ((envN p.r7.toNat p.env.toNat : Nat) : Int) else p.env)) = sgA p.envl := by
  unfold Sg.envl
  simp only [List.setIfInBounds_toArray, List.set_cons_zero, List.set_cons_succ]
set_option maxRecDepth 100000 in
set_option maxHeartbeats 8000000 in
theorem ticked_impl (c : Sg) (w : World) (hok : okS c = true) : Calls Tryd.prog 34 #[sgV c] w fun e w' => e = .returned (sgV c.step) ∧ Below w.heap.size w w' := by
  obtain ⟨hr, hs, h0, h1, hn, hsh, he, hec⟩ := (okS_iff c).1 hok
  have b0 := hr 0 (by omega)
  have b1 := hr 1 (by omega)
  have b2 := hr 2 (by omega)
  have b6 := hr 6 (by omega)
  have b7 := hr 7 (by omega)
  simp only [Sg.reg, maskN] at b0 b1 b2 b6 b7
  have hs0 := hid (P2s.start w c 27 27)
  have hT : Hid (∀ (a b : Int) (o : Bool) (w1 : World), 0 ≤ a → a < 256 → 0 ≤ b → b < 256 → Calls Tryd.prog 48 #[.int .i64 a, .int .i64 b, .bool o, .func (.func 49) #[] #[]] w1 fun e w' => e = .returned (.tuple #[.int .i64 (tickV a.toNat b.toNat : Nat), .bool (Bool.xor o (tickB a.toNat b.toNat))]) ∧ w' = w1) := fun a b o w1 ha ha2 hb hb2 => by
    have := countB_impl a.toNat b.toNat o w1 (by omega) (by omega)
    rw [Int.toNat_of_nonneg ha, Int.toNat_of_nonneg hb] at this
    exact this
  obtain ⟨c1, hc1⟩ : ∃ c1, c.ch0 = c1 := ⟨_, rfl⟩
  obtain ⟨d, hd⟩ : ∃ d, c1.ch1 = d := ⟨_, rfl⟩
  have q1 : (0 ≤ c1.c1 ∧ c1.c1 ≤ 255) ∧ (0 ≤ c1.r1 ∧ c1.r1 ≤ (255 : Nat)) := by rw [← hc1]; exact ⟨h1, b1⟩
  have qd : (0 ≤ d.noise ∧ d.noise ≤ 31) ∧ (0 ≤ d.r2 ∧ d.r2 ≤ (31 : Nat)) ∧ (1 ≤ d.shift ∧ d.shift ≤ 131071) ∧ (0 ≤ d.ec ∧ d.ec ≤ 255) ∧ (0 ≤ d.r6 ∧ d.r6 ≤ (255 : Nat)) ∧ (0 ≤ d.r7 ∧ d.r7 ≤ (3 : Nat)) ∧ (0 ≤ d.env ∧ d.env ≤ 31) := by rw [← hd, ← hc1]; exact ⟨hn, b2, hsh, hec, b6, b7, he⟩
  have hst : Hid (c.step = d.noi.envl) := by unfold Hid; rw [← hd, ← hc1]; rfl
  rw [hst.out]
  clear hst hr hs hn hsh he hec b1 b2 b6 b7 h1 hok
  replace hd := hid hd
  replace hc1 := hid hc1
  replace qd := hid qd
  go_enter Tryd.func34, Tryd.ntmps34
  go_upto_region 1 with fail
  obtain ⟨V, hV⟩ : ∃ V, (w.alloc (.cells (sgA c) 27)).alloc (.cells (sgA zeS) 27) = V := ⟨_, rfl⟩
  rw [hV] at hs0 ⊢
  clear hV
  go_wp2
  go_loopw [5] (fun i wr => (i = .int .i64 0 ∧ P2s w wr (sgA c)) ∨ (i = .int .i64 1 ∧ P2s w wr (sgA c1)) ∨ (i = .int .i64 2 ∧ P2s w wr (sgA d))) (fun i _ => 2 - (intOf i).toNat)
  case atStart => exact .inl ⟨rfl, hs0.out⟩
  case round =>
    clear hs0
    rcases hrel with ⟨rfl, hS⟩ | ⟨rfl, hS⟩ | ⟨rfl, hS⟩
    · have y0 : wr.cell? ⟨w.heap.size, 0, none⟩ = some (.int .i64 c.r0) := hS.q0.cell 0
      have y9 : wr.cell? ⟨w.heap.size, 9, none⟩ = some (.int .i64 c.c0) := hS.q0.cell 9
      have y11 : wr.cell? ⟨w.heap.size, 11, none⟩ = some (.bool c.o0) := hS.q0.cell 11
      have g9 := hS.q0.frozen 9
      have g11 := hS.q0.frozen 11
      have hN := hid ((hS.set 9 (.int .i64 (tickV c.c0.toNat c.r0.toNat : Nat))).set 11 (.bool (Bool.xor c.o0 (tickB c.c0.toNat c.r0.toNat))))
      rw [sgA_ch0, hc1.out] at hN
      have hK := hid (fun w1 => hT.out c.c0 c.r0 c.o0 w1 (by omega) (by omega) (by omega) (by omega))
      clear hS hT
      generalize tickV c.c0.toNat c.r0.toNat = tv at *
      generalize Bool.xor c.o0 (tickB c.c0.toNat c.r0.toNat) = tb at *
      clear qd q1 hd hc1 h0 b0
      go_wp2
      go_region_with (go_at_call 48; refine (hK.out _).mono ?_; rintro e w' ⟨rfl, hww⟩; obtain rfl := hww.symm)
      all_goals
        go_wp2
        go_roundw
        case rel => exact .inr (.inl ⟨rfl, hN.out.drew⟩)
        case measure => simp [intOf]
    · have y0 : wr.cell? ⟨w.heap.size, 1, none⟩ = some (.int .i64 c1.r1) := hS.q0.cell 1
      have y9 : wr.cell? ⟨w.heap.size, 10, none⟩ = some (.int .i64 c1.c1) := hS.q0.cell 10
      have y11 : wr.cell? ⟨w.heap.size, 12, none⟩ = some (.bool c1.o1) := hS.q0.cell 12
      have g9 := hS.q0.frozen 10
      have g11 := hS.q0.frozen 12
      have hN := hid ((hS.set 10 (.int .i64 (tickV c1.c1.toNat c1.r1.toNat : Nat))).set 12 (.bool (Bool.xor c1.o1 (tickB c1.c1.toNat c1.r1.toNat))))
      rw [sgA_ch1, hd.out] at hN
      have hK := hid (fun w1 => hT.out c1.c1 c1.r1 c1.o1 w1 (by omega) (by omega) (by omega) (by omega))
      clear hS hT
      generalize tickV c1.c1.toNat c1.r1.toNat = tv at *
      generalize Bool.xor c1.o1 (tickB c1.c1.toNat c1.r1.toNat) = tb at *
      clear qd q1 hd hc1 h0 b0
      go_wp2
      go_region_with (go_at_call 48; refine (hK.out _).mono ?_; rintro e w' ⟨rfl, hww⟩; obtain rfl := hww.symm)
      all_goals
        go_wp2
        go_roundw
        case rel => exact .inr (.inr ⟨rfl, hN.out.drew⟩)
        case measure => simp [intOf]
    · obtain ⟨⟨n0, n1⟩, ⟨r20, r21⟩, ⟨s0, s1⟩, hec, hr6, hr7, hen⟩ := qd.out
      have y2 : wr.cell? ⟨w.heap.size, 2, none⟩ = some (.int .i64 d.r2) := hS.q0.cell 2
      have y13 : wr.cell? ⟨w.heap.size, 13, none⟩ = some (.int .i64 d.noise) := hS.q0.cell 13
      have y14 : wr.cell? ⟨w.heap.size, 14, none⟩ = some (.int .i64 d.shift) := hS.q0.cell 14
      have g13 := hS.q0.frozen 13
      have g14 := hS.q0.frozen 14
      obtain ⟨E, hE⟩ : ∃ E, d.noi = E := ⟨_, rfl⟩
      obtain ⟨e, he⟩ : ∃ e : Nat, d.env = e := ⟨d.env.toNat, by omega⟩
      obtain ⟨sh, hsh⟩ : ∃ sh : Nat, d.r7 = sh := ⟨d.r7.toNat, by omega⟩
      obtain ⟨s, hs⟩ : ∃ s : Nat, d.shift = s := ⟨d.shift.toNat, by omega⟩
      have fE : Hid (EnvIn E e sh) := by
        rw [← hE]
        exact ⟨hec, ⟨hr6.1, by have := hr6.2; show d.r6 ≤ 255; omega⟩, he, hsh, by omega, by omega⟩
      have hEE : Hid (d.noi.envl = E.envl) := by rw [hE]; rfl
      have hK : Hid (∀ w1 : World, Calls Tryd.prog 50 #[.int .i64 d.noise, .int .i64 d.r2, .int .i64 (s : Int), .func (.func 51) #[] #[]] w1 fun e w' => e = .returned (.tuple #[.int .i64 (tickV d.noise.toNat d.r2.toNat : Nat), .int .i64 (if tickB d.noise.toNat d.r2.toNat = true then ((shN s : Nat) : Int) else (s : Int))]) ∧ w' = w1) := fun w1 => by
        have := countS_impl d.noise.toNat d.r2.toNat s w1 (by omega) (by omega) (by omega)
        rw [Int.toNat_of_nonneg n0, Int.toNat_of_nonneg r20] at this
        exact this
      have hN := (hS.set 13 (.int .i64 (tickV d.noise.toNat d.r2.toNat : Nat))).set 14 (.int .i64 (if tickB d.noise.toNat d.r2.toNat = true then ((shN d.shift.toNat : Nat) : Int) else d.shift))
      rw [sgA_noi, hE, hs, Int.toNat_natCast] at hN
      rw [hs] at y14
      replace hN := hid hN
      clear hec hr6 hr7 hen he hsh qd q1 hd hc1 h0 b0 hs hS hE s0 s1 n0 n1 r20 r21 hT
      generalize tickV d.noise.toNat d.r2.toNat = tv0 at *
      generalize (if tickB d.noise.toNat d.r2.toNat = true then ((shN s : Nat) : Int) else (s : Int)) = s2 at *
      go_upto_region 7 with (go_at_call 50; refine (hK.out _).mono ?_; rintro e' w' ⟨rfl, hww⟩; obtain rfl := hww.symm)
      obtain ⟨W1, hW1⟩ : ∃ W, (wr.setCell ⟨w.heap.size, 13, none⟩ (.int .i64 (tv0 : Int))).setCell ⟨w.heap.size, 14, none⟩ (.int .i64 s2) = W := ⟨_, rfl⟩
      rw [hW1] at hN ⊢
      clear hW1 hK y2 y13 y14 g13 g14
      have y7 : W1.cell? ⟨w.heap.size, 7, none⟩ = some (.int .i64 E.r7) := hN.out.q0.cell 7
      rw [fE.out.r7] at y7
      have l0 := hN.out.q0.lt
      have l1 := hN.out.q1.lt
      have h2 := hid (hN.out.below ((Below.refl W1.heap.size W1).alloc (Nat.le_refl _) (.cells #[.int .i64 (sh : Int)] 3)))
      have hbx := hid (Blk.new W1 #[.int .i64 (sh : Int)] 3)
      clear hN
      go_upto_region 8 with fail
      obtain ⟨bx, hbx2⟩ : ∃ bx, W1.heap.size = bx := ⟨_, rfl⟩
      obtain ⟨W2, hW2⟩ : ∃ W, W1.alloc (.cells #[.int .i64 (sh : Int)] 3) = W := ⟨_, rfl⟩
      rw [hW2, hbx2] at hbx
      rw [hW2] at h2 ⊢
      rw [hbx2]
      clear hW2 hbx2 y7 l0 l1
      have z0 : W2.cell? ⟨bx, 0, none⟩ = some (.int .i64 (sh : Int)) := hbx.out.cell 0
      have y6 : W2.cell? ⟨w.heap.size, 6, none⟩ = some (.int .i64 E.r6) := h2.out.q0.cell 6
      have y15 : W2.cell? ⟨w.heap.size, 15, none⟩ = some (.int .i64 E.env) := h2.out.q0.cell 15
      have y16 : W2.cell? ⟨w.heap.size, 16, none⟩ = some (.int .i64 E.ec) := h2.out.q0.cell 16
      have g15 := h2.out.q0.frozen 15
      have g16 := h2.out.q0.frozen 16
      rw [fE.out.env] at y15
      have hK : Hid (Calls Tryd.prog 50 #[.int .i64 E.ec, .int .i64 E.r6, .int .i64 (e : Int), .func (.func 52) #[] #[.pointer (some ⟨bx, 0, none⟩)]] W2 fun r w' => r = .returned (.tuple #[.int .i64 (tickV E.ec.toNat E.r6.toNat : Nat), .int .i64 (if tickB E.ec.toNat E.r6.toNat = true then ((envN sh e : Nat) : Int) else (e : Int))]) ∧ w' = W2) := by
        have := countE_impl E.ec.toNat E.r6.toNat bx e sh W2 (by have := fE.out.ec; omega) (by have := fE.out.r6; omega) (by have := fE.out.le; omega) fE.out.sl z0
        rw [Int.toNat_of_nonneg fE.out.ec.1, Int.toNat_of_nonneg fE.out.r6.1] at this
        exact this
      obtain ⟨C, hC⟩ : ∃ C, E.envl = C := ⟨_, rfl⟩
      have hN := (h2.out.set 16 (.int .i64 (tickV E.ec.toNat E.r6.toNat : Nat))).set 15 (.int .i64 (if tickB E.ec.toNat E.r6.toNat = true then ((envN E.r7.toNat E.env.toNat : Nat) : Int) else E.env))
      rw [sgA_envl, hC, fE.out.env, fE.out.r7, Int.toNat_natCast, Int.toNat_natCast] at hN
      replace hN := hid hN
      replace hC := hid hC
      clear h2 hbx fE z0
      generalize tickV E.ec.toNat E.r6.toNat = tv at *
      generalize (if tickB E.ec.toNat E.r6.toNat = true then ((envN sh e : Nat) : Int) else (e : Int)) = e2 at *
      go_upto_region 9 with (go_at_call 50; refine hK.out.mono ?_; rintro e' w' ⟨rfl, hww⟩; obtain rfl := hww.symm)
      obtain ⟨W3, hW3⟩ : ∃ W, (W2.setCell ⟨w.heap.size, 16, none⟩ (.int .i64 (tv : Int))).setCell ⟨w.heap.size, 15, none⟩ (.int .i64 e2) = W := ⟨_, rfl⟩
      rw [hW3] at hN ⊢
      clear hW3 hK y6 y15 y16 g15 g16
      have hrg := hid (sg_range hN.out.q0)
      have hth := hid (sg_there hN.out.q1 C)
      obtain ⟨tt, ht⟩ := sg_laid hN.out.q1 C
      replace ht := hid ht
      have hB := hid hN.out.bel
      clear hN
      go_wp2_with (first | (refine wpList_store_mid rfl 27 _ _ rfl (w.heap.size + 1) 0 (sgA C) rfl rfl hth.out (sg_size C) (sg_one C) ?_) | (refine wpList_load_mid rfl 27 _ rfl w.heap.size 0 rfl (sgA C).toList _ hrg.out Tryd.underlying27 rfl (sg_size C) ?_))
      exact bodyPost_ret (v := sgV C) (results_cell_row Tryd.results34 _ _ (w.heap.size + 1) tt (sgA C) (0, 0) _ rfl ht.out Tryd.underlying27 rfl (sg_size C)) rfl ⟨by rw [hEE.out, hC.out], lay_below _ _ _ (by omega) hB.out⟩
end Go.Proofs.YtjdgfbaioafjcaaDoor
