/- One tick of the sound chip: the specification. -/
import Derived.Test.YtjdgfbaioafjcaaDoorYf
import Derived.Deep.DeepCutAuto
namespace Go.Proofs.YtjdgfbaioafjcaaDoor
open Go.ChangeShapes Go.WideShapes Go.ChangeAt Go.RowKit
set_option linter.unusedVariables false
set_option linter.unusedSimpArgs false

theorem sgA_ch0 (p : Sg) : ((sgA p).setIfInBounds 9 (.int .i64 (tickV p.c0.toNat p.r0.toNat : Nat))).setIfInBounds 11 (.bool (Bool.xor p.o0 (tickB p.c0.toNat p.r0.toNat))) = sgA p.ch0 := by
  unfold Sg.ch0
  simp only [List.setIfInBounds_toArray, List.set_cons_zero, List.set_cons_succ]
theorem sgA_ch1 (p : Sg) : ((sgA p).setIfInBounds 10 (.int .i64 (tickV p.c1.toNat p.r1.toNat : Nat))).setIfInBounds 12 (.bool (Bool.xor p.o1 (tickB p.c1.toNat p.r1.toNat))) = sgA p.ch1 := by
  unfold Sg.ch1
  simp only [List.setIfInBounds_toArray, List.set_cons_zero, List.set_cons_succ]
theorem sgA_noi0 (p : Sg) (h : tickB p.noise.toNat p.r2.toNat = false) : (sgA p).setIfInBounds 13 (.int .i64 (tickV p.noise.toNat p.r2.toNat : Nat)) = sgA p.noi := by
  unfold Sg.noi
  rw [h]
  simp only [List.setIfInBounds_toArray, List.set_cons_zero, List.set_cons_succ, Bool.false_eq_true, if_false]
theorem sgA_noi1 (p : Sg) (h : tickB p.noise.toNat p.r2.toNat = true) : ((sgA p).setIfInBounds 13 (.int .i64 (tickV p.noise.toNat p.r2.toNat : Nat))).setIfInBounds 14 (.int .i64 (shN p.shift.toNat : Nat)) = sgA p.noi := by
  unfold Sg.noi
  rw [h]
  simp only [List.setIfInBounds_toArray, List.set_cons_zero, List.set_cons_succ, if_true]
theorem sgA_env0 (p : Sg) (h : tickB p.ec.toNat p.r6.toNat = false) : (sgA p).setIfInBounds 16 (.int .i64 (tickV p.ec.toNat p.r6.toNat : Nat)) = sgA p.envl := by
  unfold Sg.envl
  rw [h]
  simp only [List.setIfInBounds_toArray, List.set_cons_zero, List.set_cons_succ, Bool.false_eq_true, if_false]
theorem sgA_env1 (p : Sg) (h : tickB p.ec.toNat p.r6.toNat = true) : ((sgA p).setIfInBounds 16 (.int .i64 (tickV p.ec.toNat p.r6.toNat : Nat))).setIfInBounds 15 (.int .i64 (envN p.r7.toNat p.env.toNat : Nat)) = sgA p.envl := by
  unfold Sg.envl
  rw [h]
  simp only [List.setIfInBounds_toArray, List.set_cons_zero, List.set_cons_succ, if_true]
theorem bool_ne (a b : Bool) : (a != b) = Bool.xor a b := by cases a <;> cases b <;> rfl
theorem bOf32 (a : Nat) (ha : a < 4294967296) : ((a : Int) % ((2 ^ 64 : Nat) : Int)).toNat = a := by omega
theorem bOr32 (a b : Nat) (ha : a < 4294967296) (hb : b < 4294967296) : bits .or .i64 (a : Int) (b : Int) = ((Nat.lor a b : Nat) : Int) := by
  have hx : Nat.lor a b < 2 ^ 32 := Nat.or_lt_two_pow (by omega) (by omega)
  show IntKind.i64.wrap ((BitVec.ofInt 64 (a : Int) ||| BitVec.ofInt 64 (b : Int)).toNat : Int) = _
  rw [BitVec.toNat_or, BitVec.toNat_ofInt, BitVec.toNat_ofInt, IntKind.wrap_i64, bOf32 a ha, bOf32 b hb]
  show (((Nat.lor a b : Nat) : Int) + _) % _ - _ = _
  omega
theorem bAnd32 (a b : Nat) (ha : a < 4294967296) (hb : b < 4294967296) : bits .and .i64 (a : Int) (b : Int) = ((Nat.land a b : Nat) : Int) := by
  have hx : Nat.land a b < 2 ^ 32 := Nat.and_lt_two_pow _ (by omega)
  show IntKind.i64.wrap ((BitVec.ofInt 64 (a : Int) &&& BitVec.ofInt 64 (b : Int)).toNat : Int) = _
  rw [BitVec.toNat_and, BitVec.toNat_ofInt, BitVec.toNat_ofInt, IntKind.wrap_i64, bOf32 a ha, bOf32 b hb]
  show (((Nat.land a b : Nat) : Int) + _) % _ - _ = _
  omega
theorem set_set (A : Array Value) (k : Nat) (a b : Value) : (A.setIfInBounds k a).setIfInBounds k b = A.setIfInBounds k b := by
  obtain ⟨l⟩ := A
  simp
def Sg.withEnv (p : Sg) (v : Int) : Sg := { p with env := v }
theorem sgA_envv (p : Sg) (v : Int) : (sgA p).setIfInBounds 15 (.int .i64 v) = sgA (p.withEnv v) := by
  unfold Sg.withEnv
  simp only [List.setIfInBounds_toArray, List.set_cons_zero, List.set_cons_succ]
theorem sgA_ec (p : Sg) (v : Int) : (sgA p).setIfInBounds 16 (.int .i64 v) = sgA { p with ec := v } := by
  simp only [List.setIfInBounds_toArray, List.set_cons_zero, List.set_cons_succ]
theorem sgA_noise (p : Sg) (v : Int) : (sgA p).setIfInBounds 13 (.int .i64 v) = sgA { p with noise := v } := by
  simp only [List.setIfInBounds_toArray, List.set_cons_zero, List.set_cons_succ]
theorem sgA_shift (p : Sg) (v : Int) : (sgA p).setIfInBounds 14 (.int .i64 v) = sgA { p with shift := v } := by
  simp only [List.setIfInBounds_toArray, List.set_cons_zero, List.set_cons_succ]
theorem bXor32 (a b : Nat) (ha : a < 4294967296) (hb : b < 4294967296) : bits .xor .i64 (a : Int) (b : Int) = ((Nat.xor a b : Nat) : Int) := by
  have hx : Nat.xor a b < 2 ^ 32 := Nat.xor_lt_two_pow (by omega) (by omega)
  show IntKind.i64.wrap ((BitVec.ofInt 64 (a : Int) ^^^ BitVec.ofInt 64 (b : Int)).toNat : Int) = _
  rw [BitVec.toNat_xor, BitVec.toNat_ofInt, BitVec.toNat_ofInt, IntKind.wrap_i64, bOf32 a ha, bOf32 b hb]
  show (((Nat.xor a b : Nat) : Int) + _) % _ - _ = _
  omega
/-- what lies there behind both channels and the noise: the envelope's turn is left -/
structure EnvIn (E : Sg) (e sh : Nat) : Prop where
  ec : 0 ≤ E.ec ∧ E.ec ≤ 255
  r6 : 0 ≤ E.r6 ∧ E.r6 ≤ 255
  env : E.env = e
  r7 : E.r7 = sh
  le : e ≤ 31
  sl : sh < 4
set_option maxRecDepth 100000 in
set_option maxHeartbeats 8000000 in
theorem sstep_spec (c : Sg) (w : World) (hok : okS c = true) : Calls Tryd.prog 36 #[sgV c] w fun e w' => e = .returned (sgV c.step) ∧ Below w.heap.size w w' := by
  obtain ⟨hr, hs, h0, h1, hn, hsh, he, hec⟩ := (okS_iff c).1 hok
  have b0 := hr 0 (by omega)
  have b1 := hr 1 (by omega)
  have b2 := hr 2 (by omega)
  have b6 := hr 6 (by omega)
  have b7 := hr 7 (by omega)
  simp only [Sg.reg, maskN] at b0 b1 b2 b6 b7
  have hs0 := hid (P2s.start w c 27 27)
  have hT : Hid (∀ (a b : Int) (w1 : World), 0 ≤ a → a < 256 → 0 ≤ b → b < 256 → Calls Tryd.prog 54 #[.int .i64 a, .int .i64 b] w1 fun e w' => e = .returned (.tuple #[.int .i64 (tickV a.toNat b.toNat : Nat), .bool (tickB a.toNat b.toNat)]) ∧ w' = w1) := fun a b w1 ha ha2 hb hb2 => by
    have := tick_spec a.toNat b.toNat w1 (by omega) (by omega)
    rw [Int.toNat_of_nonneg ha, Int.toNat_of_nonneg hb] at this
    exact this
  obtain ⟨c1, hc1⟩ : ∃ c1, c.ch0 = c1 := ⟨_, rfl⟩
  obtain ⟨d, hd⟩ : ∃ d, c1.ch1 = d := ⟨_, rfl⟩
  have q1 : (0 ≤ c1.c1 ∧ c1.c1 ≤ 255) ∧ (0 ≤ c1.r1 ∧ c1.r1 ≤ (255 : Nat)) := by rw [← hc1]; exact ⟨h1, b1⟩
  have qd : (0 ≤ d.noise ∧ d.noise ≤ 31) ∧ (0 ≤ d.r2 ∧ d.r2 ≤ (31 : Nat)) ∧ (1 ≤ d.shift ∧ d.shift ≤ 131071) ∧ (0 ≤ d.ec ∧ d.ec ≤ 255) ∧ (0 ≤ d.r6 ∧ d.r6 ≤ (255 : Nat)) ∧ (0 ≤ d.r7 ∧ d.r7 ≤ (3 : Nat)) ∧ (0 ≤ d.env ∧ d.env ≤ 31) := by rw [← hd, ← hc1]; exact ⟨hn, b2, hsh, hec, b6, b7, he⟩
  have hst : Hid (c.step = d.noi.envl) := by unfold Hid; rw [← hd, ← hc1]; rfl
  rw [hst.out]
  clear hst hr hs hn hsh he hec b1 b2 b6 b7 h1 hok
  replace hd := hid hd
  replace hc1 := hid hc1
  replace qd := hid qd
  go_enter Tryd.func36, Tryd.ntmps36
  go_upto_region 1 with fail
  obtain ⟨V, hV⟩ : ∃ V, (w.alloc (.cells (sgA c) 27)).alloc (.cells (sgA zeS) 27) = V := ⟨_, rfl⟩
  rw [hV] at hs0 ⊢
  clear hV
  go_wp2
  go_loopw [3] (fun i wr => (i = .int .i64 0 ∧ P2s w wr (sgA c)) ∨ (i = .int .i64 1 ∧ P2s w wr (sgA c1)) ∨ (i = .int .i64 2 ∧ P2s w wr (sgA d))) (fun i _ => 2 - (intOf i).toNat)
  case atStart => exact .inl ⟨rfl, hs0.out⟩
  case round =>
    clear hs0
    rcases hrel with ⟨rfl, hS⟩ | ⟨rfl, hS⟩ | ⟨rfl, hS⟩
    · have y0 : wr.cell? ⟨w.heap.size, 0, none⟩ = some (.int .i64 c.r0) := hS.q0.cell 0
      have y9 : wr.cell? ⟨w.heap.size, 9, none⟩ = some (.int .i64 c.c0) := hS.q0.cell 9
      have y11 : wr.cell? ⟨w.heap.size, 11, none⟩ = some (.bool c.o0) := hS.q0.cell 11
      have g9 := hS.q0.frozen 9
      have g11 := hS.q0.frozen 11
      have hN := hid ((hS.drew.set 9 (.int .i64 (tickV c.c0.toNat c.r0.toNat : Nat))).set 11 (.bool (Bool.xor c.o0 (tickB c.c0.toNat c.r0.toNat))))
      rw [sgA_ch0] at hN
      have hK := hid (fun w1 => hT.out c.c0 c.r0 w1 (by omega) (by omega) (by omega) (by omega))
      have hx := bool_ne c.o0 (tickB c.c0.toNat c.r0.toNat)
      clear hS
      generalize tickV c.c0.toNat c.r0.toNat = tv at *
      generalize tickB c.c0.toNat c.r0.toNat = tb at *
      go_wp2
      go_region_with (go_at_call 54; refine (hK.out _).mono ?_; rintro e w' ⟨rfl, hww⟩; obtain rfl := hww.symm)
      all_goals
        go_wp2
        go_roundw
        case rel => exact .inr (.inl ⟨rfl, by rw [← hc1.out]; exact hN.out⟩)
        case measure => simp [intOf]
    · have y0 : wr.cell? ⟨w.heap.size, 1, none⟩ = some (.int .i64 c1.r1) := hS.q0.cell 1
      have y9 : wr.cell? ⟨w.heap.size, 10, none⟩ = some (.int .i64 c1.c1) := hS.q0.cell 10
      have y11 : wr.cell? ⟨w.heap.size, 12, none⟩ = some (.bool c1.o1) := hS.q0.cell 12
      have g9 := hS.q0.frozen 10
      have g11 := hS.q0.frozen 12
      have hN := hid ((hS.drew.set 10 (.int .i64 (tickV c1.c1.toNat c1.r1.toNat : Nat))).set 12 (.bool (Bool.xor c1.o1 (tickB c1.c1.toNat c1.r1.toNat))))
      rw [sgA_ch1] at hN
      have hK := hid (fun w1 => hT.out c1.c1 c1.r1 w1 (by omega) (by omega) (by omega) (by omega))
      have hx := bool_ne c1.o1 (tickB c1.c1.toNat c1.r1.toNat)
      clear hS
      generalize tickV c1.c1.toNat c1.r1.toNat = tv at *
      generalize tickB c1.c1.toNat c1.r1.toNat = tb at *
      go_wp2
      go_region_with (go_at_call 54; refine (hK.out _).mono ?_; rintro e w' ⟨rfl, hww⟩; obtain rfl := hww.symm)
      all_goals
        go_wp2
        go_roundw
        case rel => exact .inr (.inr ⟨rfl, by rw [← hd.out]; exact hN.out⟩)
        case measure => simp [intOf]
    · obtain ⟨⟨n0, n1⟩, ⟨r20, r21⟩, ⟨s0, s1⟩, hec, hr6, hr7, hen⟩ := qd.out
      have y2 : wr.cell? ⟨w.heap.size, 2, none⟩ = some (.int .i64 d.r2) := hS.q0.cell 2
      have y13 : wr.cell? ⟨w.heap.size, 13, none⟩ = some (.int .i64 d.noise) := hS.q0.cell 13
      have y14 : wr.cell? ⟨w.heap.size, 14, none⟩ = some (.int .i64 d.shift) := hS.q0.cell 14
      have g13 := hS.q0.frozen 13
      have g14 := hS.q0.frozen 14
      have hK := hid (fun w1 => hT.out d.noise d.r2 w1 n0 (by omega) r20 (by omega))
      obtain ⟨E, hE⟩ : ∃ E, d.noi = E := ⟨_, rfl⟩
      obtain ⟨e, he⟩ : ∃ e : Nat, d.env = e := ⟨d.env.toNat, by omega⟩
      obtain ⟨sh, hsh⟩ : ∃ sh : Nat, d.r7 = sh := ⟨d.r7.toNat, by omega⟩
      have fE : Hid (EnvIn E e sh) := by
        rw [← hE]
        exact ⟨hec, ⟨hr6.1, by have := hr6.2; show d.r6 ≤ 255; omega⟩, he, hsh, by omega, by omega⟩
      have hEE : Hid (d.noi.envl = E.envl) := by rw [hE]; rfl
      clear hec hr6 hr7 hen he hsh qd q1 hd hc1 h0 b0
      obtain ⟨s, hs⟩ : ∃ s : Nat, d.shift = s := ⟨d.shift.toNat, by omega⟩
      rw [hs] at y14
      have hN := hid (hS.set 13 (.int .i64 (tickV d.noise.toNat d.r2.toNat : Nat)))
      have hN0 := sgA_noi0 d
      have hN1 := sgA_noi1 d
      rw [hs, Int.toNat_natCast] at hN1
      rw [hE] at hN0 hN1
      have hs2 : s < 131072 := by omega
      replace hs := hid hs
      clear hS hE
      replace hN0 := hid hN0
      replace hN1 := hid hN1
      generalize tickV d.noise.toNat d.r2.toNat = tv0 at *
      generalize tickB d.noise.toNat d.r2.toNat = tb0 at *
      go_upto_if 50 with (go_at_call 54; refine (hK.out _).mono ?_; rintro e' w' ⟨rfl, hww⟩; obtain rfl := hww.symm)
      obtain ⟨W0, hW0⟩ : ∃ W, wr.setCell ⟨w.heap.size, 13, none⟩ (.int .i64 (tv0 : Int)) = W := ⟨_, rfl⟩
      rw [hW0] at hN ⊢
      clear hW0 hK y2 y13 y14 g13 g14 n0 n1 r20 r21
      go_cut [] (fun wx => P2s w wx (sgA E))
      case first =>
        cases tb0
        · rw [hN0.out rfl] at hN
          go_wp2_with fail
          go_meet
          exact hN.out
        · have hX := hid (hN.out.set 14 (.int .i64 (shN s : Nat)))
          rw [hN1.out rfl] at hX
          rw [sgA_noise] at hN
          have y14 : W0.cell? ⟨w.heap.size, 14, none⟩ = some (.int .i64 d.shift) := hN.out.q0.cell 14
          rw [hs.out] at y14
          have g14 := hN.out.q0.frozen 14
          have e1 : bits .and .i64 (s : Int) 1 = ((Nat.land s 1 : Nat) : Int) := bAnd32 s 1 (by omega) (by omega)
          have e2 : bits .and .i64 ((s : Int) / 8) 1 = ((Nat.land (s / 8) 1 : Nat) : Int) := by
            have := bAnd32 (s / 8) 1 (by omega) (by omega)
            rw [← this]
            congr 1
          have l1 : Nat.land s 1 < 2 := Nat.lt_of_le_of_lt Nat.and_le_right (by omega)
          have l2 : Nat.land (s / 8) 1 < 2 := Nat.lt_of_le_of_lt Nat.and_le_right (by omega)
          have l3 : Nat.xor (Nat.land s 1) (Nat.land (s / 8) 1) < 2 := Nat.xor_lt_two_pow (n := 1) l1 l2
          have e3 : bits .xor .i64 ((Nat.land s 1 : Nat) : Int) ((Nat.land (s / 8) 1 : Nat) : Int) = ((Nat.xor (Nat.land s 1) (Nat.land (s / 8) 1) : Nat) : Int) := bXor32 _ _ (by omega) (by omega)
          have e4 : bits .or .i64 ((s : Int) / 2) (((Nat.xor (Nat.land s 1) (Nat.land (s / 8) 1) : Nat) : Int) * 65536) = ((shN s : Nat) : Int) := by
            have := bOr32 (s / 2) (Nat.xor (Nat.land s 1) (Nat.land (s / 8) 1) * 65536) (by omega) (by omega)
            unfold shN
            rw [← this]
            congr 1
          generalize Nat.xor (Nat.land s 1) (Nat.land (s / 8) 1) = A3 at *
          generalize Nat.land s 1 = A1 at *
          generalize Nat.land (s / 8) 1 = A2 at *
          generalize shN s = SN at *
          clear hN hN0 hN1
          go_wp2_with fail
          go_meet
          exact hX.out
      case rest =>
      have h := hid hcut
      clear hcut hN hN0 hN1 hs hs2 s0 s1
      have y6 : wc.cell? ⟨w.heap.size, 6, none⟩ = some (.int .i64 E.r6) := h.out.q0.cell 6
      have y16 : wc.cell? ⟨w.heap.size, 16, none⟩ = some (.int .i64 E.ec) := h.out.q0.cell 16
      have g16 := h.out.q0.frozen 16
      have hK2 := hid (fun w1 => hT.out E.ec E.r6 w1 fE.out.ec.1 (by have := fE.out.ec.2; omega) fE.out.r6.1 (by have := fE.out.r6.2; omega))
      obtain ⟨C, hC⟩ : ∃ C, E.envl = C := ⟨_, rfl⟩
      have hN := hid (h.out.set 16 (.int .i64 (tickV E.ec.toNat E.r6.toNat : Nat)))
      have hN0 := sgA_env0 E
      have hN1 := sgA_env1 E
      rw [fE.out.env, fE.out.r7, Int.toNat_natCast, Int.toNat_natCast] at hN1
      rw [hC] at hN0 hN1
      replace hN0 := hid hN0
      replace hN1 := hid hN1
      replace hC := hid hC
      clear h
      generalize tickV E.ec.toNat E.r6.toNat = tv at *
      generalize tickB E.ec.toNat E.r6.toNat = tb at *
      go_upto_if 76 with (go_at_call 54; refine (hK2.out _).mono ?_; rintro e' w' ⟨rfl, hww⟩; obtain rfl := hww.symm)
      obtain ⟨W2, hW2⟩ : ∃ W, wc.setCell ⟨w.heap.size, 16, none⟩ (.int .i64 (tv : Int)) = W := ⟨_, rfl⟩
      rw [hW2] at hN ⊢
      clear hW2 hK2 y6 y16 g16
      go_cut [] (fun wx => P2s w wx (sgA C))
      case first =>
        cases tb
        · rw [hN0.out rfl] at hN
          go_wp2_with fail
          go_meet
          exact hN.out
        · have hL := hN1.out rfl
          rw [sgA_ec, sgA_envv] at hL
          rw [sgA_ec] at hN
          obtain ⟨F, hF⟩ : ∃ F : Sg, { E with ec := (tv : Int) } = F := ⟨_, rfl⟩
          have hFe : F.env = e := by rw [← hF]; exact fE.out.env
          have hF7 : F.r7 = sh := by rw [← hF]; exact fE.out.r7
          have hle := fE.out.le
          have hsl := fE.out.sl
          rw [hF] at hN hL
          replace hL := hid hL
          clear hF fE hN0 hN1
          have y15 : W2.cell? ⟨w.heap.size, 15, none⟩ = some (.int .i64 F.env) := hN.out.q0.cell 15
          rw [hFe] at y15
          have g15 := hN.out.q0.frozen 15
          have h1 := hid (hN.out.set 15 (.int .i64 ((e : Int) + 1)))
          rw [sgA_envv] at h1
          clear hN hFe
          replace hF7 := hid hF7
          go_upto_if 83 with fail
          obtain ⟨W3, hW3⟩ : ∃ W, W2.setCell ⟨w.heap.size, 15, none⟩ (.int .i64 ((e : Int) + 1)) = W := ⟨_, rfl⟩
          rw [hW3] at h1 ⊢
          clear hW3 y15 g15
          go_cut [] (fun wx => P2s w wx (sgA (F.withEnv (env1 e : Nat))))
          case first =>
            by_cases h31 : 31 < e + 1
            · have h2 := hid (h1.out.set 15 (.int .i64 0))
              rw [sgA_envv] at h2
              have y15 : W3.cell? ⟨w.heap.size, 15, none⟩ = some (.int .i64 ((e : Int) + 1)) := h1.out.q0.cell 15
              have g15 := h1.out.q0.frozen 15
              have hE1 : Hid (env1 e = 0) := if_pos h31
              have k1 : decide ((31 : Int) < (e : Int) + 1) = true := decide_eq_true (by omega)
              clear h1 hL hsl hle
              go_wp2_with fail
              go_meet
              show P2s w _ (sgA (F.withEnv ((env1 e : Nat) : Int)))
              rw [hE1.out]
              exact h2.out
            · have y15 : W3.cell? ⟨w.heap.size, 15, none⟩ = some (.int .i64 ((e : Int) + 1)) := h1.out.q0.cell 15
              have hE1 : Hid (env1 e = e + 1) := if_neg h31
              have k1 : decide ((31 : Int) < (e : Int) + 1) = false := decide_eq_false (by omega)
              clear hL hsl hle
              go_wp2_with fail
              go_meet
              show P2s w _ (sgA (F.withEnv ((env1 e : Nat) : Int)))
              rw [hE1.out]
              exact h1.out
          case rest =>
          have h2 := hid hcut
          have hL2 : Hid (sgA (F.withEnv ((env3 sh (env2 sh (env1 e)) : Nat) : Int)) = sgA C) := hL.out
          clear hcut h1 hL
          generalize env1 e = x at *
          have y7 : wc.cell? ⟨w.heap.size, 7, none⟩ = some (.int .i64 F.r7) := h2.out.q0.cell 7
          rw [hF7.out] at y7
          have y15 : wc.cell? ⟨w.heap.size, 15, none⟩ = some (.int .i64 (x : Int)) := h2.out.q0.cell 15
          have g15 := h2.out.q0.frozen 15
          clear hF7
          rcases (by omega : sh = 0 ∨ sh = 1 ∨ sh = 2 ∨ sh = 3) with rfl | rfl | rfl | rfl
          · replace y7 : wc.cell? ⟨w.heap.size, 7, none⟩ = some (.int .i64 0) := y7
            by_cases hx : 15 < x
            · have hv : Hid (env3 0 (env2 0 x) = 15) := by
                show env3 0 (env2 0 x) = 15
                unfold env3 env2
                repeat' split
                all_goals omega
              have k2 : decide ((15 : Int) < (x : Int)) = true := decide_eq_true (by omega)
              have k3 : decide (15 < x) = true := decide_eq_true (by omega)
              have h3 := hid (h2.out.set 15 (.int .i64 15))
              rw [sgA_envv] at h3
              rw [hv.out] at hL2
              clear h2
              go_wp2_with fail
              go_meet
              rw [← hL2.out]
              exact h3.out
            · have hv : Hid (env3 0 (env2 0 x) = x) := by
                show env3 0 (env2 0 x) = x
                unfold env3 env2
                repeat' split
                all_goals omega
              have k2 : decide ((15 : Int) < (x : Int)) = false := decide_eq_false (by omega)
              have k3 : decide (15 < x) = false := decide_eq_false (by omega)
              have h3 := h2
              rw [hv.out] at hL2
              clear h2
              go_wp2_with fail
              go_meet
              rw [← hL2.out]
              exact h3.out
          · replace y7 : wc.cell? ⟨w.heap.size, 7, none⟩ = some (.int .i64 1) := y7
            by_cases hx : 15 < x
            · have hv : Hid (env3 1 (env2 1 x) = 15) := by
                show env3 1 (env2 1 x) = 15
                unfold env3 env2
                repeat' split
                all_goals omega
              have k2 : decide ((15 : Int) < (x : Int)) = true := decide_eq_true (by omega)
              have k3 : decide (15 < x) = true := decide_eq_true (by omega)
              have h3 := hid (h2.out.set 15 (.int .i64 15))
              rw [sgA_envv] at h3
              rw [hv.out] at hL2
              clear h2
              go_wp2_with fail
              go_meet
              rw [← hL2.out]
              exact h3.out
            · have hv : Hid (env3 1 (env2 1 x) = x) := by
                show env3 1 (env2 1 x) = x
                unfold env3 env2
                repeat' split
                all_goals omega
              have k2 : decide ((15 : Int) < (x : Int)) = false := decide_eq_false (by omega)
              have k3 : decide (15 < x) = false := decide_eq_false (by omega)
              have h3 := h2
              rw [hv.out] at hL2
              clear h2
              go_wp2_with fail
              go_meet
              rw [← hL2.out]
              exact h3.out
          · replace y7 : wc.cell? ⟨w.heap.size, 7, none⟩ = some (.int .i64 2) := y7
            by_cases hx : 15 < x
            · have hv : Hid (env3 2 (env2 2 x) = 0) := by
                show env3 2 (env2 2 x) = 0
                unfold env3 env2
                repeat' split
                all_goals omega
              have k2 : decide ((15 : Int) < (x : Int)) = true := decide_eq_true (by omega)
              have k3 : decide (15 < x) = true := decide_eq_true (by omega)
              have h3 := hid (h2.out.set 15 (.int .i64 0))
              rw [sgA_envv] at h3
              rw [hv.out] at hL2
              clear h2
              go_wp2_with fail
              go_meet
              rw [← hL2.out]
              exact h3.out
            · have hv : Hid (env3 2 (env2 2 x) = x) := by
                show env3 2 (env2 2 x) = x
                unfold env3 env2
                repeat' split
                all_goals omega
              have k2 : decide ((15 : Int) < (x : Int)) = false := decide_eq_false (by omega)
              have k3 : decide (15 < x) = false := decide_eq_false (by omega)
              have h3 := h2
              rw [hv.out] at hL2
              clear h2
              go_wp2_with fail
              go_meet
              rw [← hL2.out]
              exact h3.out
          · replace y7 : wc.cell? ⟨w.heap.size, 7, none⟩ = some (.int .i64 3) := y7
            by_cases hx : 15 < x
            · have hv : Hid (env3 3 (env2 3 x) = x) := by
                show env3 3 (env2 3 x) = x
                unfold env3 env2
                repeat' split
                all_goals omega
              have k2 : decide ((15 : Int) < (x : Int)) = true := decide_eq_true (by omega)
              have k3 : decide (15 < x) = true := decide_eq_true (by omega)
              have h3 := h2
              rw [hv.out] at hL2
              clear h2
              go_wp2_with fail
              go_meet
              rw [← hL2.out]
              exact h3.out
            · have hv : Hid (env3 3 (env2 3 x) = x) := by
                show env3 3 (env2 3 x) = x
                unfold env3 env2
                repeat' split
                all_goals omega
              have k2 : decide ((15 : Int) < (x : Int)) = false := decide_eq_false (by omega)
              have k3 : decide (15 < x) = false := decide_eq_false (by omega)
              have h3 := h2
              rw [hv.out] at hL2
              clear h2
              go_wp2_with fail
              go_meet
              rw [← hL2.out]
              exact h3.out
      case rest =>
      have hF := hid hcut
      clear hcut hN hN0 hN1
      have hrg := hid (sg_range hF.out.q0)
      have hth := hid (sg_there hF.out.q1 C)
      obtain ⟨tt, ht⟩ := sg_laid hF.out.q1 C
      replace ht := hid ht
      have hB := hid hF.out.bel
      clear hF
      go_wp2_with (first | (refine wpList_store_mid rfl 27 _ _ rfl (w.heap.size + 1) 0 (sgA C) rfl rfl hth.out (sg_size C) (sg_one C) ?_) | (refine wpList_load_mid rfl 27 _ rfl w.heap.size 0 rfl (sgA C).toList _ hrg.out Tryd.underlying27 rfl (sg_size C) ?_))
      exact bodyPost_ret (v := sgV C) (results_cell_row Tryd.results36 _ _ (w.heap.size + 1) tt (sgA C) (0, 0) _ rfl ht.out Tryd.underlying27 rfl (sg_size C)) rfl ⟨by rw [hEE.out, hC.out], lay_below _ _ _ (by omega) hB.out⟩
end Go.Proofs.YtjdgfbaioafjcaaDoor
