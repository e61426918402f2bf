/- What the program's processor does: the unit's answers for bytes, a turn as a closure, the copy of a byte. -/
import Derived.Test.YtgpmpfikeindfaaGreatDoorV27
import Derived.Test.YtgpmpfikeindfaaGreatDoorPkv
import Derived.Test.YtgpmpfikeindfaaGreatDoorPdv
import Derived.BigRegion
namespace Go.Proofs.YtgpmpfikeindfaaGreatDoor
open Go.ChangeShapes Go.WideShapes Go.ChangeAt Go.RowKit Go.Shelf
set_option linter.unusedVariables false
set_option linter.unusedSimpArgs false

theorem inc8N (a f : Nat) (ha : a < 256) (hf : f < 256) : inc8V (a : Int) (f : Int) = .tuple #[.int .i64 (incV a : Int), .int .i64 (incF a f : Int), .int .i64 0] := by
  unfold inc8V
  have h : askB (a : Int) (f : Int) 0 = true := askN a f 0 ha hf (by omega)
  rw [if_pos h]
  simp
theorem dec8N (a f : Nat) (ha : a < 256) (hf : f < 256) : dec8V (a : Int) (f : Int) = .tuple #[.int .i64 (decV a : Int), .int .i64 (decF a f : Int), .int .i64 0] := by
  unfold dec8V
  have h : askB (a : Int) (f : Int) 0 = true := askN a f 0 ha hf (by omega)
  rw [if_pos h]
  simp
theorem daa8N (a f : Nat) (ha : a < 256) (hf : f < 256) : daa8V (a : Int) (f : Int) = .tuple #[.int .i64 (daaV a f : Int), .int .i64 (daaF a f : Int), .int .i64 0] := by
  unfold daa8V
  have h : askB (a : Int) (f : Int) 0 = true := askN a f 0 ha hf (by omega)
  rw [if_pos h]
  simp
theorem turn8N (o a f : Nat) (ho : o < 8) (ha : a < 256) (hf : f < 256) : turn8V (o : Int) (a : Int) (f : Int) = .tuple #[.int .i64 (turnV o a (Nat.land f 1) : Int), .int .i64 (turnF o a (Nat.land f 1) : Int), .int .i64 0] := by
  have h2 : inB (o : Int) 0 7 = true := by simp [inB]; omega
  unfold turn8V
  rw [if_pos (by rw [h2]; exact askN a f 0 ha hf (by omega))]
  simp only [Int.toNat_natCast]
  rfl
theorem turn_clo (o v f I : Nat) (W : World) (hL : Flags W) (hi : W.cell? ⟨I, 1, none⟩ = some (.int .i64 (o : Int))) (ho : o < 8) (hv : v < 256) (hf : f < 256) :
    Calls Tryz.prog 83 #[.int .i64 (v : Int), .int .i64 (f : Int), .pointer (some ⟨I, 0, none⟩)] W fun e w' => e = .returned (.tuple #[.int .i64 (turnV o v (Nat.land f 1) : Int), .int .i64 (turnF o v (Nat.land f 1) : Int), .int .i64 0]) ∧ Below W.heap.size W w' := by
  have hA := hid (turn8_impl (o : Int) (v : Int) (f : Int) W hL)
  rw [turn8N o v f ho hv hf] at hA
  generalize turnV o v (Nat.land f 1) = T at *
  generalize turnF o v (Nat.land f 1) = F at *
  replace hL := hid hL
  go_enter Tryz.func83, Tryz.ntmps83
  go_wp2_with fail
  refine hA.out.mono ?_
  rintro e w1 ⟨rfl, hb1⟩
  replace hb1 := hid hb1
  go_wp2
  go_ret3
  exact ⟨rfl, hb1.out⟩
theorem copy_bit (n : Nat) (h : n < 512) : whenI (((Nat.land n 2 : Nat) : Int) != 0) 32 = ((Nat.land (n * 16) 32 : Nat) : Int) := by
  have h1 : ∀ n : Nat, n < 512 → whenN (!(Nat.beq (Nat.land n 2) 0)) 32 = Nat.land (n * 16) 32 := by decide +kernel
  rw [← h1 n h, show (32 : Int) = ((32 : Nat) : Int) from rfl, when_nat]
  congr 2
  rw [ne0]
  cases Nat.land n 2 <;> rfl
set_option maxRecDepth 100000 in
set_option maxHeartbeats 2000000 in
theorem pcopy (p : Par) (hT : Tells p) (z : Kps) (W : World) (x : Mx) (h : At p z W x) (hl : x.cy.length ≤ 900) (hk : okM x.m = true) (hc : x.c.ok) :
    Calls Tryz.prog 102 #[.pointer (some ⟨p.Y, 0, none⟩)] W fun e W' => e = .returned (.tuple #[]) ∧ At p z W' x.copy := by
  obtain ⟨hb, _, hd, _, hh, _, ha, hf, _, _⟩ := hc
  have hv := (peek_byte hk hh).2
  have x0 := h.cell
  have hrd := hid (pread x.c.h p hT z W x h (by omega) hk hh)
  obtain ⟨v, hv2⟩ : ∃ v, peekN x.m x.c.h = v := ⟨_, rfl⟩
  rw [hv2] at hrd hv
  have r1 : bits .and .i64 ((x.c.h : Int) + 1) 255 = (((x.c.h + 1) % 256 : Nat) : Int) := and255 (x.c.h + 1) (by omega)
  have r2 : bits .and .i64 ((x.c.d : Int) + 1) 255 = (((x.c.d + 1) % 256 : Nat) : Int) := and255 (x.c.d + 1) (by omega)
  have r3 := and255m x.c.b hb
  have wr1 : IntKind.i64.wrap ((x.c.h : Int) + 1) = (x.c.h : Int) + 1 := by rw [IntKind.wrap_i64]; omega
  have wr2 : IntKind.i64.wrap ((x.c.d : Int) + 1) = (x.c.d : Int) + 1 := by rw [IntKind.wrap_i64]; omega
  have wr3 : IntKind.i64.wrap ((x.c.b : Int) - 1) = (x.c.b : Int) - 1 := by rw [IntKind.wrap_i64]; omega
  have hX : x.copy = { ((x.read x.c.h).write x.c.d v) with c := { x.c with h := (x.c.h + 1) % 256, d := (x.c.d + 1) % 256, b := (x.c.b + 255) % 256, f := copyF x.c.f (v + x.c.a) ((x.c.b + 255) % 256) } } := by rw [← hv2]; rfl
  rw [hX]
  clear hX hv2 h
  generalize (x.c.h + 1) % 256 = s1 at *
  generalize (x.c.d + 1) % 256 = s2 at *
  generalize (x.c.b + 255) % 256 = s3 at *
  have q1 := hid (fun w => around_impl ((x.c.h : Int) + 1) s1 r1 w)
  have q2 := hid (fun w => around_impl ((x.c.d : Int) + 1) s2 r2 w)
  have q3 := hid (fun w => around_impl ((x.c.b : Int) - 1) s3 r3 w)
  clear r1 r2 r3
  have hwr : Hid (∀ w1, At p z w1 (x.read x.c.h) → Calls _ _ _ w1 _) := fun w1 h1 => pwrite x.c.d v p hT z w1 (x.read x.c.h) h1 (by show (x.cy ++ [_]).length ≤ 1000; simp; omega) hk hd
  obtain ⟨Y, hY⟩ : ∃ Y, (x.read x.c.h).write x.c.d v = Y := ⟨_, rfl⟩
  have hYc : Y.c = x.c := by rw [← hY]; rfl
  rw [hY] at hwr ⊢
  clear hY
  have hyc : (x.read x.c.h).c = x.c := rfl
  generalize x.read x.c.h = y at *
  obtain ⟨N1, hN1⟩ : ∃ N1, v + x.c.a = N1 := ⟨_, rfl⟩
  have hN2 : (v : Int) + (x.c.a : Int) = (N1 : Int) := by omega
  have hN3 : N1 < 512 := by omega
  have a1 : bits .and .i64 (x.c.f : Int) 193 = ((Nat.land x.c.f 193 : Nat) : Int) := bAnd x.c.f 193 (by omega) (by omega)
  have a2 : bits .and .i64 (N1 : Int) 8 = ((Nat.land N1 8 : Nat) : Int) := bAnd N1 8 (by omega) (by omega)
  have a3 : bits .and .i64 (N1 : Int) 2 = ((Nat.land N1 2 : Nat) : Int) := bAnd N1 2 (by omega) (by omega)
  have wh2 := copy_bit N1 hN3
  have l1 : Nat.land x.c.f 193 < 2 ^ 8 := Nat.and_lt_two_pow _ (by omega)
  have l2 : Nat.land N1 8 < 2 ^ 8 := Nat.and_lt_two_pow _ (by omega)
  have l3 : Nat.land (N1 * 16) 32 < 2 ^ 8 := Nat.and_lt_two_pow _ (by omega)
  have o1 : bits .or .i64 ((Nat.land x.c.f 193 : Nat) : Int) ((Nat.land N1 8 : Nat) : Int) = ((Nat.lor (Nat.land x.c.f 193) (Nat.land N1 8) : Nat) : Int) := bOr _ _ (by omega) (by omega)
  have l4 : Nat.lor (Nat.land x.c.f 193) (Nat.land N1 8) < 2 ^ 8 := Nat.or_lt_two_pow l1 l2
  have o2 : bits .or .i64 ((Nat.lor (Nat.land x.c.f 193) (Nat.land N1 8) : Nat) : Int) ((Nat.land (N1 * 16) 32 : Nat) : Int) = ((Nat.lor (Nat.lor (Nat.land x.c.f 193) (Nat.land N1 8)) (Nat.land (N1 * 16) 32) : Nat) : Int) := bOr _ _ (by omega) (by omega)
  have l5 : Nat.lor (Nat.lor (Nat.land x.c.f 193) (Nat.land N1 8)) (Nat.land (N1 * 16) 32) < 2 ^ 8 := Nat.or_lt_two_pow l4 l3
  obtain ⟨P4, hP4⟩ : ∃ P4, (if s3 = 0 then 0 else 4 : Nat) = P4 := ⟨_, rfl⟩
  have wh4 : whenI ((s3 : Int) != 0) 4 = (P4 : Int) := by
    rw [← hP4]
    by_cases hs : s3 = 0
    · subst hs; rfl
    · have : ((s3 : Int) != 0) = true := by simp; omega
      rw [this, if_neg hs]; rfl
  have lP : P4 < 2 ^ 8 := by rw [← hP4]; split <;> omega
  have o3 : bits .or .i64 ((Nat.lor (Nat.lor (Nat.land x.c.f 193) (Nat.land N1 8)) (Nat.land (N1 * 16) 32) : Nat) : Int) (P4 : Int) = ((Nat.lor (Nat.lor (Nat.lor (Nat.land x.c.f 193) (Nat.land N1 8)) (Nat.land (N1 * 16) 32)) P4 : Nat) : Int) := bOr _ _ (by omega) (by omega)
  have hF : copyF x.c.f (v + x.c.a) s3 = Nat.lor (Nat.lor (Nat.lor (Nat.land x.c.f 193) (Nat.land N1 8)) (Nat.land (N1 * 16) 32)) P4 := by unfold copyF; rw [hN1, hP4]
  rw [hF]
  clear hF hP4 hN1 hN3
  generalize Nat.lor (Nat.lor (Nat.lor (Nat.land x.c.f 193) (Nat.land N1 8)) (Nat.land (N1 * 16) 32)) P4 = R4 at *
  generalize Nat.lor (Nat.lor (Nat.land x.c.f 193) (Nat.land N1 8)) (Nat.land (N1 * 16) 32) = R3 at *
  generalize Nat.lor (Nat.land x.c.f 193) (Nat.land N1 8) = R2 at *
  generalize Nat.land x.c.f 193 = R1 at *
  generalize Nat.land N1 8 = A8 at *
  generalize Nat.land N1 2 = A2 at *
  generalize Nat.land (N1 * 16) 32 = A32 at *
  clear l1 l2 l3 l4 l5 lP
  generalize hB2 : ((A2 : Int) != 0) = b2 at *
  generalize hB4 : ((s3 : Int) != 0) = b4 at *
  have w2a := hid (fun w => when_impl b2 32 w)
  have w4a := hid (fun w => when_impl b4 4 w)
  rw [wh2] at w2a
  rw [wh4] at w4a
  clear wh2 wh4
  replace hT := hid hT
  go_enter Tryz.func102, Tryz.ntmps102
  go_wp2_with fail
  refine hrd.out.mono ?_
  rintro e w1 ⟨rfl, h1⟩
  have x1 := h1.cell
  rw [hyc] at x1
  replace h1 := hid h1
  clear hrd x0
  go_wp2_with fail
  refine (hwr.out _ h1.out).mono ?_
  rintro e w2 ⟨rfl, h2⟩
  clear hwr x1 h1
  have x2 : ∀ i, w2.cell? ⟨p.Y, i, none⟩ = (proA x.c p.B p.n p.I p.V)[i]? := by rw [← hYc]; exact h2.cell
  have f2 := h2.frozen
  have z2 := h2.lt
  go_upto_region 2 with fail
  go_region_with (go_at_call 54; (try rw [wr1]); refine (q1.out _).mono ?_; rintro e w' ⟨rfl, hww⟩; obtain rfl := hww.symm)
  obtain ⟨w3, hW3⟩ : ∃ V, (w2.setCell ⟨p.Y, 4, none⟩ (.int .i64 (s1 : Int))).drew = V := ⟨_, rfl⟩
  have h3 := (h2.put 4 (.int .i64 (s1 : Int)) { Y.c with h := s1 } rfl).drew
  rw [hW3] at h3 ⊢
  clear hW3 x2 f2 z2 h2
  have x3 : ∀ i, w3.cell? ⟨p.Y, i, none⟩ = (proA { x.c with h := s1 } p.B p.n p.I p.V)[i]? := by rw [← hYc]; exact h3.cell
  have f3 := h3.frozen
  have z3 := h3.lt
  go_upto_region 3 with fail
  go_region_with (go_at_call 54; (try rw [wr2]); refine (q2.out _).mono ?_; rintro e w' ⟨rfl, hww⟩; obtain rfl := hww.symm)
  obtain ⟨w4, hW4⟩ : ∃ V, (w3.setCell ⟨p.Y, 2, none⟩ (.int .i64 (s2 : Int))).drew = V := ⟨_, rfl⟩
  have h4 := (h3.put 2 (.int .i64 (s2 : Int)) { Y.c with h := s1, d := s2 } rfl).drew
  rw [hW4] at h4 ⊢
  clear hW4 x3 f3 z3 h3
  have x4 : ∀ i, w4.cell? ⟨p.Y, i, none⟩ = (proA { x.c with h := s1, d := s2 } p.B p.n p.I p.V)[i]? := by rw [← hYc]; exact h4.cell
  have f4 := h4.frozen
  have z4 := h4.lt
  go_upto_region 4 with fail
  go_region_with (go_at_call 54; (try rw [wr3]); refine (q3.out _).mono ?_; rintro e w' ⟨rfl, hww⟩; obtain rfl := hww.symm)
  obtain ⟨w5, hW5⟩ : ∃ V, (w4.setCell ⟨p.Y, 0, none⟩ (.int .i64 (s3 : Int))).drew = V := ⟨_, rfl⟩
  have h5 := (h4.put 0 (.int .i64 (s3 : Int)) { Y.c with h := s1, d := s2, b := s3 } rfl).drew
  rw [hW5] at h5 ⊢
  clear hW5 x4 f4 z4 h4
  have x5 : ∀ i, w5.cell? ⟨p.Y, i, none⟩ = (proA { x.c with h := s1, d := s2, b := s3 } p.B p.n p.I p.V)[i]? := by rw [← hYc]; exact h5.cell
  have f5 := h5.frozen
  have z5 := h5.lt
  have h6 := hid ((h5.put 8 (.int .i64 (R4 : Int)) { Y.c with h := s1, d := s2, b := s3, f := R4 } rfl).drew)
  rw [hYc] at h6
  replace h5 := hid h5
  go_upto_region 6 with fail
  go_region_with (first | (go_at_call_of 129 (Value.int .i64 32); refine (w2a.out _).mono ?_; rintro e w' ⟨rfl, hww⟩; obtain rfl := hww.symm) | (go_at_call_of 129 (Value.int .i64 4); refine (w4a.out _).mono ?_; rintro e w' ⟨rfl, hww⟩; obtain rfl := hww.symm))
  all_goals (try go_wp2)
  all_goals exact bodyPost_end (v := .tuple #[]) (by simp [results, Tryz.results102]) rfl ⟨rfl, h6.out⟩
end Go.Proofs.YtgpmpfikeindfaaGreatDoor
