/- The level of the sound chip: plain numbers, and the specification. -/
import Derived.Test.YtjdgfbaioafjcaaDoorYg
namespace Go.Proofs.YtjdgfbaioafjcaaDoor
open Go.ChangeShapes Go.WideShapes Go.ChangeAt Go.RowKit
set_option linter.unusedVariables false
set_option linter.unusedSimpArgs false

/-- the envelope's level, by its shape -/
def shapeN (sh e : Nat) : Nat := if sh = 1 then Nat.land e 15 else if sh = 3 then (if 15 < e then 31 - e else e) else 15 - Nat.land e 15
def volN (sh e v : Nat) : Nat := if 15 < v then shapeN sh e else v
/-- a bit of what is off -/
def offB (r i : Nat) : Bool := Nat.beq (Nat.land (r / 2 ^ i) 1) 1
def chN (o : Bool) (s r i sh e v : Nat) : Nat := if ((o || offB r i) && (Nat.beq (Nat.land s 1) 1 || offB r (2 + i))) = true then volN sh e v else 0
def Sg.ch (p : Sg) : Nat → Nat
  | 0 => chN p.o0 p.shift.toNat p.r3.toNat 0 p.r7.toNat p.env.toNat p.r4.toNat
  | _ => chN p.o1 p.shift.toNat p.r3.toNat 1 p.r7.toNat p.env.toNat p.r5.toNat
def levN (p : Sg) : Nat := p.ch 0 + p.ch 1
def lev2 (p : Sg) : Int × Int := if okS p = true then ((levN p : Nat), 0) else (0, 1)
theorem shapeN_le (sh e : Nat) (h : e < 32) : shapeN sh e ≤ 15 := by
  unfold shapeN
  have : Nat.land e 15 ≤ 15 := Nat.and_le_right
  repeat' split
  all_goals omega
theorem chN_le (o : Bool) (s r i sh e v : Nat) (h : e < 32) (hv : v < 32) : chN o s r i sh e v ≤ 15 := by
  unfold chN volN
  have := shapeN_le sh e h
  repeat' split
  all_goals omega
theorem land15 : ∀ v : Nat, v < 16 → Nat.land v 15 = v := by decide +kernel
theorem land1_cases (x : Nat) : Nat.land x 1 = 0 ∨ Nat.land x 1 = 1 := by
  have : Nat.land x 1 ≤ 1 := Nat.and_le_right
  omega
theorem off_int0 (r : Nat) (hr : r < 16) : bits .and .i64 (r : Int) 1 = if offB r 0 = true then 1 else 0 := by
  have e : offB r 0 = Nat.beq (Nat.land r 1) 1 := by unfold offB; rw [Nat.pow_zero, Nat.div_one]
  have q : bits .and .i64 (r : Int) 1 = ((Nat.land r 1 : Nat) : Int) := bAnd r 1 (by omega) (by omega)
  rw [e, q]
  rcases land1_cases r with h | h <;> rw [h] <;> rfl
theorem off_int1 (r : Nat) (hr : r < 16) : bits .and .i64 ((r : Int) / 2) 1 = if offB r 1 = true then 1 else 0 := by
  have e : offB r 1 = Nat.beq (Nat.land (r / 2) 1) 1 := rfl
  have q : bits .and .i64 ((r / 2 : Nat) : Int) 1 = ((Nat.land (r / 2) 1 : Nat) : Int) := bAnd (r / 2) 1 (by omega) (by omega)
  rw [e, show (r : Int) / 2 = ((r / 2 : Nat) : Int) by omega, q]
  rcases land1_cases (r / 2) with h | h <;> rw [h] <;> rfl
theorem off_int2 (r : Nat) (hr : r < 16) : bits .and .i64 ((r : Int) / 4) 1 = if offB r 2 = true then 1 else 0 := by
  have e : offB r 2 = Nat.beq (Nat.land (r / 4) 1) 1 := rfl
  have q : bits .and .i64 ((r / 4 : Nat) : Int) 1 = ((Nat.land (r / 4) 1 : Nat) : Int) := bAnd (r / 4) 1 (by omega) (by omega)
  rw [e, show (r : Int) / 4 = ((r / 4 : Nat) : Int) by omega, q]
  rcases land1_cases (r / 4) with h | h <;> rw [h] <;> rfl
theorem off_int3 (r : Nat) (hr : r < 16) : bits .and .i64 ((r : Int) / 8) 1 = if offB r 3 = true then 1 else 0 := by
  have e : offB r 3 = Nat.beq (Nat.land (r / 8) 1) 1 := rfl
  have q : bits .and .i64 ((r / 8 : Nat) : Int) 1 = ((Nat.land (r / 8) 1 : Nat) : Int) := bAnd (r / 8) 1 (by omega) (by omega)
  rw [e, show (r : Int) / 8 = ((r / 8 : Nat) : Int) by omega, q]
  rcases land1_cases (r / 8) with h | h <;> rw [h] <;> rfl
theorem odd_int (s : Nat) (hs : s < 131072) : bits .and .i64 (s : Int) 1 = if Nat.beq (Nat.land s 1) 1 = true then 1 else 0 := by
  have q : bits .and .i64 (s : Int) 1 = ((Nat.land s 1 : Nat) : Int) := bAnd32 s 1 (by omega) (by omega)
  rw [q]
  rcases land1_cases s with h | h <;> rw [h] <;> rfl
theorem shape_spec (sh e : Nat) (w : World) (hs : sh < 4) (he : e < 32) : Calls Tryd.prog 56 #[.int .i64 (sh : Int), .int .i64 (e : Int)] w fun r w' => r = .returned (.int .i64 (shapeN sh e : Nat)) ∧ w' = w := by
  have rA : bits .and .i64 (e : Int) 15 = (Nat.land e 15 : Nat) := bAnd e 15 (by omega) (by omega)
  have hl : Nat.land e 15 ≤ 15 := Nat.and_le_right
  unfold shapeN
  generalize Nat.land e 15 = L at *
  rcases (by omega : sh = 0 ∨ sh = 1 ∨ sh = 2 ∨ sh = 3) with rfl | rfl | rfl | rfl
  · go_enter Tryd.func56, Tryd.ntmps56
    go_wp2
    go_ret
    exact ⟨by go_num, rfl⟩
  · go_enter Tryd.func56, Tryd.ntmps56
    go_wp2
    go_ret
    exact ⟨by go_num, rfl⟩
  · go_enter Tryd.func56, Tryd.ntmps56
    go_wp2
    go_ret
    exact ⟨by go_num, rfl⟩
  · by_cases h : 15 < e
    · rw [if_neg (by omega), if_pos rfl, if_pos h]
      go_enter Tryd.func56, Tryd.ntmps56
      go_wp2
      go_ret
      exact ⟨by go_num, rfl⟩
    · rw [if_neg (by omega), if_pos rfl, if_neg h]
      go_enter Tryd.func56, Tryd.ntmps56
      go_wp2
      go_ret
      exact ⟨rfl, rfl⟩
theorem bitS_spec (b : Bool) (w : World) : Calls Tryd.prog 57 #[.bool b] w fun e w' => e = .returned (.int .i64 (if b = true then 1 else 0)) ∧ w' = w := by
  cases b
  all_goals
    go_enter Tryd.func57, Tryd.ntmps57
    go_wp2
    go_ret
    exact ⟨rfl, rfl⟩
set_option maxRecDepth 100000 in
set_option maxHeartbeats 4000000 in
theorem lev0_spec (c : Sg) (w : World) (hok : okS c = true) : Calls Tryd.prog 38 #[sgV c] w fun e w' => e = .returned (.int .i64 (levN c : Nat)) ∧ Below w.heap.size w w' := by
  have hB := hid ((Below.refl w.heap.size w).alloc (Nat.le_refl _) (.cells (sgA c) 27))
  have q1 := hid (Blk.new w (sgA c) 27)
  obtain ⟨hr, hs, h0, h1, hn, hsh, he, hec⟩ := (okS_iff c).1 hok
  have b3 := hr 3 (by omega)
  have b4 := hr 4 (by omega)
  have b5 := hr 5 (by omega)
  have b7 := hr 7 (by omega)
  simp only [Sg.reg, maskN] at b3 b4 b5 b7
  obtain ⟨r3, e3⟩ : ∃ n : Nat, c.r3 = n := ⟨c.r3.toNat, by omega⟩
  obtain ⟨r4, e4⟩ : ∃ n : Nat, c.r4 = n := ⟨c.r4.toNat, by omega⟩
  obtain ⟨r5, e5⟩ : ∃ n : Nat, c.r5 = n := ⟨c.r5.toNat, by omega⟩
  obtain ⟨r7, e7⟩ : ∃ n : Nat, c.r7 = n := ⟨c.r7.toNat, by omega⟩
  obtain ⟨s, es⟩ : ∃ n : Nat, c.shift = n := ⟨c.shift.toNat, by omega⟩
  obtain ⟨e, ee⟩ : ∃ n : Nat, c.env = n := ⟨c.env.toNat, by omega⟩
  have hl : levN c = chN c.o0 s r3 0 r7 e r4 + chN c.o1 s r3 1 r7 e r5 := by
    unfold levN Sg.ch
    rw [e3, e4, e5, e7, es, ee]
    simp only [Int.toNat_natCast]
  obtain ⟨o0, ho0⟩ : ∃ o, c.o0 = o := ⟨_, rfl⟩
  obtain ⟨o1, ho1⟩ : ∃ o, c.o1 = o := ⟨_, rfl⟩
  rw [hl, ho0, ho1]
  clear hl
  replace ho0 := hid ho0
  replace ho1 := hid ho1
  go_enter Tryd.func38, Tryd.ntmps38
  go_upto_region 1 with fail
  obtain ⟨V, hV⟩ : ∃ V, w.alloc (Obj.cells (sgA c) 27) = V := ⟨_, rfl⟩
  rw [hV] at hB q1 ⊢
  clear hV
  have y3 : V.cell? ⟨w.heap.size, 3, none⟩ = some (.int .i64 c.r3) := q1.out.cell 3
  have y4 : V.cell? ⟨w.heap.size, 4, none⟩ = some (.int .i64 c.r4) := q1.out.cell 4
  have y5 : V.cell? ⟨w.heap.size, 5, none⟩ = some (.int .i64 c.r5) := q1.out.cell 5
  have y7 : V.cell? ⟨w.heap.size, 7, none⟩ = some (.int .i64 c.r7) := q1.out.cell 7
  have y11 : V.cell? ⟨w.heap.size, 11, none⟩ = some (.bool c.o0) := q1.out.cell 11
  have y12 : V.cell? ⟨w.heap.size, 12, none⟩ = some (.bool c.o1) := q1.out.cell 12
  have y14 : V.cell? ⟨w.heap.size, 14, none⟩ = some (.int .i64 c.shift) := q1.out.cell 14
  have y15 : V.cell? ⟨w.heap.size, 15, none⟩ = some (.int .i64 c.env) := q1.out.cell 15
  rw [e3] at y3
  rw [e4] at y4
  rw [e5] at y5
  rw [e7] at y7
  rw [es] at y14
  rw [ee] at y15
  have L3 : r3 < 16 := by omega
  have L4 : r4 < 32 := by omega
  have L5 : r5 < 32 := by omega
  have L7 : r7 < 4 := by omega
  have Le : e < 32 := by omega
  have Ls : s < 131072 := by omega
  clear hok hr hs h0 h1 hn hsh he hec b3 b4 b5 b7 e3 e4 e5 e7 es ee q1
  rw [ho0.out] at y11
  rw [ho1.out] at y12
  clear ho0 ho1
  go_wp2
  go_loop [3, 4] (fun t i => (i = .int .i64 0 ∧ t = .int .i64 0) ∨ (i = .int .i64 1 ∧ t = .int .i64 (chN o0 s r3 0 r7 e r4 : Nat)) ∨ (i = .int .i64 2 ∧ t = .int .i64 (chN o0 s r3 0 r7 e r4 + chN o1 s r3 1 r7 e r5 : Nat))) (fun _ i => 2 - (intOf i).toNat)
  case atStart => exact .inl ⟨rfl, rfl⟩
  case round =>
    rcases hrel with ⟨rfl, rfl⟩ | ⟨rfl, rfl⟩ | ⟨rfl, rfl⟩
    · have hSh := hid (fun w1 => shape_spec r7 e w1 L7 Le)
      have rV : bits .and .i64 (r4 : Int) 15 = (Nat.land r4 15 : Nat) := bAnd r4 15 (by omega) (by omega)
      have hV15 := shapeN_le r7 e Le
      have fT := off_int0 r3 L3
      have fN := off_int2 r3 L3
      have fS := odd_int s Ls
      have hX : chN o0 s r3 0 r7 e r4 = if ((o0 || offB r3 0) && (Nat.beq (Nat.land s 1) 1 || offB r3 2)) = true then (if 15 < r4 then shapeN r7 e else r4) else 0 := rfl
      have hL : r4 < 16 → Nat.land r4 15 = r4 := land15 r4
      generalize offB r3 0 = bT at *
      generalize offB r3 2 = bN at *
      generalize Nat.beq (Nat.land s 1) 1 = bS at *
      generalize shapeN r7 e = VV at *
      obtain ⟨X, hXX⟩ : ∃ X, chN o0 s r3 0 r7 e r4 = X := ⟨_, rfl⟩
      rw [hXX] at hX
      replace hXX := hid hXX
      by_cases hv : 15 < r4
      · rw [if_pos hv] at hX
        clear hL
        generalize Nat.land r4 15 = LL at *
        have hvb : decide ((15 : Int) < (r4 : Int)) = true := decide_eq_true (by omega)
        cases o0
        · skip
          cases bT
          · skip
            cases bS
            · skip
              cases bN
              · skip
                have hx : Hid (X = 0) := by rw [hX]; rfl
                clear hX
                replace fN : bits .and .i64 ((r3 : Int) / 4) 1 = 0 := fN
                replace fS : bits .and .i64 (s : Int) 1 = 0 := fS
                replace fT : bits .and .i64 (r3 : Int) 1 = 0 := fT
                go_wp2_with (first | (go_at_call 56; refine (hSh.out _).mono ?_; rintro e w' ⟨rfl, hww⟩; obtain rfl := hww.symm) | (go_at_call 57; refine (bitS_spec _ _).mono ?_; rintro e w' ⟨rfl, hww⟩; obtain rfl := hww.symm))
                go_round
                case rel => exact .inr (.inl ⟨rfl, by rw [hXX.out, hx.out]; all_goals go_num⟩)
                case measure => simp [intOf]
              · skip
                have hx : Hid (X = 0) := by rw [hX]; rfl
                clear hX
                replace fN : bits .and .i64 ((r3 : Int) / 4) 1 = 1 := fN
                replace fS : bits .and .i64 (s : Int) 1 = 0 := fS
                replace fT : bits .and .i64 (r3 : Int) 1 = 0 := fT
                go_wp2_with (first | (go_at_call 56; refine (hSh.out _).mono ?_; rintro e w' ⟨rfl, hww⟩; obtain rfl := hww.symm) | (go_at_call 57; refine (bitS_spec _ _).mono ?_; rintro e w' ⟨rfl, hww⟩; obtain rfl := hww.symm))
                go_round
                case rel => exact .inr (.inl ⟨rfl, by rw [hXX.out, hx.out]; all_goals go_num⟩)
                case measure => simp [intOf]
            · skip
              cases bN
              · skip
                have hx : Hid (X = 0) := by rw [hX]; rfl
                clear hX
                clear fN
                replace fS : bits .and .i64 (s : Int) 1 = 1 := fS
                replace fT : bits .and .i64 (r3 : Int) 1 = 0 := fT
                go_wp2_with (first | (go_at_call 56; refine (hSh.out _).mono ?_; rintro e w' ⟨rfl, hww⟩; obtain rfl := hww.symm) | (go_at_call 57; refine (bitS_spec _ _).mono ?_; rintro e w' ⟨rfl, hww⟩; obtain rfl := hww.symm))
                go_round
                case rel => exact .inr (.inl ⟨rfl, by rw [hXX.out, hx.out]; all_goals go_num⟩)
                case measure => simp [intOf]
              · skip
                have hx : Hid (X = 0) := by rw [hX]; rfl
                clear hX
                clear fN
                replace fS : bits .and .i64 (s : Int) 1 = 1 := fS
                replace fT : bits .and .i64 (r3 : Int) 1 = 0 := fT
                go_wp2_with (first | (go_at_call 56; refine (hSh.out _).mono ?_; rintro e w' ⟨rfl, hww⟩; obtain rfl := hww.symm) | (go_at_call 57; refine (bitS_spec _ _).mono ?_; rintro e w' ⟨rfl, hww⟩; obtain rfl := hww.symm))
                go_round
                case rel => exact .inr (.inl ⟨rfl, by rw [hXX.out, hx.out]; all_goals go_num⟩)
                case measure => simp [intOf]
          · skip
            cases bS
            · skip
              cases bN
              · skip
                have hx : Hid (X = 0) := by rw [hX]; rfl
                clear hX
                replace fN : bits .and .i64 ((r3 : Int) / 4) 1 = 0 := fN
                replace fS : bits .and .i64 (s : Int) 1 = 0 := fS
                replace fT : bits .and .i64 (r3 : Int) 1 = 1 := fT
                go_wp2_with (first | (go_at_call 56; refine (hSh.out _).mono ?_; rintro e w' ⟨rfl, hww⟩; obtain rfl := hww.symm) | (go_at_call 57; refine (bitS_spec _ _).mono ?_; rintro e w' ⟨rfl, hww⟩; obtain rfl := hww.symm))
                go_round
                case rel => exact .inr (.inl ⟨rfl, by rw [hXX.out, hx.out]; all_goals go_num⟩)
                case measure => simp [intOf]
              · skip
                have hx : Hid (X = VV) := by rw [hX]; rfl
                clear hX
                replace fN : bits .and .i64 ((r3 : Int) / 4) 1 = 1 := fN
                replace fS : bits .and .i64 (s : Int) 1 = 0 := fS
                replace fT : bits .and .i64 (r3 : Int) 1 = 1 := fT
                go_wp2_with (first | (go_at_call 56; refine (hSh.out _).mono ?_; rintro e w' ⟨rfl, hww⟩; obtain rfl := hww.symm) | (go_at_call 57; refine (bitS_spec _ _).mono ?_; rintro e w' ⟨rfl, hww⟩; obtain rfl := hww.symm))
                go_round
                case rel => exact .inr (.inl ⟨rfl, by rw [hXX.out, hx.out]; all_goals go_num⟩)
                case measure => simp [intOf]
            · skip
              cases bN
              · skip
                have hx : Hid (X = VV) := by rw [hX]; rfl
                clear hX
                clear fN
                replace fS : bits .and .i64 (s : Int) 1 = 1 := fS
                replace fT : bits .and .i64 (r3 : Int) 1 = 1 := fT
                go_wp2_with (first | (go_at_call 56; refine (hSh.out _).mono ?_; rintro e w' ⟨rfl, hww⟩; obtain rfl := hww.symm) | (go_at_call 57; refine (bitS_spec _ _).mono ?_; rintro e w' ⟨rfl, hww⟩; obtain rfl := hww.symm))
                go_round
                case rel => exact .inr (.inl ⟨rfl, by rw [hXX.out, hx.out]; all_goals go_num⟩)
                case measure => simp [intOf]
              · skip
                have hx : Hid (X = VV) := by rw [hX]; rfl
                clear hX
                clear fN
                replace fS : bits .and .i64 (s : Int) 1 = 1 := fS
                replace fT : bits .and .i64 (r3 : Int) 1 = 1 := fT
                go_wp2_with (first | (go_at_call 56; refine (hSh.out _).mono ?_; rintro e w' ⟨rfl, hww⟩; obtain rfl := hww.symm) | (go_at_call 57; refine (bitS_spec _ _).mono ?_; rintro e w' ⟨rfl, hww⟩; obtain rfl := hww.symm))
                go_round
                case rel => exact .inr (.inl ⟨rfl, by rw [hXX.out, hx.out]; all_goals go_num⟩)
                case measure => simp [intOf]
        · skip
          cases bT
          · skip
            cases bS
            · skip
              cases bN
              · skip
                have hx : Hid (X = 0) := by rw [hX]; rfl
                clear hX
                replace fN : bits .and .i64 ((r3 : Int) / 4) 1 = 0 := fN
                replace fS : bits .and .i64 (s : Int) 1 = 0 := fS
                clear fT
                go_wp2_with (first | (go_at_call 56; refine (hSh.out _).mono ?_; rintro e w' ⟨rfl, hww⟩; obtain rfl := hww.symm) | (go_at_call 57; refine (bitS_spec _ _).mono ?_; rintro e w' ⟨rfl, hww⟩; obtain rfl := hww.symm))
                go_round
                case rel => exact .inr (.inl ⟨rfl, by rw [hXX.out, hx.out]; all_goals go_num⟩)
                case measure => simp [intOf]
              · skip
                have hx : Hid (X = VV) := by rw [hX]; rfl
                clear hX
                replace fN : bits .and .i64 ((r3 : Int) / 4) 1 = 1 := fN
                replace fS : bits .and .i64 (s : Int) 1 = 0 := fS
                clear fT
                go_wp2_with (first | (go_at_call 56; refine (hSh.out _).mono ?_; rintro e w' ⟨rfl, hww⟩; obtain rfl := hww.symm) | (go_at_call 57; refine (bitS_spec _ _).mono ?_; rintro e w' ⟨rfl, hww⟩; obtain rfl := hww.symm))
                go_round
                case rel => exact .inr (.inl ⟨rfl, by rw [hXX.out, hx.out]; all_goals go_num⟩)
                case measure => simp [intOf]
            · skip
              cases bN
              · skip
                have hx : Hid (X = VV) := by rw [hX]; rfl
                clear hX
                clear fN
                replace fS : bits .and .i64 (s : Int) 1 = 1 := fS
                clear fT
                go_wp2_with (first | (go_at_call 56; refine (hSh.out _).mono ?_; rintro e w' ⟨rfl, hww⟩; obtain rfl := hww.symm) | (go_at_call 57; refine (bitS_spec _ _).mono ?_; rintro e w' ⟨rfl, hww⟩; obtain rfl := hww.symm))
                go_round
                case rel => exact .inr (.inl ⟨rfl, by rw [hXX.out, hx.out]; all_goals go_num⟩)
                case measure => simp [intOf]
              · skip
                have hx : Hid (X = VV) := by rw [hX]; rfl
                clear hX
                clear fN
                replace fS : bits .and .i64 (s : Int) 1 = 1 := fS
                clear fT
                go_wp2_with (first | (go_at_call 56; refine (hSh.out _).mono ?_; rintro e w' ⟨rfl, hww⟩; obtain rfl := hww.symm) | (go_at_call 57; refine (bitS_spec _ _).mono ?_; rintro e w' ⟨rfl, hww⟩; obtain rfl := hww.symm))
                go_round
                case rel => exact .inr (.inl ⟨rfl, by rw [hXX.out, hx.out]; all_goals go_num⟩)
                case measure => simp [intOf]
          · skip
            cases bS
            · skip
              cases bN
              · skip
                have hx : Hid (X = 0) := by rw [hX]; rfl
                clear hX
                replace fN : bits .and .i64 ((r3 : Int) / 4) 1 = 0 := fN
                replace fS : bits .and .i64 (s : Int) 1 = 0 := fS
                clear fT
                go_wp2_with (first | (go_at_call 56; refine (hSh.out _).mono ?_; rintro e w' ⟨rfl, hww⟩; obtain rfl := hww.symm) | (go_at_call 57; refine (bitS_spec _ _).mono ?_; rintro e w' ⟨rfl, hww⟩; obtain rfl := hww.symm))
                go_round
                case rel => exact .inr (.inl ⟨rfl, by rw [hXX.out, hx.out]; all_goals go_num⟩)
                case measure => simp [intOf]
              · skip
                have hx : Hid (X = VV) := by rw [hX]; rfl
                clear hX
                replace fN : bits .and .i64 ((r3 : Int) / 4) 1 = 1 := fN
                replace fS : bits .and .i64 (s : Int) 1 = 0 := fS
                clear fT
                go_wp2_with (first | (go_at_call 56; refine (hSh.out _).mono ?_; rintro e w' ⟨rfl, hww⟩; obtain rfl := hww.symm) | (go_at_call 57; refine (bitS_spec _ _).mono ?_; rintro e w' ⟨rfl, hww⟩; obtain rfl := hww.symm))
                go_round
                case rel => exact .inr (.inl ⟨rfl, by rw [hXX.out, hx.out]; all_goals go_num⟩)
                case measure => simp [intOf]
            · skip
              cases bN
              · skip
                have hx : Hid (X = VV) := by rw [hX]; rfl
                clear hX
                clear fN
                replace fS : bits .and .i64 (s : Int) 1 = 1 := fS
                clear fT
                go_wp2_with (first | (go_at_call 56; refine (hSh.out _).mono ?_; rintro e w' ⟨rfl, hww⟩; obtain rfl := hww.symm) | (go_at_call 57; refine (bitS_spec _ _).mono ?_; rintro e w' ⟨rfl, hww⟩; obtain rfl := hww.symm))
                go_round
                case rel => exact .inr (.inl ⟨rfl, by rw [hXX.out, hx.out]; all_goals go_num⟩)
                case measure => simp [intOf]
              · skip
                have hx : Hid (X = VV) := by rw [hX]; rfl
                clear hX
                clear fN
                replace fS : bits .and .i64 (s : Int) 1 = 1 := fS
                clear fT
                go_wp2_with (first | (go_at_call 56; refine (hSh.out _).mono ?_; rintro e w' ⟨rfl, hww⟩; obtain rfl := hww.symm) | (go_at_call 57; refine (bitS_spec _ _).mono ?_; rintro e w' ⟨rfl, hww⟩; obtain rfl := hww.symm))
                go_round
                case rel => exact .inr (.inl ⟨rfl, by rw [hXX.out, hx.out]; all_goals go_num⟩)
                case measure => simp [intOf]
      · rw [if_neg hv] at hX
        have hlv := hL (by omega)
        rw [hlv] at rV
        clear hL hlv
        have hvb : decide ((15 : Int) < (r4 : Int)) = false := decide_eq_false (by omega)
        cases o0
        · skip
          cases bT
          · skip
            cases bS
            · skip
              cases bN
              · skip
                have hx : Hid (X = 0) := by rw [hX]; rfl
                clear hX
                replace fN : bits .and .i64 ((r3 : Int) / 4) 1 = 0 := fN
                replace fS : bits .and .i64 (s : Int) 1 = 0 := fS
                replace fT : bits .and .i64 (r3 : Int) 1 = 0 := fT
                go_wp2_with (first | (go_at_call 56; refine (hSh.out _).mono ?_; rintro e w' ⟨rfl, hww⟩; obtain rfl := hww.symm) | (go_at_call 57; refine (bitS_spec _ _).mono ?_; rintro e w' ⟨rfl, hww⟩; obtain rfl := hww.symm))
                go_round
                case rel => exact .inr (.inl ⟨rfl, by rw [hXX.out, hx.out]; all_goals go_num⟩)
                case measure => simp [intOf]
              · skip
                have hx : Hid (X = 0) := by rw [hX]; rfl
                clear hX
                replace fN : bits .and .i64 ((r3 : Int) / 4) 1 = 1 := fN
                replace fS : bits .and .i64 (s : Int) 1 = 0 := fS
                replace fT : bits .and .i64 (r3 : Int) 1 = 0 := fT
                go_wp2_with (first | (go_at_call 56; refine (hSh.out _).mono ?_; rintro e w' ⟨rfl, hww⟩; obtain rfl := hww.symm) | (go_at_call 57; refine (bitS_spec _ _).mono ?_; rintro e w' ⟨rfl, hww⟩; obtain rfl := hww.symm))
                go_round
                case rel => exact .inr (.inl ⟨rfl, by rw [hXX.out, hx.out]; all_goals go_num⟩)
                case measure => simp [intOf]
            · skip
              cases bN
              · skip
                have hx : Hid (X = 0) := by rw [hX]; rfl
                clear hX
                clear fN
                replace fS : bits .and .i64 (s : Int) 1 = 1 := fS
                replace fT : bits .and .i64 (r3 : Int) 1 = 0 := fT
                go_wp2_with (first | (go_at_call 56; refine (hSh.out _).mono ?_; rintro e w' ⟨rfl, hww⟩; obtain rfl := hww.symm) | (go_at_call 57; refine (bitS_spec _ _).mono ?_; rintro e w' ⟨rfl, hww⟩; obtain rfl := hww.symm))
                go_round
                case rel => exact .inr (.inl ⟨rfl, by rw [hXX.out, hx.out]; all_goals go_num⟩)
                case measure => simp [intOf]
              · skip
                have hx : Hid (X = 0) := by rw [hX]; rfl
                clear hX
                clear fN
                replace fS : bits .and .i64 (s : Int) 1 = 1 := fS
                replace fT : bits .and .i64 (r3 : Int) 1 = 0 := fT
                go_wp2_with (first | (go_at_call 56; refine (hSh.out _).mono ?_; rintro e w' ⟨rfl, hww⟩; obtain rfl := hww.symm) | (go_at_call 57; refine (bitS_spec _ _).mono ?_; rintro e w' ⟨rfl, hww⟩; obtain rfl := hww.symm))
                go_round
                case rel => exact .inr (.inl ⟨rfl, by rw [hXX.out, hx.out]; all_goals go_num⟩)
                case measure => simp [intOf]
          · skip
            cases bS
            · skip
              cases bN
              · skip
                have hx : Hid (X = 0) := by rw [hX]; rfl
                clear hX
                replace fN : bits .and .i64 ((r3 : Int) / 4) 1 = 0 := fN
                replace fS : bits .and .i64 (s : Int) 1 = 0 := fS
                replace fT : bits .and .i64 (r3 : Int) 1 = 1 := fT
                go_wp2_with (first | (go_at_call 56; refine (hSh.out _).mono ?_; rintro e w' ⟨rfl, hww⟩; obtain rfl := hww.symm) | (go_at_call 57; refine (bitS_spec _ _).mono ?_; rintro e w' ⟨rfl, hww⟩; obtain rfl := hww.symm))
                go_round
                case rel => exact .inr (.inl ⟨rfl, by rw [hXX.out, hx.out]; all_goals go_num⟩)
                case measure => simp [intOf]
              · skip
                have hx : Hid (X = r4) := by rw [hX]; rfl
                clear hX
                replace fN : bits .and .i64 ((r3 : Int) / 4) 1 = 1 := fN
                replace fS : bits .and .i64 (s : Int) 1 = 0 := fS
                replace fT : bits .and .i64 (r3 : Int) 1 = 1 := fT
                go_wp2_with (first | (go_at_call 56; refine (hSh.out _).mono ?_; rintro e w' ⟨rfl, hww⟩; obtain rfl := hww.symm) | (go_at_call 57; refine (bitS_spec _ _).mono ?_; rintro e w' ⟨rfl, hww⟩; obtain rfl := hww.symm))
                go_round
                case rel => exact .inr (.inl ⟨rfl, by rw [hXX.out, hx.out]; all_goals go_num⟩)
                case measure => simp [intOf]
            · skip
              cases bN
              · skip
                have hx : Hid (X = r4) := by rw [hX]; rfl
                clear hX
                clear fN
                replace fS : bits .and .i64 (s : Int) 1 = 1 := fS
                replace fT : bits .and .i64 (r3 : Int) 1 = 1 := fT
                go_wp2_with (first | (go_at_call 56; refine (hSh.out _).mono ?_; rintro e w' ⟨rfl, hww⟩; obtain rfl := hww.symm) | (go_at_call 57; refine (bitS_spec _ _).mono ?_; rintro e w' ⟨rfl, hww⟩; obtain rfl := hww.symm))
                go_round
                case rel => exact .inr (.inl ⟨rfl, by rw [hXX.out, hx.out]; all_goals go_num⟩)
                case measure => simp [intOf]
              · skip
                have hx : Hid (X = r4) := by rw [hX]; rfl
                clear hX
                clear fN
                replace fS : bits .and .i64 (s : Int) 1 = 1 := fS
                replace fT : bits .and .i64 (r3 : Int) 1 = 1 := fT
                go_wp2_with (first | (go_at_call 56; refine (hSh.out _).mono ?_; rintro e w' ⟨rfl, hww⟩; obtain rfl := hww.symm) | (go_at_call 57; refine (bitS_spec _ _).mono ?_; rintro e w' ⟨rfl, hww⟩; obtain rfl := hww.symm))
                go_round
                case rel => exact .inr (.inl ⟨rfl, by rw [hXX.out, hx.out]; all_goals go_num⟩)
                case measure => simp [intOf]
        · skip
          cases bT
          · skip
            cases bS
            · skip
              cases bN
              · skip
                have hx : Hid (X = 0) := by rw [hX]; rfl
                clear hX
                replace fN : bits .and .i64 ((r3 : Int) / 4) 1 = 0 := fN
                replace fS : bits .and .i64 (s : Int) 1 = 0 := fS
                clear fT
                go_wp2_with (first | (go_at_call 56; refine (hSh.out _).mono ?_; rintro e w' ⟨rfl, hww⟩; obtain rfl := hww.symm) | (go_at_call 57; refine (bitS_spec _ _).mono ?_; rintro e w' ⟨rfl, hww⟩; obtain rfl := hww.symm))
                go_round
                case rel => exact .inr (.inl ⟨rfl, by rw [hXX.out, hx.out]; all_goals go_num⟩)
                case measure => simp [intOf]
              · skip
                have hx : Hid (X = r4) := by rw [hX]; rfl
                clear hX
                replace fN : bits .and .i64 ((r3 : Int) / 4) 1 = 1 := fN
                replace fS : bits .and .i64 (s : Int) 1 = 0 := fS
                clear fT
                go_wp2_with (first | (go_at_call 56; refine (hSh.out _).mono ?_; rintro e w' ⟨rfl, hww⟩; obtain rfl := hww.symm) | (go_at_call 57; refine (bitS_spec _ _).mono ?_; rintro e w' ⟨rfl, hww⟩; obtain rfl := hww.symm))
                go_round
                case rel => exact .inr (.inl ⟨rfl, by rw [hXX.out, hx.out]; all_goals go_num⟩)
                case measure => simp [intOf]
            · skip
              cases bN
              · skip
                have hx : Hid (X = r4) := by rw [hX]; rfl
                clear hX
                clear fN
                replace fS : bits .and .i64 (s : Int) 1 = 1 := fS
                clear fT
                go_wp2_with (first | (go_at_call 56; refine (hSh.out _).mono ?_; rintro e w' ⟨rfl, hww⟩; obtain rfl := hww.symm) | (go_at_call 57; refine (bitS_spec _ _).mono ?_; rintro e w' ⟨rfl, hww⟩; obtain rfl := hww.symm))
                go_round
                case rel => exact .inr (.inl ⟨rfl, by rw [hXX.out, hx.out]; all_goals go_num⟩)
                case measure => simp [intOf]
              · skip
                have hx : Hid (X = r4) := by rw [hX]; rfl
                clear hX
                clear fN
                replace fS : bits .and .i64 (s : Int) 1 = 1 := fS
                clear fT
                go_wp2_with (first | (go_at_call 56; refine (hSh.out _).mono ?_; rintro e w' ⟨rfl, hww⟩; obtain rfl := hww.symm) | (go_at_call 57; refine (bitS_spec _ _).mono ?_; rintro e w' ⟨rfl, hww⟩; obtain rfl := hww.symm))
                go_round
                case rel => exact .inr (.inl ⟨rfl, by rw [hXX.out, hx.out]; all_goals go_num⟩)
                case measure => simp [intOf]
          · skip
            cases bS
            · skip
              cases bN
              · skip
                have hx : Hid (X = 0) := by rw [hX]; rfl
                clear hX
                replace fN : bits .and .i64 ((r3 : Int) / 4) 1 = 0 := fN
                replace fS : bits .and .i64 (s : Int) 1 = 0 := fS
                clear fT
                go_wp2_with (first | (go_at_call 56; refine (hSh.out _).mono ?_; rintro e w' ⟨rfl, hww⟩; obtain rfl := hww.symm) | (go_at_call 57; refine (bitS_spec _ _).mono ?_; rintro e w' ⟨rfl, hww⟩; obtain rfl := hww.symm))
                go_round
                case rel => exact .inr (.inl ⟨rfl, by rw [hXX.out, hx.out]; all_goals go_num⟩)
                case measure => simp [intOf]
              · skip
                have hx : Hid (X = r4) := by rw [hX]; rfl
                clear hX
                replace fN : bits .and .i64 ((r3 : Int) / 4) 1 = 1 := fN
                replace fS : bits .and .i64 (s : Int) 1 = 0 := fS
                clear fT
                go_wp2_with (first | (go_at_call 56; refine (hSh.out _).mono ?_; rintro e w' ⟨rfl, hww⟩; obtain rfl := hww.symm) | (go_at_call 57; refine (bitS_spec _ _).mono ?_; rintro e w' ⟨rfl, hww⟩; obtain rfl := hww.symm))
                go_round
                case rel => exact .inr (.inl ⟨rfl, by rw [hXX.out, hx.out]; all_goals go_num⟩)
                case measure => simp [intOf]
            · skip
              cases bN
              · skip
                have hx : Hid (X = r4) := by rw [hX]; rfl
                clear hX
                clear fN
                replace fS : bits .and .i64 (s : Int) 1 = 1 := fS
                clear fT
                go_wp2_with (first | (go_at_call 56; refine (hSh.out _).mono ?_; rintro e w' ⟨rfl, hww⟩; obtain rfl := hww.symm) | (go_at_call 57; refine (bitS_spec _ _).mono ?_; rintro e w' ⟨rfl, hww⟩; obtain rfl := hww.symm))
                go_round
                case rel => exact .inr (.inl ⟨rfl, by rw [hXX.out, hx.out]; all_goals go_num⟩)
                case measure => simp [intOf]
              · skip
                have hx : Hid (X = r4) := by rw [hX]; rfl
                clear hX
                clear fN
                replace fS : bits .and .i64 (s : Int) 1 = 1 := fS
                clear fT
                go_wp2_with (first | (go_at_call 56; refine (hSh.out _).mono ?_; rintro e w' ⟨rfl, hww⟩; obtain rfl := hww.symm) | (go_at_call 57; refine (bitS_spec _ _).mono ?_; rintro e w' ⟨rfl, hww⟩; obtain rfl := hww.symm))
                go_round
                case rel => exact .inr (.inl ⟨rfl, by rw [hXX.out, hx.out]; all_goals go_num⟩)
                case measure => simp [intOf]
    · have hSh := hid (fun w1 => shape_spec r7 e w1 L7 Le)
      have rV : bits .and .i64 (r5 : Int) 15 = (Nat.land r5 15 : Nat) := bAnd r5 15 (by omega) (by omega)
      have hV15 := shapeN_le r7 e Le
      have hS15 := chN_le o0 s r3 0 r7 e r4 Le L4
      obtain ⟨S, hS⟩ : ∃ S, chN o0 s r3 0 r7 e r4 = S := ⟨_, rfl⟩
      rw [hS] at hS15 ⊢
      replace hS := hid hS
      have fT := off_int1 r3 L3
      have fN := off_int3 r3 L3
      have fS := odd_int s Ls
      have hX : chN o1 s r3 1 r7 e r5 = if ((o1 || offB r3 1) && (Nat.beq (Nat.land s 1) 1 || offB r3 3)) = true then (if 15 < r5 then shapeN r7 e else r5) else 0 := rfl
      have hL : r5 < 16 → Nat.land r5 15 = r5 := land15 r5
      generalize offB r3 1 = bT at *
      generalize offB r3 3 = bN at *
      generalize Nat.beq (Nat.land s 1) 1 = bS at *
      generalize shapeN r7 e = VV at *
      obtain ⟨X, hXX⟩ : ∃ X, chN o1 s r3 1 r7 e r5 = X := ⟨_, rfl⟩
      rw [hXX] at hX
      replace hXX := hid hXX
      by_cases hv : 15 < r5
      · rw [if_pos hv] at hX
        clear hL
        generalize Nat.land r5 15 = LL at *
        have hvb : decide ((15 : Int) < (r5 : Int)) = true := decide_eq_true (by omega)
        cases o1
        · skip
          cases bT
          · skip
            cases bS
            · skip
              cases bN
              · skip
                have hx : Hid (X = 0) := by rw [hX]; rfl
                clear hX
                replace fN : bits .and .i64 ((r3 : Int) / 8) 1 = 0 := fN
                replace fS : bits .and .i64 (s : Int) 1 = 0 := fS
                replace fT : bits .and .i64 ((r3 : Int) / 2) 1 = 0 := fT
                go_wp2_with (first | (go_at_call 56; refine (hSh.out _).mono ?_; rintro e w' ⟨rfl, hww⟩; obtain rfl := hww.symm) | (go_at_call 57; refine (bitS_spec _ _).mono ?_; rintro e w' ⟨rfl, hww⟩; obtain rfl := hww.symm))
                go_round
                case rel => exact .inr (.inr ⟨rfl, by (try rw [hS.out]); rw [hXX.out, hx.out]; all_goals go_num⟩)
                case measure => simp [intOf]
              · skip
                have hx : Hid (X = 0) := by rw [hX]; rfl
                clear hX
                replace fN : bits .and .i64 ((r3 : Int) / 8) 1 = 1 := fN
                replace fS : bits .and .i64 (s : Int) 1 = 0 := fS
                replace fT : bits .and .i64 ((r3 : Int) / 2) 1 = 0 := fT
                go_wp2_with (first | (go_at_call 56; refine (hSh.out _).mono ?_; rintro e w' ⟨rfl, hww⟩; obtain rfl := hww.symm) | (go_at_call 57; refine (bitS_spec _ _).mono ?_; rintro e w' ⟨rfl, hww⟩; obtain rfl := hww.symm))
                go_round
                case rel => exact .inr (.inr ⟨rfl, by (try rw [hS.out]); rw [hXX.out, hx.out]; all_goals go_num⟩)
                case measure => simp [intOf]
            · skip
              cases bN
              · skip
                have hx : Hid (X = 0) := by rw [hX]; rfl
                clear hX
                clear fN
                replace fS : bits .and .i64 (s : Int) 1 = 1 := fS
                replace fT : bits .and .i64 ((r3 : Int) / 2) 1 = 0 := fT
                go_wp2_with (first | (go_at_call 56; refine (hSh.out _).mono ?_; rintro e w' ⟨rfl, hww⟩; obtain rfl := hww.symm) | (go_at_call 57; refine (bitS_spec _ _).mono ?_; rintro e w' ⟨rfl, hww⟩; obtain rfl := hww.symm))
                go_round
                case rel => exact .inr (.inr ⟨rfl, by (try rw [hS.out]); rw [hXX.out, hx.out]; all_goals go_num⟩)
                case measure => simp [intOf]
              · skip
                have hx : Hid (X = 0) := by rw [hX]; rfl
                clear hX
                clear fN
                replace fS : bits .and .i64 (s : Int) 1 = 1 := fS
                replace fT : bits .and .i64 ((r3 : Int) / 2) 1 = 0 := fT
                go_wp2_with (first | (go_at_call 56; refine (hSh.out _).mono ?_; rintro e w' ⟨rfl, hww⟩; obtain rfl := hww.symm) | (go_at_call 57; refine (bitS_spec _ _).mono ?_; rintro e w' ⟨rfl, hww⟩; obtain rfl := hww.symm))
                go_round
                case rel => exact .inr (.inr ⟨rfl, by (try rw [hS.out]); rw [hXX.out, hx.out]; all_goals go_num⟩)
                case measure => simp [intOf]
          · skip
            cases bS
            · skip
              cases bN
              · skip
                have hx : Hid (X = 0) := by rw [hX]; rfl
                clear hX
                replace fN : bits .and .i64 ((r3 : Int) / 8) 1 = 0 := fN
                replace fS : bits .and .i64 (s : Int) 1 = 0 := fS
                replace fT : bits .and .i64 ((r3 : Int) / 2) 1 = 1 := fT
                go_wp2_with (first | (go_at_call 56; refine (hSh.out _).mono ?_; rintro e w' ⟨rfl, hww⟩; obtain rfl := hww.symm) | (go_at_call 57; refine (bitS_spec _ _).mono ?_; rintro e w' ⟨rfl, hww⟩; obtain rfl := hww.symm))
                go_round
                case rel => exact .inr (.inr ⟨rfl, by (try rw [hS.out]); rw [hXX.out, hx.out]; all_goals go_num⟩)
                case measure => simp [intOf]
              · skip
                have hx : Hid (X = VV) := by rw [hX]; rfl
                clear hX
                replace fN : bits .and .i64 ((r3 : Int) / 8) 1 = 1 := fN
                replace fS : bits .and .i64 (s : Int) 1 = 0 := fS
                replace fT : bits .and .i64 ((r3 : Int) / 2) 1 = 1 := fT
                go_wp2_with (first | (go_at_call 56; refine (hSh.out _).mono ?_; rintro e w' ⟨rfl, hww⟩; obtain rfl := hww.symm) | (go_at_call 57; refine (bitS_spec _ _).mono ?_; rintro e w' ⟨rfl, hww⟩; obtain rfl := hww.symm))
                go_round
                case rel => exact .inr (.inr ⟨rfl, by (try rw [hS.out]); rw [hXX.out, hx.out]; all_goals go_num⟩)
                case measure => simp [intOf]
            · skip
              cases bN
              · skip
                have hx : Hid (X = VV) := by rw [hX]; rfl
                clear hX
                clear fN
                replace fS : bits .and .i64 (s : Int) 1 = 1 := fS
                replace fT : bits .and .i64 ((r3 : Int) / 2) 1 = 1 := fT
                go_wp2_with (first | (go_at_call 56; refine (hSh.out _).mono ?_; rintro e w' ⟨rfl, hww⟩; obtain rfl := hww.symm) | (go_at_call 57; refine (bitS_spec _ _).mono ?_; rintro e w' ⟨rfl, hww⟩; obtain rfl := hww.symm))
                go_round
                case rel => exact .inr (.inr ⟨rfl, by (try rw [hS.out]); rw [hXX.out, hx.out]; all_goals go_num⟩)
                case measure => simp [intOf]
              · skip
                have hx : Hid (X = VV) := by rw [hX]; rfl
                clear hX
                clear fN
                replace fS : bits .and .i64 (s : Int) 1 = 1 := fS
                replace fT : bits .and .i64 ((r3 : Int) / 2) 1 = 1 := fT
                go_wp2_with (first | (go_at_call 56; refine (hSh.out _).mono ?_; rintro e w' ⟨rfl, hww⟩; obtain rfl := hww.symm) | (go_at_call 57; refine (bitS_spec _ _).mono ?_; rintro e w' ⟨rfl, hww⟩; obtain rfl := hww.symm))
                go_round
                case rel => exact .inr (.inr ⟨rfl, by (try rw [hS.out]); rw [hXX.out, hx.out]; all_goals go_num⟩)
                case measure => simp [intOf]
        · skip
          cases bT
          · skip
            cases bS
            · skip
              cases bN
              · skip
                have hx : Hid (X = 0) := by rw [hX]; rfl
                clear hX
                replace fN : bits .and .i64 ((r3 : Int) / 8) 1 = 0 := fN
                replace fS : bits .and .i64 (s : Int) 1 = 0 := fS
                clear fT
                go_wp2_with (first | (go_at_call 56; refine (hSh.out _).mono ?_; rintro e w' ⟨rfl, hww⟩; obtain rfl := hww.symm) | (go_at_call 57; refine (bitS_spec _ _).mono ?_; rintro e w' ⟨rfl, hww⟩; obtain rfl := hww.symm))
                go_round
                case rel => exact .inr (.inr ⟨rfl, by (try rw [hS.out]); rw [hXX.out, hx.out]; all_goals go_num⟩)
                case measure => simp [intOf]
              · skip
                have hx : Hid (X = VV) := by rw [hX]; rfl
                clear hX
                replace fN : bits .and .i64 ((r3 : Int) / 8) 1 = 1 := fN
                replace fS : bits .and .i64 (s : Int) 1 = 0 := fS
                clear fT
                go_wp2_with (first | (go_at_call 56; refine (hSh.out _).mono ?_; rintro e w' ⟨rfl, hww⟩; obtain rfl := hww.symm) | (go_at_call 57; refine (bitS_spec _ _).mono ?_; rintro e w' ⟨rfl, hww⟩; obtain rfl := hww.symm))
                go_round
                case rel => exact .inr (.inr ⟨rfl, by (try rw [hS.out]); rw [hXX.out, hx.out]; all_goals go_num⟩)
                case measure => simp [intOf]
            · skip
              cases bN
              · skip
                have hx : Hid (X = VV) := by rw [hX]; rfl
                clear hX
                clear fN
                replace fS : bits .and .i64 (s : Int) 1 = 1 := fS
                clear fT
                go_wp2_with (first | (go_at_call 56; refine (hSh.out _).mono ?_; rintro e w' ⟨rfl, hww⟩; obtain rfl := hww.symm) | (go_at_call 57; refine (bitS_spec _ _).mono ?_; rintro e w' ⟨rfl, hww⟩; obtain rfl := hww.symm))
                go_round
                case rel => exact .inr (.inr ⟨rfl, by (try rw [hS.out]); rw [hXX.out, hx.out]; all_goals go_num⟩)
                case measure => simp [intOf]
              · skip
                have hx : Hid (X = VV) := by rw [hX]; rfl
                clear hX
                clear fN
                replace fS : bits .and .i64 (s : Int) 1 = 1 := fS
                clear fT
                go_wp2_with (first | (go_at_call 56; refine (hSh.out _).mono ?_; rintro e w' ⟨rfl, hww⟩; obtain rfl := hww.symm) | (go_at_call 57; refine (bitS_spec _ _).mono ?_; rintro e w' ⟨rfl, hww⟩; obtain rfl := hww.symm))
                go_round
                case rel => exact .inr (.inr ⟨rfl, by (try rw [hS.out]); rw [hXX.out, hx.out]; all_goals go_num⟩)
                case measure => simp [intOf]
          · skip
            cases bS
            · skip
              cases bN
              · skip
                have hx : Hid (X = 0) := by rw [hX]; rfl
                clear hX
                replace fN : bits .and .i64 ((r3 : Int) / 8) 1 = 0 := fN
                replace fS : bits .and .i64 (s : Int) 1 = 0 := fS
                clear fT
                go_wp2_with (first | (go_at_call 56; refine (hSh.out _).mono ?_; rintro e w' ⟨rfl, hww⟩; obtain rfl := hww.symm) | (go_at_call 57; refine (bitS_spec _ _).mono ?_; rintro e w' ⟨rfl, hww⟩; obtain rfl := hww.symm))
                go_round
                case rel => exact .inr (.inr ⟨rfl, by (try rw [hS.out]); rw [hXX.out, hx.out]; all_goals go_num⟩)
                case measure => simp [intOf]
              · skip
                have hx : Hid (X = VV) := by rw [hX]; rfl
                clear hX
                replace fN : bits .and .i64 ((r3 : Int) / 8) 1 = 1 := fN
                replace fS : bits .and .i64 (s : Int) 1 = 0 := fS
                clear fT
                go_wp2_with (first | (go_at_call 56; refine (hSh.out _).mono ?_; rintro e w' ⟨rfl, hww⟩; obtain rfl := hww.symm) | (go_at_call 57; refine (bitS_spec _ _).mono ?_; rintro e w' ⟨rfl, hww⟩; obtain rfl := hww.symm))
                go_round
                case rel => exact .inr (.inr ⟨rfl, by (try rw [hS.out]); rw [hXX.out, hx.out]; all_goals go_num⟩)
                case measure => simp [intOf]
            · skip
              cases bN
              · skip
                have hx : Hid (X = VV) := by rw [hX]; rfl
                clear hX
                clear fN
                replace fS : bits .and .i64 (s : Int) 1 = 1 := fS
                clear fT
                go_wp2_with (first | (go_at_call 56; refine (hSh.out _).mono ?_; rintro e w' ⟨rfl, hww⟩; obtain rfl := hww.symm) | (go_at_call 57; refine (bitS_spec _ _).mono ?_; rintro e w' ⟨rfl, hww⟩; obtain rfl := hww.symm))
                go_round
                case rel => exact .inr (.inr ⟨rfl, by (try rw [hS.out]); rw [hXX.out, hx.out]; all_goals go_num⟩)
                case measure => simp [intOf]
              · skip
                have hx : Hid (X = VV) := by rw [hX]; rfl
                clear hX
                clear fN
                replace fS : bits .and .i64 (s : Int) 1 = 1 := fS
                clear fT
                go_wp2_with (first | (go_at_call 56; refine (hSh.out _).mono ?_; rintro e w' ⟨rfl, hww⟩; obtain rfl := hww.symm) | (go_at_call 57; refine (bitS_spec _ _).mono ?_; rintro e w' ⟨rfl, hww⟩; obtain rfl := hww.symm))
                go_round
                case rel => exact .inr (.inr ⟨rfl, by (try rw [hS.out]); rw [hXX.out, hx.out]; all_goals go_num⟩)
                case measure => simp [intOf]
      · rw [if_neg hv] at hX
        have hlv := hL (by omega)
        rw [hlv] at rV
        clear hL hlv
        have hvb : decide ((15 : Int) < (r5 : Int)) = false := decide_eq_false (by omega)
        cases o1
        · skip
          cases bT
          · skip
            cases bS
            · skip
              cases bN
              · skip
                have hx : Hid (X = 0) := by rw [hX]; rfl
                clear hX
                replace fN : bits .and .i64 ((r3 : Int) / 8) 1 = 0 := fN
                replace fS : bits .and .i64 (s : Int) 1 = 0 := fS
                replace fT : bits .and .i64 ((r3 : Int) / 2) 1 = 0 := fT
                go_wp2_with (first | (go_at_call 56; refine (hSh.out _).mono ?_; rintro e w' ⟨rfl, hww⟩; obtain rfl := hww.symm) | (go_at_call 57; refine (bitS_spec _ _).mono ?_; rintro e w' ⟨rfl, hww⟩; obtain rfl := hww.symm))
                go_round
                case rel => exact .inr (.inr ⟨rfl, by (try rw [hS.out]); rw [hXX.out, hx.out]; all_goals go_num⟩)
                case measure => simp [intOf]
              · skip
                have hx : Hid (X = 0) := by rw [hX]; rfl
                clear hX
                replace fN : bits .and .i64 ((r3 : Int) / 8) 1 = 1 := fN
                replace fS : bits .and .i64 (s : Int) 1 = 0 := fS
                replace fT : bits .and .i64 ((r3 : Int) / 2) 1 = 0 := fT
                go_wp2_with (first | (go_at_call 56; refine (hSh.out _).mono ?_; rintro e w' ⟨rfl, hww⟩; obtain rfl := hww.symm) | (go_at_call 57; refine (bitS_spec _ _).mono ?_; rintro e w' ⟨rfl, hww⟩; obtain rfl := hww.symm))
                go_round
                case rel => exact .inr (.inr ⟨rfl, by (try rw [hS.out]); rw [hXX.out, hx.out]; all_goals go_num⟩)
                case measure => simp [intOf]
            · skip
              cases bN
              · skip
                have hx : Hid (X = 0) := by rw [hX]; rfl
                clear hX
                clear fN
                replace fS : bits .and .i64 (s : Int) 1 = 1 := fS
                replace fT : bits .and .i64 ((r3 : Int) / 2) 1 = 0 := fT
                go_wp2_with (first | (go_at_call 56; refine (hSh.out _).mono ?_; rintro e w' ⟨rfl, hww⟩; obtain rfl := hww.symm) | (go_at_call 57; refine (bitS_spec _ _).mono ?_; rintro e w' ⟨rfl, hww⟩; obtain rfl := hww.symm))
                go_round
                case rel => exact .inr (.inr ⟨rfl, by (try rw [hS.out]); rw [hXX.out, hx.out]; all_goals go_num⟩)
                case measure => simp [intOf]
              · skip
                have hx : Hid (X = 0) := by rw [hX]; rfl
                clear hX
                clear fN
                replace fS : bits .and .i64 (s : Int) 1 = 1 := fS
                replace fT : bits .and .i64 ((r3 : Int) / 2) 1 = 0 := fT
                go_wp2_with (first | (go_at_call 56; refine (hSh.out _).mono ?_; rintro e w' ⟨rfl, hww⟩; obtain rfl := hww.symm) | (go_at_call 57; refine (bitS_spec _ _).mono ?_; rintro e w' ⟨rfl, hww⟩; obtain rfl := hww.symm))
                go_round
                case rel => exact .inr (.inr ⟨rfl, by (try rw [hS.out]); rw [hXX.out, hx.out]; all_goals go_num⟩)
                case measure => simp [intOf]
          · skip
            cases bS
            · skip
              cases bN
              · skip
                have hx : Hid (X = 0) := by rw [hX]; rfl
                clear hX
                replace fN : bits .and .i64 ((r3 : Int) / 8) 1 = 0 := fN
                replace fS : bits .and .i64 (s : Int) 1 = 0 := fS
                replace fT : bits .and .i64 ((r3 : Int) / 2) 1 = 1 := fT
                go_wp2_with (first | (go_at_call 56; refine (hSh.out _).mono ?_; rintro e w' ⟨rfl, hww⟩; obtain rfl := hww.symm) | (go_at_call 57; refine (bitS_spec _ _).mono ?_; rintro e w' ⟨rfl, hww⟩; obtain rfl := hww.symm))
                go_round
                case rel => exact .inr (.inr ⟨rfl, by (try rw [hS.out]); rw [hXX.out, hx.out]; all_goals go_num⟩)
                case measure => simp [intOf]
              · skip
                have hx : Hid (X = r5) := by rw [hX]; rfl
                clear hX
                replace fN : bits .and .i64 ((r3 : Int) / 8) 1 = 1 := fN
                replace fS : bits .and .i64 (s : Int) 1 = 0 := fS
                replace fT : bits .and .i64 ((r3 : Int) / 2) 1 = 1 := fT
                go_wp2_with (first | (go_at_call 56; refine (hSh.out _).mono ?_; rintro e w' ⟨rfl, hww⟩; obtain rfl := hww.symm) | (go_at_call 57; refine (bitS_spec _ _).mono ?_; rintro e w' ⟨rfl, hww⟩; obtain rfl := hww.symm))
                go_round
                case rel => exact .inr (.inr ⟨rfl, by (try rw [hS.out]); rw [hXX.out, hx.out]; all_goals go_num⟩)
                case measure => simp [intOf]
            · skip
              cases bN
              · skip
                have hx : Hid (X = r5) := by rw [hX]; rfl
                clear hX
                clear fN
                replace fS : bits .and .i64 (s : Int) 1 = 1 := fS
                replace fT : bits .and .i64 ((r3 : Int) / 2) 1 = 1 := fT
                go_wp2_with (first | (go_at_call 56; refine (hSh.out _).mono ?_; rintro e w' ⟨rfl, hww⟩; obtain rfl := hww.symm) | (go_at_call 57; refine (bitS_spec _ _).mono ?_; rintro e w' ⟨rfl, hww⟩; obtain rfl := hww.symm))
                go_round
                case rel => exact .inr (.inr ⟨rfl, by (try rw [hS.out]); rw [hXX.out, hx.out]; all_goals go_num⟩)
                case measure => simp [intOf]
              · skip
                have hx : Hid (X = r5) := by rw [hX]; rfl
                clear hX
                clear fN
                replace fS : bits .and .i64 (s : Int) 1 = 1 := fS
                replace fT : bits .and .i64 ((r3 : Int) / 2) 1 = 1 := fT
                go_wp2_with (first | (go_at_call 56; refine (hSh.out _).mono ?_; rintro e w' ⟨rfl, hww⟩; obtain rfl := hww.symm) | (go_at_call 57; refine (bitS_spec _ _).mono ?_; rintro e w' ⟨rfl, hww⟩; obtain rfl := hww.symm))
                go_round
                case rel => exact .inr (.inr ⟨rfl, by (try rw [hS.out]); rw [hXX.out, hx.out]; all_goals go_num⟩)
                case measure => simp [intOf]
        · skip
          cases bT
          · skip
            cases bS
            · skip
              cases bN
              · skip
                have hx : Hid (X = 0) := by rw [hX]; rfl
                clear hX
                replace fN : bits .and .i64 ((r3 : Int) / 8) 1 = 0 := fN
                replace fS : bits .and .i64 (s : Int) 1 = 0 := fS
                clear fT
                go_wp2_with (first | (go_at_call 56; refine (hSh.out _).mono ?_; rintro e w' ⟨rfl, hww⟩; obtain rfl := hww.symm) | (go_at_call 57; refine (bitS_spec _ _).mono ?_; rintro e w' ⟨rfl, hww⟩; obtain rfl := hww.symm))
                go_round
                case rel => exact .inr (.inr ⟨rfl, by (try rw [hS.out]); rw [hXX.out, hx.out]; all_goals go_num⟩)
                case measure => simp [intOf]
              · skip
                have hx : Hid (X = r5) := by rw [hX]; rfl
                clear hX
                replace fN : bits .and .i64 ((r3 : Int) / 8) 1 = 1 := fN
                replace fS : bits .and .i64 (s : Int) 1 = 0 := fS
                clear fT
                go_wp2_with (first | (go_at_call 56; refine (hSh.out _).mono ?_; rintro e w' ⟨rfl, hww⟩; obtain rfl := hww.symm) | (go_at_call 57; refine (bitS_spec _ _).mono ?_; rintro e w' ⟨rfl, hww⟩; obtain rfl := hww.symm))
                go_round
                case rel => exact .inr (.inr ⟨rfl, by (try rw [hS.out]); rw [hXX.out, hx.out]; all_goals go_num⟩)
                case measure => simp [intOf]
            · skip
              cases bN
              · skip
                have hx : Hid (X = r5) := by rw [hX]; rfl
                clear hX
                clear fN
                replace fS : bits .and .i64 (s : Int) 1 = 1 := fS
                clear fT
                go_wp2_with (first | (go_at_call 56; refine (hSh.out _).mono ?_; rintro e w' ⟨rfl, hww⟩; obtain rfl := hww.symm) | (go_at_call 57; refine (bitS_spec _ _).mono ?_; rintro e w' ⟨rfl, hww⟩; obtain rfl := hww.symm))
                go_round
                case rel => exact .inr (.inr ⟨rfl, by (try rw [hS.out]); rw [hXX.out, hx.out]; all_goals go_num⟩)
                case measure => simp [intOf]
              · skip
                have hx : Hid (X = r5) := by rw [hX]; rfl
                clear hX
                clear fN
                replace fS : bits .and .i64 (s : Int) 1 = 1 := fS
                clear fT
                go_wp2_with (first | (go_at_call 56; refine (hSh.out _).mono ?_; rintro e w' ⟨rfl, hww⟩; obtain rfl := hww.symm) | (go_at_call 57; refine (bitS_spec _ _).mono ?_; rintro e w' ⟨rfl, hww⟩; obtain rfl := hww.symm))
                go_round
                case rel => exact .inr (.inr ⟨rfl, by (try rw [hS.out]); rw [hXX.out, hx.out]; all_goals go_num⟩)
                case measure => simp [intOf]
          · skip
            cases bS
            · skip
              cases bN
              · skip
                have hx : Hid (X = 0) := by rw [hX]; rfl
                clear hX
                replace fN : bits .and .i64 ((r3 : Int) / 8) 1 = 0 := fN
                replace fS : bits .and .i64 (s : Int) 1 = 0 := fS
                clear fT
                go_wp2_with (first | (go_at_call 56; refine (hSh.out _).mono ?_; rintro e w' ⟨rfl, hww⟩; obtain rfl := hww.symm) | (go_at_call 57; refine (bitS_spec _ _).mono ?_; rintro e w' ⟨rfl, hww⟩; obtain rfl := hww.symm))
                go_round
                case rel => exact .inr (.inr ⟨rfl, by (try rw [hS.out]); rw [hXX.out, hx.out]; all_goals go_num⟩)
                case measure => simp [intOf]
              · skip
                have hx : Hid (X = r5) := by rw [hX]; rfl
                clear hX
                replace fN : bits .and .i64 ((r3 : Int) / 8) 1 = 1 := fN
                replace fS : bits .and .i64 (s : Int) 1 = 0 := fS
                clear fT
                go_wp2_with (first | (go_at_call 56; refine (hSh.out _).mono ?_; rintro e w' ⟨rfl, hww⟩; obtain rfl := hww.symm) | (go_at_call 57; refine (bitS_spec _ _).mono ?_; rintro e w' ⟨rfl, hww⟩; obtain rfl := hww.symm))
                go_round
                case rel => exact .inr (.inr ⟨rfl, by (try rw [hS.out]); rw [hXX.out, hx.out]; all_goals go_num⟩)
                case measure => simp [intOf]
            · skip
              cases bN
              · skip
                have hx : Hid (X = r5) := by rw [hX]; rfl
                clear hX
                clear fN
                replace fS : bits .and .i64 (s : Int) 1 = 1 := fS
                clear fT
                go_wp2_with (first | (go_at_call 56; refine (hSh.out _).mono ?_; rintro e w' ⟨rfl, hww⟩; obtain rfl := hww.symm) | (go_at_call 57; refine (bitS_spec _ _).mono ?_; rintro e w' ⟨rfl, hww⟩; obtain rfl := hww.symm))
                go_round
                case rel => exact .inr (.inr ⟨rfl, by (try rw [hS.out]); rw [hXX.out, hx.out]; all_goals go_num⟩)
                case measure => simp [intOf]
              · skip
                have hx : Hid (X = r5) := by rw [hX]; rfl
                clear hX
                clear fN
                replace fS : bits .and .i64 (s : Int) 1 = 1 := fS
                clear fT
                go_wp2_with (first | (go_at_call 56; refine (hSh.out _).mono ?_; rintro e w' ⟨rfl, hww⟩; obtain rfl := hww.symm) | (go_at_call 57; refine (bitS_spec _ _).mono ?_; rintro e w' ⟨rfl, hww⟩; obtain rfl := hww.symm))
                go_round
                case rel => exact .inr (.inr ⟨rfl, by (try rw [hS.out]); rw [hXX.out, hx.out]; all_goals go_num⟩)
                case measure => simp [intOf]
    · go_wp2
      go_ret
      exact ⟨rfl, hB.out⟩
set_option maxRecDepth 100000 in
theorem lev_spec (c : Sg) (w : World) : Calls Tryd.prog 20 #[sgV c] w fun e w' => e = .returned (.tuple #[.int .i64 (lev2 c).1, .int .i64 (lev2 c).2]) ∧ Below w.heap.size w w' := by
  have q := hid (Blk.new w (sgA c) 27)
  have hB := hid ((Below.refl w.heap.size w).alloc (Nat.le_refl _) (.cells (sgA c) 27))
  have hrg := hid (sg_range q.out)
  have hok := hid (fun w1 => sok_spec c w1)
  cases hc : okS c
  · have e : lev2 c = (0, 1) := by unfold lev2; rw [hc]; rfl
    rw [e]
    rw [hc] at hok
    clear e
    go_enter Tryd.func20, Tryd.ntmps20
    go_upto_region 1 with fail
    obtain ⟨V, hV⟩ : ∃ V, w.alloc (.cells (sgA c) 27) = V := ⟨_, rfl⟩
    rw [hV] at q hB hrg ⊢
    clear hV
    go_wp2_with (refine wpList_load_mid rfl 27 _ rfl w.heap.size 0 rfl (sgA c).toList _ hrg.out Tryd.underlying27 rfl (sg_size c) ?_)
    refine (hok.out _).mono ?_
    rintro e w1 ⟨rfl, hb⟩
    have hB1 := hid (new_trans hB.out hb)
    clear hb hB q hrg
    go_wp2_with fail
    go_ret2
    exact ⟨rfl, hB1.out⟩
  · have e : lev2 c = (((levN c : Nat) : Int), 0) := by unfold lev2; rw [hc]; rfl
    rw [e]
    rw [hc] at hok
    clear e
    have hL := hid (fun w1 => lev0_spec c w1 hc)
    generalize levN c = L at *
    go_enter Tryd.func20, Tryd.ntmps20
    go_upto_region 1 with fail
    obtain ⟨V, hV⟩ : ∃ V, w.alloc (.cells (sgA c) 27) = V := ⟨_, rfl⟩
    rw [hV] at q hB hrg ⊢
    clear hV
    go_wp2_with (refine wpList_load_mid rfl 27 _ rfl w.heap.size 0 rfl (sgA c).toList _ hrg.out Tryd.underlying27 rfl (sg_size c) ?_)
    refine (hok.out _).mono ?_
    rintro e w1 ⟨rfl, hb⟩
    have hB1 := hid (new_trans hB.out hb)
    have q1 := hid (q.out.below hb q.out.lt)
    have hrg1 := hid (sg_range q1.out)
    clear hb hB q hrg
    go_wp2_with (refine wpList_load_mid rfl 27 _ rfl w.heap.size 0 rfl (sgA c).toList _ hrg1.out Tryd.underlying27 rfl (sg_size c) ?_)
    refine (hL.out _).mono ?_
    rintro e w2 ⟨rfl, hb⟩
    have hB2 := hid (new_trans hB1.out hb)
    clear hb hB1 q1 hrg1
    go_wp2_with fail
    go_ret2
    exact ⟨rfl, hB2.out⟩
end Go.Proofs.YtjdgfbaioafjcaaDoor
