/- The digits of a number, as the specification writes them. -/
import Derived.Test.YtneagomkohoceaaDoorIac
import Derived.Test.YtneagomkohoceaaDoorNuc
namespace Go.Proofs.YtneagomkohoceaaDoor
open Go.ChangeShapes Go.WideShapes Go.ChangeAt Go.RowKit
set_option linter.unusedVariables false
set_option linter.unusedSimpArgs false

def digB (n : Nat) : ByteArray := ⟨(Go.Lib.decDigits n).toArray⟩
theorem convIg (W : World) (g : Nat) (x : Int) (h : W.cell? ⟨g, 0, none⟩ = some (.int .u8 x)) : (convert 22 9 (.slice (some ⟨g, 0, none⟩) 1 1)).run Tryd.prog W = .ok (.string (strOfNums [x])) W :=
  run_convert_bytes_arg _ 22 5 Tryd.underlying22 Tryd.underlying5 g 0 1 1 [x] rfl (fun i hi => by
    match i, hi with
    | 0, _ => simpa using h) 9 Tryd.underlying9
theorem str1 (x : Nat) (h : x < 10) : strOfNums [48 + (x : Int)] = ⟨#[UInt8.ofNat (48 + x)]⟩ := by
  have : ∀ x : Nat, x < 10 → strOfNums [48 + (x : Int)] = ⟨#[UInt8.ofNat (48 + x)]⟩ := by decide +kernel
  exact this x h
theorem digB_small {n : Nat} (h : n < 10) : strOfNums [48 + (n : Int)] = digB n := by
  rw [str1 n h]
  unfold digB
  rw [Go.Lib.decDigits, dif_pos h]
theorem digB_big {n : Nat} (h : ¬ n < 10) : digB (n / 10) ++ strOfNums [48 + ((n % 10 : Nat) : Int)] = digB n := by
  rw [str1 (n % 10) (by omega)]
  unfold digB
  rw [Go.Lib.decDigits.eq_def n, dif_neg h]
  apply ByteArray.ext
  simp [ByteArray.data_append]
theorem nd18 : ∀ k n : Nat, 1 ≤ k → n < 10 ^ k → Go.Lib.nDigits n ≤ k
  | 1, n, _, h => by rw [Go.Lib.nDigits_small (by simpa using h)]; exact Nat.le_refl _
  | k + 2, n, _, h => by
    by_cases h1 : n < 10
    · rw [Go.Lib.nDigits_small h1]; omega
    · rw [Go.Lib.nDigits_big h1]
      have := nd18 (k + 1) (n / 10) (by omega) (by rw [Nat.pow_succ] at h; omega)
      omega
theorem digB_size (n : Nat) (h : n < 10 ^ 18) : (digB n).size ≤ 18 := by
  have e : (digB n).size = Go.Lib.nDigits n := by
    unfold digB
    rw [← Go.Lib.decDigits_length]
    simp [ByteArray.size]
  rw [e]
  exact nd18 18 n (by omega) (by simpa using h)
set_option maxRecDepth 100000 in
theorem digits_spec (n : Nat) (w : World) (h : n < 1000000000000000000) :
    Calls Tryd.prog 64 #[.int .i64 (n : Int)] w fun e w' => e = .returned (.string (digB n)) ∧ Below w.heap.size w w' := by
  induction n using Nat.strongRecOn generalizing w with
  | _ n ih =>
    by_cases h10 : n < 10
    · have e := digB_small h10
      obtain ⟨x, hx⟩ : ∃ x : Int, 48 + (n : Int) = x := ⟨_, rfl⟩
      have hx2 : 0 ≤ x ∧ x ≤ 255 := by omega
      rw [hx] at e
      rw [← e]
      have hc := fun W g => convIg W g x
      clear e ih
      go_enter Tryd.func64, Tryd.ntmps64
      go_wp2
      go_ret
      exact ⟨rfl, (Below.refl _ _).alloc (Nat.le_refl _) _⟩
    · have e := digB_big h10
      obtain ⟨x, hx⟩ : ∃ x : Int, 48 + ((n % 10 : Nat) : Int) = x := ⟨_, rfl⟩
      have hx2 : 0 ≤ x ∧ x ≤ 255 := by omega
      have hx3 : 48 + (n : Int) % 10 = x := by omega
      rw [hx] at e
      rw [← e]
      have hsz : (digB (n / 10)).size ≤ 18 := digB_size _ (by omega)
      have hsz2 : (strOfNums [x]).size = 1 := strOfNums_size _
      have hc := fun W g => convIg W g x
      have hq : (n : Int) / 10 = ((n / 10 : Nat) : Int) := by omega
      have hw5 : IntKind.u8.wrap (IntKind.i64.wrap (48 + (n : Int).tmod 10)) = x := by
        rw [Int.tmod_eq_emod_of_nonneg (by omega), hx3, IntKind.wrap_i64, IntKind.wrap_u8]
        omega
      have hw6 : IntKind.i64.wrap ((n / 10 : Nat) : Int) = ((n / 10 : Nat) : Int) := by rw [IntKind.wrap_i64]; omega
      have hih := fun W => ih (n / 10) (by omega) W (by omega)
      generalize digB (n / 10) = D at *
      generalize strOfNums [x] = E at *
      generalize n / 10 = m at *
      replace hih := hid hih
      have hs7 : ¬ 9223372036854775807 < D.size + 1 := by omega
      clear e ih
      go_enter Tryd.func64, Tryd.ntmps64
      go_upto_region 7 with fail
      have B0 : Hid (Below w.heap.size w w.drew) := (Below.refl _ _).drew
      refine wp_region_held_drew (S := (fun w' => Hid (Below w.heap.size w w'))) (by kernel_rfl) B0 (fun hHeld => ?_)
      refine wpAnyH_take (i := 0) (oi := ({ dst := some 18, op := Op.move (Operand.tmp 0), type := 3, pos := "l00_codes.go:135", after := #[], guard := none } : Oper)) (v := ?_) rfl (by kernel_rfl) (by kernel_rfl) (by kernel_rfl) (fun _ _ _ h => h) (Or.inl ⟨by rfl, ?_⟩) (by assumption) ?_
      rotate_left
      · intro w hSw
        (try dsimp only at hSw)
        go_simp
        (try with_reducible rfl)
      (try simp only [Act.put, List.setIfInBounds_toArray, List.set_cons_zero, List.set_cons_succ])
      refine wpAnyH_take (i := 1) (oi := ({ dst := some 19, op := Op.binOp BinOp.quo 3 (Operand.tmp 18) (Operand.const (Value.int IntKind.i64 10)) 3, type := 3, pos := "l00_codes.go:135", after := #[{ on := 0, ground := Ground.data }], guard := none } : Oper)) (v := ?_) rfl (by kernel_rfl) (by kernel_rfl) (by kernel_rfl) (fun _ _ _ h => h) (Or.inl ⟨by rfl, ?_⟩) (by assumption) ?_
      rotate_left
      · intro w hSw
        (try dsimp only at hSw)
        go_simp
        (try with_reducible rfl)
      (try simp only [Act.put, List.setIfInBounds_toArray, List.set_cons_zero, List.set_cons_succ])
      refine wpAnyH_take (i := 3) (oi := ({ dst := some 21, op := Op.move (Operand.tmp 0), type := 3, pos := "l00_codes.go:135", after := #[], guard := none } : Oper)) (v := ?_) rfl (by kernel_rfl) (by kernel_rfl) (by kernel_rfl) (fun _ _ _ h => h) (Or.inl ⟨by rfl, ?_⟩) (by assumption) ?_
      rotate_left
      · intro w hSw
        (try dsimp only at hSw)
        go_simp
        (try with_reducible rfl)
      (try simp only [Act.put, List.setIfInBounds_toArray, List.set_cons_zero, List.set_cons_succ])
      refine wpAnyH_take (i := 4) (oi := ({ dst := some 22, op := Op.binOp BinOp.rem 3 (Operand.tmp 21) (Operand.const (Value.int IntKind.i64 10)) 3, type := 3, pos := "l00_codes.go:135", after := #[{ on := 3, ground := Ground.data }], guard := none } : Oper)) (v := ?_) rfl (by kernel_rfl) (by kernel_rfl) (by kernel_rfl) (fun _ _ _ h => h) (Or.inl ⟨by rfl, ?_⟩) (by assumption) ?_
      rotate_left
      · intro w hSw
        (try dsimp only at hSw)
        go_simp
        (try with_reducible rfl)
      (try simp only [Act.put, List.setIfInBounds_toArray, List.set_cons_zero, List.set_cons_succ])
      refine wpAnyH_take (i := 5) (oi := ({ dst := some 23, op := Op.binOp BinOp.add 3 (Operand.const (Value.int IntKind.i64 48)) (Operand.tmp 22) 3, type := 3, pos := "l00_codes.go:135", after := #[{ on := 4, ground := Ground.data }], guard := none } : Oper)) (v := ?_) rfl (by kernel_rfl) (by kernel_rfl) (by kernel_rfl) (fun _ _ _ h => h) (Or.inl ⟨by rfl, ?_⟩) (by assumption) ?_
      rotate_left
      · intro w hSw
        (try dsimp only at hSw)
        go_simp
        (try with_reducible rfl)
      (try simp only [Act.put, List.setIfInBounds_toArray, List.set_cons_zero, List.set_cons_succ])
      refine wpAnyH_take (i := 6) (oi := ({ dst := some 24, op := Op.convert 3 5 (Operand.tmp 23), type := 5, pos := "l00_codes.go:135", after := #[{ on := 5, ground := Ground.data }], guard := none } : Oper)) (v := ?_) rfl (by kernel_rfl) (by kernel_rfl) (by kernel_rfl) (fun _ _ _ h => h) (Or.inl ⟨by rfl, ?_⟩) (by assumption) ?_
      rotate_left
      · intro w hSw
        (try dsimp only at hSw)
        go_simp
        (try with_reducible rfl)
      (try simp only [Act.put, List.setIfInBounds_toArray, List.set_cons_zero, List.set_cons_succ])
      refine wpAnyH_ready (rs := [2, 7]) (by kernel_rfl) (by simp) ?_
      refine AllReadyH.cons (o := ({ dst := some 20, op := Op.call { callee := Callee.value (Operand.func 64), args := #[Operand.tmp 19], argTypes := #[3] }, type := 9, pos := "l00_codes.go:135", after := #[{ on := 1, ground := Ground.data }], guard := none } : Oper)) rfl (fun K hK => ?_) (AllReadyH.cons (o := ({ dst := some 25, op := Op.buildSlice 22 1 #[(0, Operand.tmp 24)], type := 22, pos := "l00_codes.go:135", after := #[{ on := 6, ground := Ground.data }], guard := none } : Oper)) rfl (fun K hK => ?_) AllReadyH.nil)
      · skip
        go_simp
        go_at_call 64
        refine (hih.out _).mono ?_
        rintro e w1 ⟨rfl, hb1⟩
        have Bw1 := hid (new_trans B0.out hb1)
        clear hb1
        go_wp2_with fail
        refine hK.out _ _ Bw1 (fun hHeld => ?_)
        clear hK K
        (try simp only [Act.put, List.setIfInBounds_toArray, List.set_cons_zero, List.set_cons_succ])
        refine wpAnyH_ready (rs := [7]) (by kernel_rfl) (by simp) ?_
        refine AllReadyH.cons (o := ({ dst := some 25, op := Op.buildSlice 22 1 #[(0, Operand.tmp 24)], type := 22, pos := "l00_codes.go:135", after := #[{ on := 6, ground := Ground.data }], guard := none } : Oper)) rfl (fun K hK => ?_) AllReadyH.nil
        go_simp
        go_wp2_with fail
        have B2 := hid (Bw1.out.alloc Bw1.out.size (.cells #[.int .u8 x] 5))
        refine hK.out _ _ B2 (fun hHeld => ?_)
        clear hK K
        (try simp only [Act.put, List.setIfInBounds_toArray, List.set_cons_zero, List.set_cons_succ])
        refine wpAnyH_ready (rs := [8]) (by kernel_rfl) (by simp) ?_
        refine AllReadyH.cons (o := ({ dst := some 26, op := Op.convert 22 9 (Operand.tmp 25), type := 9, pos := "l00_codes.go:135", after := #[{ on := 7, ground := Ground.data }], guard := none } : Oper)) rfl (fun K hK => ?_) AllReadyH.nil
        go_simp
        go_wp2_with fail
        refine hK.out _ _ B2 (fun hHeld => ?_)
        clear hK K
        (try simp only [Act.put, List.setIfInBounds_toArray, List.set_cons_zero, List.set_cons_succ])
        refine wpAnyH_take (i := 9) (oi := ({ dst := some 27, op := Op.binOp BinOp.add 9 (Operand.tmp 20) (Operand.tmp 26) 9, type := 9, pos := "l00_codes.go:135", after := #[{ on := 2, ground := Ground.data }, { on := 8, ground := Ground.data }], guard := none } : Oper)) (v := ?_) rfl (by kernel_rfl) (by kernel_rfl) (by kernel_rfl) (fun _ _ _ h => h) (Or.inl ⟨by rfl, ?_⟩) (by assumption) ?_
        rotate_left
        · intro w hSw
          (try dsimp only at hSw)
          go_simp
          (try with_reducible rfl)
        (try simp only [Act.put, List.setIfInBounds_toArray, List.set_cons_zero, List.set_cons_succ])
        refine wpAnyH_take (i := 10) (oi := ({ dst := some 2, op := Op.assign (Operand.tmp 27), type := 9, pos := "l00_codes.go:135", after := #[{ on := 9, ground := Ground.data }, { on := 2, ground := Ground.chain }, { on := 0, ground := Ground.phase }, { on := 1, ground := Ground.phase }, { on := 2, ground := Ground.phase }, { on := 3, ground := Ground.phase }, { on := 4, ground := Ground.phase }, { on := 5, ground := Ground.phase }, { on := 6, ground := Ground.phase }, { on := 7, ground := Ground.phase }, { on := 8, ground := Ground.phase }, { on := 9, ground := Ground.phase }], guard := none } : Oper)) (v := ?_) rfl (by kernel_rfl) (by kernel_rfl) (by kernel_rfl) (fun _ _ _ h => h) (Or.inl ⟨by rfl, ?_⟩) (by assumption) ?_
        rotate_left
        · intro w hSw
          (try dsimp only at hSw)
          go_simp
          (try with_reducible rfl)
        (try simp only [Act.put, List.setIfInBounds_toArray, List.set_cons_zero, List.set_cons_succ])
        refine wpAnyH_done (by kernel_rfl) ?_ _
        go_wp2
        go_ret
        exact ⟨rfl, B2.out⟩
      · skip
        go_simp
        go_wp2_with fail
        have B1 : Hid (Below w.heap.size w (w.alloc (.cells #[.int .u8 x] 5)).drew) := ((Below.refl _ _).alloc (Nat.le_refl _) _).drew
        refine hK.out _ _ B1 (fun hHeld => ?_)
        clear hK K
        (try simp only [Act.put, List.setIfInBounds_toArray, List.set_cons_zero, List.set_cons_succ])
        refine wpAnyH_ready (rs := [2, 8]) (by kernel_rfl) (by simp) ?_
        refine AllReadyH.cons (o := ({ dst := some 20, op := Op.call { callee := Callee.value (Operand.func 64), args := #[Operand.tmp 19], argTypes := #[3] }, type := 9, pos := "l00_codes.go:135", after := #[{ on := 1, ground := Ground.data }], guard := none } : Oper)) rfl (fun K hK => ?_) (AllReadyH.cons (o := ({ dst := some 26, op := Op.convert 22 9 (Operand.tmp 25), type := 9, pos := "l00_codes.go:135", after := #[{ on := 7, ground := Ground.data }], guard := none } : Oper)) rfl (fun K hK => ?_) AllReadyH.nil)
        · skip
          go_simp
          go_at_call 64
          refine (hih.out _).mono ?_
          rintro e w2 ⟨rfl, hb1⟩
          have Bw2 := hid (new_trans B1.out hb1)
          obtain ⟨b1, b2⟩ := bcell hb1
          clear hb1
          go_wp2_with fail
          refine hK.out _ _ Bw2 (fun hHeld => ?_)
          clear hK K
          (try simp only [Act.put, List.setIfInBounds_toArray, List.set_cons_zero, List.set_cons_succ])
          refine wpAnyH_ready (rs := [8]) (by kernel_rfl) (by simp) ?_
          refine AllReadyH.cons (o := ({ dst := some 26, op := Op.convert 22 9 (Operand.tmp 25), type := 9, pos := "l00_codes.go:135", after := #[{ on := 7, ground := Ground.data }], guard := none } : Oper)) rfl (fun K hK => ?_) AllReadyH.nil
          go_simp
          go_wp2_with fail
          refine hK.out _ _ Bw2 (fun hHeld => ?_)
          clear hK K
          (try simp only [Act.put, List.setIfInBounds_toArray, List.set_cons_zero, List.set_cons_succ])
          refine wpAnyH_take (i := 9) (oi := ({ dst := some 27, op := Op.binOp BinOp.add 9 (Operand.tmp 20) (Operand.tmp 26) 9, type := 9, pos := "l00_codes.go:135", after := #[{ on := 2, ground := Ground.data }, { on := 8, ground := Ground.data }], guard := none } : Oper)) (v := ?_) rfl (by kernel_rfl) (by kernel_rfl) (by kernel_rfl) (fun _ _ _ h => h) (Or.inl ⟨by rfl, ?_⟩) (by assumption) ?_
          rotate_left
          · intro w hSw
            (try dsimp only at hSw)
            go_simp
            (try with_reducible rfl)
          (try simp only [Act.put, List.setIfInBounds_toArray, List.set_cons_zero, List.set_cons_succ])
          refine wpAnyH_take (i := 10) (oi := ({ dst := some 2, op := Op.assign (Operand.tmp 27), type := 9, pos := "l00_codes.go:135", after := #[{ on := 9, ground := Ground.data }, { on := 2, ground := Ground.chain }, { on := 0, ground := Ground.phase }, { on := 1, ground := Ground.phase }, { on := 2, ground := Ground.phase }, { on := 3, ground := Ground.phase }, { on := 4, ground := Ground.phase }, { on := 5, ground := Ground.phase }, { on := 6, ground := Ground.phase }, { on := 7, ground := Ground.phase }, { on := 8, ground := Ground.phase }, { on := 9, ground := Ground.phase }], guard := none } : Oper)) (v := ?_) rfl (by kernel_rfl) (by kernel_rfl) (by kernel_rfl) (fun _ _ _ h => h) (Or.inl ⟨by rfl, ?_⟩) (by assumption) ?_
          rotate_left
          · intro w hSw
            (try dsimp only at hSw)
            go_simp
            (try with_reducible rfl)
          (try simp only [Act.put, List.setIfInBounds_toArray, List.set_cons_zero, List.set_cons_succ])
          refine wpAnyH_done (by kernel_rfl) ?_ _
          go_wp2
          go_ret
          exact ⟨rfl, Bw2.out⟩
        · skip
          go_simp
          go_wp2_with fail
          refine hK.out _ _ B1 (fun hHeld => ?_)
          clear hK K
          (try simp only [Act.put, List.setIfInBounds_toArray, List.set_cons_zero, List.set_cons_succ])
          refine wpAnyH_ready (rs := [2]) (by kernel_rfl) (by simp) ?_
          refine AllReadyH.cons (o := ({ dst := some 20, op := Op.call { callee := Callee.value (Operand.func 64), args := #[Operand.tmp 19], argTypes := #[3] }, type := 9, pos := "l00_codes.go:135", after := #[{ on := 1, ground := Ground.data }], guard := none } : Oper)) rfl (fun K hK => ?_) AllReadyH.nil
          go_simp
          go_at_call 64
          refine (hih.out _).mono ?_
          rintro e w2 ⟨rfl, hb1⟩
          have Bw2 := hid (new_trans B1.out hb1)
          clear hb1
          go_wp2_with fail
          refine hK.out _ _ Bw2 (fun hHeld => ?_)
          clear hK K
          (try simp only [Act.put, List.setIfInBounds_toArray, List.set_cons_zero, List.set_cons_succ])
          refine wpAnyH_take (i := 9) (oi := ({ dst := some 27, op := Op.binOp BinOp.add 9 (Operand.tmp 20) (Operand.tmp 26) 9, type := 9, pos := "l00_codes.go:135", after := #[{ on := 2, ground := Ground.data }, { on := 8, ground := Ground.data }], guard := none } : Oper)) (v := ?_) rfl (by kernel_rfl) (by kernel_rfl) (by kernel_rfl) (fun _ _ _ h => h) (Or.inl ⟨by rfl, ?_⟩) (by assumption) ?_
          rotate_left
          · intro w hSw
            (try dsimp only at hSw)
            go_simp
            (try with_reducible rfl)
          (try simp only [Act.put, List.setIfInBounds_toArray, List.set_cons_zero, List.set_cons_succ])
          refine wpAnyH_take (i := 10) (oi := ({ dst := some 2, op := Op.assign (Operand.tmp 27), type := 9, pos := "l00_codes.go:135", after := #[{ on := 9, ground := Ground.data }, { on := 2, ground := Ground.chain }, { on := 0, ground := Ground.phase }, { on := 1, ground := Ground.phase }, { on := 2, ground := Ground.phase }, { on := 3, ground := Ground.phase }, { on := 4, ground := Ground.phase }, { on := 5, ground := Ground.phase }, { on := 6, ground := Ground.phase }, { on := 7, ground := Ground.phase }, { on := 8, ground := Ground.phase }, { on := 9, ground := Ground.phase }], guard := none } : Oper)) (v := ?_) rfl (by kernel_rfl) (by kernel_rfl) (by kernel_rfl) (fun _ _ _ h => h) (Or.inl ⟨by rfl, ?_⟩) (by assumption) ?_
          rotate_left
          · intro w hSw
            (try dsimp only at hSw)
            go_simp
            (try with_reducible rfl)
          (try simp only [Act.put, List.setIfInBounds_toArray, List.set_cons_zero, List.set_cons_succ])
          refine wpAnyH_done (by kernel_rfl) ?_ _
          go_wp2
          go_ret
          exact ⟨rfl, Bw2.out⟩
end Go.Proofs.YtneagomkohoceaaDoor
