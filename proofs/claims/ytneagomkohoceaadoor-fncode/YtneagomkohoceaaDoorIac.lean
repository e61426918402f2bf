/- What the specification says of an instruction that is right: the forms of instructions, and InstrOK. -/
import Derived.Test.YtneagomkohoceaaDoorBasec
import Derived.Test.YtneagomkohoceaaDoorInc
import Derived.Test.YtneagomkohoceaaDoorBlc
import Derived.Deep.RegionWith
import Derived.Deep.DeepCutAuto
import Derived.Deep.QuietTactic
import Derived.BigQuiet
import Derived.Deep.RegionHeld3
import Derived.Deep.RegionHeld2
namespace Go.Proofs.YtneagomkohoceaaDoor
open Go.ChangeShapes Go.WideShapes Go.ChangeAt Go.RowKit
set_option linter.unusedVariables false
set_option linter.unusedSimpArgs false

abbrev insV (o a b n l : Int) : Value := .agg #[.int .i64 o, .int .i64 a, .int .i64 b, .int .i64 n, .int .i64 l]
abbrev insA (o a b n l : Int) : Array Value := #[.int .i64 o, .int .i64 a, .int .i64 b, .int .i64 n, .int .i64 l]
/-- what stands in an instruction's form: A, B, N -/
def formS : List ByteArray := [⟨#[]⟩, ⟨#[65, 66]⟩, ⟨#[65, 78]⟩, ⟨#[78]⟩, ⟨#[78]⟩, ⟨#[65, 66]⟩, ⟨#[65, 78]⟩, ⟨#[65]⟩, ⟨#[65]⟩, ⟨#[65, 66]⟩, ⟨#[65, 66]⟩, ⟨#[]⟩, ⟨#[65, 78]⟩, ⟨#[65, 78]⟩, ⟨#[65]⟩, ⟨#[65]⟩, ⟨#[65]⟩, ⟨#[78]⟩, ⟨#[78]⟩, ⟨#[]⟩, ⟨#[]⟩, ⟨#[]⟩, ⟨#[]⟩]
def formT (k : Nat) : ByteArray := formS.getD k ⟨#[]⟩
def hasC (k : Nat) (c : Int) : Bool := (List.range (formT k).size).any fun i => byt (formT k) i == c
def bitI (b : Bool) : Int := if b then 1 else 0
theorem bitI_bd (b : Bool) : 0 ≤ bitI b ∧ bitI b ≤ 1 := by cases b <;> decide
theorem form_at (k : Nat) (hk : k < 23) : (formS.map Value.string)[k]'(by simpa [formS] using hk) = .string (formT k) := by
  rw [List.getElem_map]
  unfold formT
  rw [List.getD_eq_getElem?_getD, List.getElem?_eq_getElem (by simpa [formS] using hk)]
  rfl
theorem hasC_no {k j : Nat} {c : Int} (h : ∀ i, i < (formT k).size → (byt (formT k) i == c) = false) : hasC k c = false := by
  unfold hasC
  rw [List.any_eq_false]
  intro i hi
  rw [h i (List.mem_range.1 hi)]
  simp
theorem hasC_yes {k i : Nat} {c : Int} (hi : i < (formT k).size) (h : (byt (formT k) i == c) = true) : hasC k c = true := by
  unfold hasC
  rw [List.any_eq_true]
  exact ⟨i, List.mem_range.2 hi, h⟩
theorem formT_size (k : Nat) (hk : k < 23) : (formT k).size ≤ 2 := by
  have h : ∀ k, k < 23 → (formT k).size ≤ 2 := by decide +kernel
  exact h k hk
set_option maxRecDepth 100000 in
theorem form_spec (k : Nat) (w : World) (hk : k < 23) :
    Calls Tryd.prog 75 #[.int .i64 (k : Int)] w fun e w' => e = .returned (.string (formT k)) ∧ Below w.heap.size w w' := by
  have hs := hid (form_at k hk)
  go_enter Tryd.func75, Tryd.ntmps75
  go_wp2
  go_ret
  exact ⟨congrArg Ending.returned hs.out, (Below.refl _ _).alloc (Nat.le_refl _) _⟩
theorem has_spec (k : Nat) (c : Int) (w : World) (hk : k < 23) :
    Calls Tryd.prog 59 #[.int .i64 (k : Int), .int .u8 c] w fun e w' => e = .returned (.bool (hasC k c)) ∧ Below w.heap.size w w' := by
  have hno : Hid ((∀ i, i < (formT k).size → (byt (formT k) i == c) = false) → hasC k c = false) := hasC_no (j := 0)
  have hyes : Hid (∀ i, i < (formT k).size → (byt (formT k) i == c) = true → hasC k c = true) := fun i => hasC_yes
  have hsz := formT_size k hk
  obtain ⟨s, hs⟩ : ∃ s, formT k = s := ⟨_, rfl⟩
  rw [hs] at hno hyes hsz
  replace hs := hid hs
  go_enter Tryd.func59, Tryd.ntmps59
  go_wp2_with fail
  refine (form_spec k _ hk).mono ?_
  rintro e w1 ⟨rfl, hb1⟩
  rw [hs.out]
  replace hb1 := hid hb1
  go_wp2
  go_loop [6] (fun i => ∃ j : Nat, j ≤ s.size ∧ i = .int .i64 j ∧ ∀ i, i < j → (byt s i == c) = false) (fun i => s.size - (intOf i).toNat)
  case atStart => exact ⟨0, by omega, rfl, fun i hi => by omega⟩
  case round =>
    obtain ⟨j, hj, rfl, hn⟩ := hrel
    by_cases hlt : j < s.size
    · have hid1 := run_idx s (j : Int) j rfl hlt
      cases hz : (byt s j == c)
      · have hn2 : Hid (∀ i, i < j + 1 → (byt s i == c) = false) := fun i hi => by
          by_cases e : i = j
          · rw [e]; exact hz
          · exact hn i (by omega)
        clear hn hno hyes
        generalize byt s j = z at *
        go_wp2
        go_round
        case rel => exact ⟨j + 1, by omega, by go_num, hn2.out⟩
        case measure => simp [intOf]; omega
      · have hE := hid (hyes.out j hlt hz)
        clear hn hno hyes
        generalize byt s j = z at *
        go_wp2
        go_ret
        exact ⟨ret_bool hE.out.symm, hb1.out⟩
    · obtain rfl : j = s.size := by omega
      have hE := hid (hno.out hn)
      clear hn hno hyes
      go_wp2
      go_ret
      exact ⟨ret_bool hE.out.symm, hb1.out⟩
theorem bitI_spec (b : Bool) (w : World) : Calls Tryd.prog 49 #[.bool b] w fun e w' => e = .returned (.int .i64 (bitI b)) ∧ w' = w := by
  cases b
  all_goals
    go_enter Tryd.func49, Tryd.ntmps49
    go_wp2
    go_ret
    exact ⟨rfl, rfl⟩
theorem belD (n : Nat) (w : World) (m : Nat) : Below n w (w.drewN m) := ⟨rfl, rfl, rfl, Nat.le_refl _, fun _ _ => rfl⟩
theorem cell_kept {W W' : World} {b i : Nat} {v : Value} (hb : Below W.heap.size W W') (h : W.cell? ⟨b, i, none⟩ = some v) : W'.cell? ⟨b, i, none⟩ = some v := by
  rw [hb.cell (p := ⟨b, i, none⟩) (World.block_lt_of_cell? W _ h)]
  exact h
/-- an instruction that is right -/
def okI (o a b n l : Int) : Bool :=
  if o = 23 then (decide (a = 0) && decide (b = 0) && inB n 184 255 && decide (l = 1))
  else inB o 0 22 && (inB a 0 (7 * bitI (hasC o.toNat 65)) && inB b 0 (7 * bitI (hasC o.toNat 66)) && inB n 0 (255 * bitI (hasC o.toNat 78)) && decide (l = 1 + bitI (hasC o.toNat 66 || hasC o.toNat 78)))
set_option maxRecDepth 100000 in
set_option maxHeartbeats 8000000 in
theorem insok_spec (o a b n l : Int) (w : World) :
    Calls Tryd.prog 28 #[insV o a b n l] w fun e w' => e = .returned (.bool (okI o a b n l)) ∧ Below w.heap.size w w' := by
  have hB : Hid (∀ ob, Below w.heap.size w (w.alloc ob)) := fun ob => (Below.refl _ _).alloc (Nat.le_refl _) _
  by_cases h23 : o = 23
  · subst h23
    have e : okI 23 a b n l = (decide (a = 0) && decide (b = 0) && inB n 184 255 && decide (l = 1)) := rfl
    have e1 : (a == 0) = decide (a = 0) := by rw [Bool.eq_iff_iff]; simp
    have e2 : (b == 0) = decide (b = 0) := by rw [Bool.eq_iff_iff]; simp
    have e3 : (l == 1) = decide (l = 1) := by rw [Bool.eq_iff_iff]; simp
    rw [e, ← e1, ← e2, ← e3]
    clear e e1 e2 e3
    cases ha : (a == 0)
    · go_enter Tryd.func28, Tryd.ntmps28
      go_wp2
      go_ret
      exact ⟨rfl, hB.out _⟩
    cases hb : (b == 0)
    · go_enter Tryd.func28, Tryd.ntmps28
      go_wp2
      go_ret
      exact ⟨rfl, hB.out _⟩
    cases hn : inB n 184 255
    · go_enter Tryd.func28, Tryd.ntmps28
      go_wp2_with (go_at_call 58; refine (in_spec _ _ _ _).mono ?_; rintro e w' ⟨rfl, rfl⟩; rw [hn])
      go_ret
      exact ⟨rfl, hB.out _⟩
    · go_enter Tryd.func28, Tryd.ntmps28
      go_wp2_with (go_at_call 58; refine (in_spec _ _ _ _).mono ?_; rintro e w' ⟨rfl, rfl⟩; rw [hn])
      go_ret
      exact ⟨rfl, hB.out _⟩
  have hne : (o == 23) = false := by simpa using h23
  cases hio : inB o 0 22
  · have e : okI o a b n l = false := by unfold okI; rw [if_neg h23, hio]; rfl
    rw [e]
    clear e h23
    go_enter Tryd.func28, Tryd.ntmps28
    go_wp2_with (go_at_call 58; refine (in_spec _ _ _ _).mono ?_; rintro e w' ⟨rfl, rfl⟩; rw [hio])
    go_ret
    exact ⟨rfl, hB.out _⟩
  have hbd : 0 ≤ o ∧ o ≤ 22 := by simpa [inB] using hio
  obtain ⟨k, rfl⟩ : ∃ k : Nat, o = (k : Int) := ⟨o.toNat, by omega⟩
  have hk : k < 23 := by omega
  have e : okI (k : Int) a b n l = (inB a 0 (7 * bitI (hasC k 65)) && inB b 0 (7 * bitI (hasC k 66)) && inB n 0 (255 * bitI (hasC k 78)) && decide (l = 1 + bitI (hasC k 66 || hasC k 78))) := by
    unfold okI
    rw [if_neg h23, hio, Int.toNat_natCast, Bool.true_and]
  rw [e]
  clear e h23 hbd
  obtain ⟨pA, hpA⟩ : ∃ x, hasC k 65 = x := ⟨_, rfl⟩
  obtain ⟨pB, hpB⟩ : ∃ x, hasC k 66 = x := ⟨_, rfl⟩
  obtain ⟨pN, hpN⟩ : ∃ x, hasC k 78 = x := ⟨_, rfl⟩
  rw [hpA, hpB, hpN]
  obtain ⟨iA, hiA⟩ : ∃ x, bitI pA = x := ⟨_, rfl⟩
  obtain ⟨iB, hiB⟩ : ∃ x, bitI pB = x := ⟨_, rfl⟩
  obtain ⟨iN, hiN⟩ : ∃ x, bitI pN = x := ⟨_, rfl⟩
  obtain ⟨iL, hiL⟩ : ∃ x, bitI (pB || pN) = x := ⟨_, rfl⟩
  have bA : 0 ≤ iA ∧ iA ≤ 1 := by rw [← hiA]; exact bitI_bd _
  have bB : 0 ≤ iB ∧ iB ≤ 1 := by rw [← hiB]; exact bitI_bd _
  have bN : 0 ≤ iN ∧ iN ≤ 1 := by rw [← hiN]; exact bitI_bd _
  have bL : 0 ≤ iL ∧ iL ≤ 1 := by rw [← hiL]; exact bitI_bd _
  rw [hiA, hiB, hiN, hiL]
  have wA : IntKind.i64.wrap (7 * iA) = 7 * iA := by rw [IntKind.wrap_i64]; omega
  have wB : IntKind.i64.wrap (7 * iB) = 7 * iB := by rw [IntKind.wrap_i64]; omega
  have wN : IntKind.i64.wrap (255 * iN) = 255 * iN := by rw [IntKind.wrap_i64]; omega
  have wL : IntKind.i64.wrap (1 + iL) = 1 + iL := by rw [IntKind.wrap_i64]; omega
  obtain ⟨vA, hvA⟩ : ∃ x, inB a 0 (7 * iA) = x := ⟨_, rfl⟩
  obtain ⟨vB, hvB⟩ : ∃ x, inB b 0 (7 * iB) = x := ⟨_, rfl⟩
  obtain ⟨vN, hvN⟩ : ∃ x, inB n 0 (255 * iN) = x := ⟨_, rfl⟩
  have eL : (l == 1 + iL) = decide (l = 1 + iL) := by rw [Bool.eq_iff_iff]; simp
  rw [hvA, hvB, hvN, ← eL]
  replace hpA := hid hpA
  replace hpB := hid hpB
  replace hpN := hid hpN
  replace hiA := hid hiA
  replace hiB := hid hiB
  replace hiN := hid hiN
  replace hiL := hid hiL
  replace hvA := hid hvA
  replace hvB := hid hvB
  replace hvN := hid hvN
  clear eL
  go_enter Tryd.func28, Tryd.ntmps28
  go_wp2_with (go_at_call 58; refine (in_spec _ _ _ _).mono ?_; rintro e w' ⟨rfl, rfl⟩; rw [hio])
  go_upto_region 5 with fail
  obtain ⟨W0, hW0⟩ : ∃ W, w.alloc (.cells (insA (k : Int) a b n l) 24) = W := ⟨_, rfl⟩
  have hB4 : Hid (Below w.heap.size w W0) := by rw [← hW0]; exact hB.out _
  have hQ4 : Hid (Blk W0 w.heap.size (insA (k : Int) a b n l)) := by rw [← hW0]; exact Blk.new w _ _
  have x4 := hQ4.out.cell
  rw [hW0]
  clear hW0 x4
  have c0 : W0.cell? ⟨w.heap.size, 0, none⟩ = some (.int .i64 (k : Int)) := hQ4.out.cell 0
  have c1 : W0.cell? ⟨w.heap.size, 1, none⟩ = some (.int .i64 a) := hQ4.out.cell 1
  have hbd : Hid (Below w.heap.size w W0.drew) := hB4.out.drew
  have hqd : Hid (Blk W0.drew w.heap.size (insA (k : Int) a b n l)) := hQ4.out
  go_region_held3 (fun w' => w'.cell? ⟨w.heap.size, 0, none⟩ = some (.int .i64 (k : Int)) ∧ w'.cell? ⟨w.heap.size, 1, none⟩ = some (.int .i64 a) ∧ Hid (Below w.heap.size w w') ∧ Hid (Blk w' w.heap.size (insA (k : Int) a b n l))) (go_keep) (first | (go_at_call 59; refine (has_spec k 65 _ hk).mono ?_; rintro e w5 ⟨rfl, hb1⟩; rw [hpA.out]; have d0 := cell_kept hb1 c0; have d1 := cell_kept hb1 c1; have hbe := hid (new_trans hbd.out hb1); have hqe := hid (hqd.out.below hb1 hqd.out.lt); clear hb1) | (go_at_call 49; refine (bitI_spec _ _).mono ?_; rintro e w' ⟨rfl, hww⟩; obtain rfl := hww.symm; rw [hiA.out]) | (go_at_call 58; (try rw [wA]); refine (in_spec _ _ _ _).mono ?_; rintro e w' ⟨rfl, hww⟩; obtain rfl := hww.symm; rw [hvA.out]))
  obtain ⟨hB5, hQ5⟩ : Hid (Below w.heap.size w w5) ∧ Hid (Blk w5 w.heap.size (insA (k : Int) a b n l)) := ⟨hbe, hqe⟩
  clear c0 c1 d0 d1 hbd hqd hbe hqe hB4 hQ4
  go_upto_region 6 with fail
  have c0 : w5.cell? ⟨w.heap.size, 0, none⟩ = some (.int .i64 (k : Int)) := hQ5.out.cell 0
  have c1 : w5.cell? ⟨w.heap.size, 2, none⟩ = some (.int .i64 b) := hQ5.out.cell 2
  have hbd : Hid (Below w.heap.size w w5.drew) := hB5.out.drew
  have hqd : Hid (Blk w5.drew w.heap.size (insA (k : Int) a b n l)) := hQ5.out
  go_region_held3 (fun w' => w'.cell? ⟨w.heap.size, 0, none⟩ = some (.int .i64 (k : Int)) ∧ w'.cell? ⟨w.heap.size, 2, none⟩ = some (.int .i64 b) ∧ Hid (Below w.heap.size w w') ∧ Hid (Blk w' w.heap.size (insA (k : Int) a b n l))) (go_keep) (first | (go_at_call 59; refine (has_spec k 66 _ hk).mono ?_; rintro e w6 ⟨rfl, hb1⟩; rw [hpB.out]; have d0 := cell_kept hb1 c0; have d1 := cell_kept hb1 c1; have hbe := hid (new_trans hbd.out hb1); have hqe := hid (hqd.out.below hb1 hqd.out.lt); clear hb1) | (go_at_call 49; refine (bitI_spec _ _).mono ?_; rintro e w' ⟨rfl, hww⟩; obtain rfl := hww.symm; rw [hiB.out]) | (go_at_call 58; (try rw [wB]); refine (in_spec _ _ _ _).mono ?_; rintro e w' ⟨rfl, hww⟩; obtain rfl := hww.symm; rw [hvB.out]))
  obtain ⟨hB6, hQ6⟩ : Hid (Below w.heap.size w w6) ∧ Hid (Blk w6 w.heap.size (insA (k : Int) a b n l)) := ⟨hbe, hqe⟩
  clear c0 c1 d0 d1 hbd hqd hbe hqe hB5 hQ5
  go_upto_region 7 with fail
  have c0 : w6.cell? ⟨w.heap.size, 0, none⟩ = some (.int .i64 (k : Int)) := hQ6.out.cell 0
  have c1 : w6.cell? ⟨w.heap.size, 3, none⟩ = some (.int .i64 n) := hQ6.out.cell 3
  have hbd : Hid (Below w.heap.size w w6.drew) := hB6.out.drew
  have hqd : Hid (Blk w6.drew w.heap.size (insA (k : Int) a b n l)) := hQ6.out
  go_region_held3 (fun w' => w'.cell? ⟨w.heap.size, 0, none⟩ = some (.int .i64 (k : Int)) ∧ w'.cell? ⟨w.heap.size, 3, none⟩ = some (.int .i64 n) ∧ Hid (Below w.heap.size w w') ∧ Hid (Blk w' w.heap.size (insA (k : Int) a b n l))) (go_keep) (first | (go_at_call 59; refine (has_spec k 78 _ hk).mono ?_; rintro e w7 ⟨rfl, hb1⟩; rw [hpN.out]; have d0 := cell_kept hb1 c0; have d1 := cell_kept hb1 c1; have hbe := hid (new_trans hbd.out hb1); have hqe := hid (hqd.out.below hb1 hqd.out.lt); clear hb1) | (go_at_call 49; refine (bitI_spec _ _).mono ?_; rintro e w' ⟨rfl, hww⟩; obtain rfl := hww.symm; rw [hiN.out]) | (go_at_call 58; (try rw [wN]); refine (in_spec _ _ _ _).mono ?_; rintro e w' ⟨rfl, hww⟩; obtain rfl := hww.symm; rw [hvN.out]))
  obtain ⟨hB7, hQ7⟩ : Hid (Below w.heap.size w w7) ∧ Hid (Blk w7 w.heap.size (insA (k : Int) a b n l)) := ⟨hbe, hqe⟩
  clear c0 c1 d0 d1 hbd hqd hbe hqe hB6 hQ6
  go_upto_region 8 with fail
  cases vA
  · go_quiet (fail)
    go_wp2
    go_ret
    exact ⟨rfl, hB7.out.trans (belD _ _ _)⟩
  cases vB
  · go_quiet (fail)
    go_wp2
    go_ret
    exact ⟨rfl, hB7.out.trans (belD _ _ _)⟩
  cases vN
  · go_quiet (fail)
    go_wp2
    go_ret
    exact ⟨rfl, hB7.out.trans (belD _ _ _)⟩
  have c0 : w7.cell? ⟨w.heap.size, 0, none⟩ = some (.int .i64 (k : Int)) := hQ7.out.cell 0
  have c4 : w7.cell? ⟨w.heap.size, 4, none⟩ = some (.int .i64 l) := hQ7.out.cell 4
  have hbd : Hid (Below w.heap.size w w7.drew) := hB7.out.drew
  cases pB
  · have hiL' : Hid (bitI pN = iL) := hiL.out
    have T1 : Hid True := trivial
    first | (go_region_held3 (fun w' => w'.cell? ⟨w.heap.size, 0, none⟩ = some (.int .i64 (k : Int)) ∧ w'.cell? ⟨w.heap.size, 4, none⟩ = some (.int .i64 l) ∧ Hid (Below w.heap.size w w')) (go_keep) (first | (clear T1; go_at_call 59; refine (has_spec k 66 _ hk).mono ?_; rintro e w1 ⟨rfl, hb1⟩; rw [hpB.out]; have d0 := cell_kept hb1 c0; have d4 := cell_kept hb1 c4; have hbe := hid (new_trans hbd.out hb1); clear hb1) | (go_at_call 59; refine (has_spec k 78 _ hk).mono ?_; rintro e w2 ⟨rfl, hb2⟩; rw [hpN.out]; have f0 := cell_kept hb2 d0; have f4 := cell_kept hb2 d4; have hbf := hid (new_trans hbe.out hb2); clear hb2) | (go_at_call 49; refine (bitI_spec _ _).mono ?_; rintro e w' ⟨rfl, hww⟩; obtain rfl := hww.symm; rw [hiL'.out]))) | fail
    all_goals
      (try rw [wL])
      go_wp2
      go_ret
      exact ⟨rfl, hbf.out⟩
  · have hiL' : Hid (bitI true = iL) := hiL.out
    refine wp_region_held_drew (S := (fun w' => w'.cell? ⟨w.heap.size, 0, none⟩ = some (.int .i64 (k : Int)) ∧ w'.cell? ⟨w.heap.size, 4, none⟩ = some (.int .i64 l) ∧ Hid (Below w.heap.size w w'))) (by kernel_rfl) ⟨c0, c4, hbd⟩ (fun hHeld => ?_)
    refine wpAnyH_take (i := 0) (oi := ({ dst := some 55, op := Op.move (Operand.tmp 3), type := 4, pos := "l05_code.go:38", after := #[], guard := none } : Oper)) (v := ?_) rfl (by kernel_rfl) (by kernel_rfl) (by kernel_rfl) (fun _ _ _ h => h) (Or.inl ⟨by rfl, ?_⟩) (by assumption) ?_
    rotate_left
    · intro w hSw
      (try dsimp only at hSw)
      go_simp
      (try with_reducible rfl)
    (try simp only [Act.put, List.setIfInBounds_toArray, List.set_cons_zero, List.set_cons_succ])
    refine wpAnyH_take (i := 1) (oi := ({ dst := some 56, op := Op.move (Operand.tmp 55), type := 4, pos := "l05_code.go:38", after := #[{ on := 0, ground := Ground.data }], guard := none } : Oper)) (v := ?_) rfl (by kernel_rfl) (by kernel_rfl) (by kernel_rfl) (fun _ _ _ h => h) (Or.inl ⟨by rfl, ?_⟩) (by assumption) ?_
    rotate_left
    · intro w hSw
      (try dsimp only at hSw)
      go_simp
      (try with_reducible rfl)
    (try simp only [Act.put, List.setIfInBounds_toArray, List.set_cons_zero, List.set_cons_succ])
    refine wpAnyH_take (i := 2) (oi := ({ dst := some 57, op := Op.move (Operand.tmp 4), type := 4, pos := "l05_code.go:38", after := #[{ on := 1, ground := Ground.guard }], guard := some (1, true) } : Oper)) (v := ?_) rfl (by kernel_rfl) (by kernel_rfl) (by kernel_rfl) (fun _ _ _ h => h) (Or.inl ⟨by rfl, ?_⟩) (by assumption) ?_
    rotate_left
    · intro w hSw
      (try dsimp only at hSw)
      go_simp
      (try with_reducible rfl)
    (try simp only [Act.put, List.setIfInBounds_toArray, List.set_cons_zero, List.set_cons_succ])
    refine wpAnyH_take (i := 3) (oi := ({ dst := some 58, op := Op.pick (Operand.tmp 56) (Operand.tmp 57) (Operand.const (Value.bool false)), type := 4, pos := "l05_code.go:38", after := #[{ on := 1, ground := Ground.data }, { on := 2, ground := Ground.data }], guard := none } : Oper)) (v := ?_) rfl (by kernel_rfl) (by kernel_rfl) (by kernel_rfl) (fun _ _ _ h => h) (Or.inl ⟨by rfl, ?_⟩) (by assumption) ?_
    rotate_left
    · intro w hSw
      (try dsimp only at hSw)
      go_simp
      (try with_reducible rfl)
    (try simp only [Act.put, List.setIfInBounds_toArray, List.set_cons_zero, List.set_cons_succ])
    refine wpAnyH_take (i := 4) (oi := ({ dst := some 59, op := Op.move (Operand.tmp 58), type := 4, pos := "l05_code.go:38", after := #[{ on := 3, ground := Ground.data }, { on := 1, ground := Ground.chain }], guard := none } : Oper)) (v := ?_) rfl (by kernel_rfl) (by kernel_rfl) (by kernel_rfl) (fun _ _ _ h => h) (Or.inl ⟨by rfl, ?_⟩) (by assumption) ?_
    rotate_left
    · intro w hSw
      (try dsimp only at hSw)
      go_simp
      (try with_reducible rfl)
    (try simp only [Act.put, List.setIfInBounds_toArray, List.set_cons_zero, List.set_cons_succ])
    refine wpAnyH_take (i := 5) (oi := ({ dst := some 60, op := Op.move (Operand.tmp 5), type := 4, pos := "l05_code.go:38", after := #[{ on := 4, ground := Ground.guard }], guard := some (4, true) } : Oper)) (v := ?_) rfl (by kernel_rfl) (by kernel_rfl) (by kernel_rfl) (fun _ _ _ h => h) (Or.inl ⟨by rfl, ?_⟩) (by assumption) ?_
    rotate_left
    · intro w hSw
      (try dsimp only at hSw)
      go_simp
      (try with_reducible rfl)
    (try simp only [Act.put, List.setIfInBounds_toArray, List.set_cons_zero, List.set_cons_succ])
    refine wpAnyH_take (i := 6) (oi := ({ dst := some 61, op := Op.pick (Operand.tmp 59) (Operand.tmp 60) (Operand.const (Value.bool false)), type := 4, pos := "l05_code.go:38", after := #[{ on := 4, ground := Ground.data }, { on := 5, ground := Ground.data }], guard := none } : Oper)) (v := ?_) rfl (by kernel_rfl) (by kernel_rfl) (by kernel_rfl) (fun _ _ _ h => h) (Or.inl ⟨by rfl, ?_⟩) (by assumption) ?_
    rotate_left
    · intro w hSw
      (try dsimp only at hSw)
      go_simp
      (try with_reducible rfl)
    (try simp only [Act.put, List.setIfInBounds_toArray, List.set_cons_zero, List.set_cons_succ])
    refine wpAnyH_take (i := 7) (oi := ({ dst := some 62, op := Op.move (Operand.tmp 61), type := 4, pos := "l05_code.go:38", after := #[{ on := 6, ground := Ground.data }, { on := 4, ground := Ground.chain }], guard := none } : Oper)) (v := ?_) rfl (by kernel_rfl) (by kernel_rfl) (by kernel_rfl) (fun _ _ _ h => h) (Or.inl ⟨by rfl, ?_⟩) (by assumption) ?_
    rotate_left
    · intro w hSw
      (try dsimp only at hSw)
      go_simp
      (try with_reducible rfl)
    (try simp only [Act.put, List.setIfInBounds_toArray, List.set_cons_zero, List.set_cons_succ])
    refine wpAnyH_take (i := 8) (oi := ({ dst := some 63, op := Op.fieldAddr 24 (Operand.tmp 1) 4, type := 0, pos := "l05_code.go:38", after := #[{ on := 7, ground := Ground.guard }], guard := some (7, true) } : Oper)) (v := ?_) rfl (by kernel_rfl) (by kernel_rfl) (by kernel_rfl) (fun _ _ _ h => h) (Or.inl ⟨by rfl, ?_⟩) (by assumption) ?_
    rotate_left
    · intro w hSw
      (try dsimp only at hSw)
      go_simp
      (try with_reducible rfl)
    (try simp only [Act.put, List.setIfInBounds_toArray, List.set_cons_zero, List.set_cons_succ])
    refine wpAnyH_take (i := 9) (oi := ({ dst := some 64, op := Op.load 3 (Operand.tmp 63), type := 3, pos := "l05_code.go:38", after := #[{ on := 8, ground := Ground.data }, { on := 7, ground := Ground.guard }], guard := some (7, true) } : Oper)) (v := ?_) rfl (by kernel_rfl) (by kernel_rfl) (by kernel_rfl) (fun _ _ _ h => h) (Or.inl ⟨by rfl, ?_⟩) (by assumption) ?_
    rotate_left
    · intro w hSw
      (try dsimp only at hSw)
      go_simp
      (try with_reducible rfl)
    (try simp only [Act.put, List.setIfInBounds_toArray, List.set_cons_zero, List.set_cons_succ])
    refine wpAnyH_take (i := 10) (oi := ({ dst := some 65, op := Op.fieldAddr 24 (Operand.tmp 1) 0, type := 0, pos := "l05_code.go:38", after := #[{ on := 7, ground := Ground.guard }], guard := some (7, true) } : Oper)) (v := ?_) rfl (by kernel_rfl) (by kernel_rfl) (by kernel_rfl) (fun _ _ _ h => h) (Or.inl ⟨by rfl, ?_⟩) (by assumption) ?_
    rotate_left
    · intro w hSw
      (try dsimp only at hSw)
      go_simp
      (try with_reducible rfl)
    (try simp only [Act.put, List.setIfInBounds_toArray, List.set_cons_zero, List.set_cons_succ])
    refine wpAnyH_take (i := 11) (oi := ({ dst := some 66, op := Op.load 3 (Operand.tmp 65), type := 3, pos := "l05_code.go:38", after := #[{ on := 10, ground := Ground.data }, { on := 7, ground := Ground.guard }], guard := some (7, true) } : Oper)) (v := ?_) rfl (by kernel_rfl) (by kernel_rfl) (by kernel_rfl) (fun _ _ _ h => h) (Or.inl ⟨by rfl, ?_⟩) (by assumption) ?_
    rotate_left
    · intro w hSw
      (try dsimp only at hSw)
      go_simp
      (try with_reducible rfl)
    (try simp only [Act.put, List.setIfInBounds_toArray, List.set_cons_zero, List.set_cons_succ])
    refine wpAnyH_ready (rs := [12]) (by kernel_rfl) (by simp) ?_
    refine AllReadyH.cons (o := ({ dst := some 67, op := Op.call { callee := Callee.value (Operand.func 59), args := #[Operand.tmp 66, Operand.const (Value.int IntKind.u8 66)], argTypes := #[3, 5] }, type := 4, pos := "l05_code.go:38", after := #[{ on := 11, ground := Ground.data }, { on := 7, ground := Ground.chain }, { on := 7, ground := Ground.guard }], guard := some (7, true) } : Oper)) rfl (fun K hK => ?_) AllReadyH.nil
    go_simp
    go_at_call 59
    refine (has_spec k 66 _ hk).mono ?_
    rintro e w1 ⟨rfl, hb1⟩
    rw [hpB.out]
    have d0 := cell_kept hb1 c0
    have d4 := cell_kept hb1 c4
    have hbe := hid (new_trans hbd.out hb1)
    clear hb1
    go_wp2_with fail
    refine hK.out _ _ ⟨d0, d4, hbe⟩ (fun hHeld => ?_)
    clear hK K
    (try simp only [Act.put, List.setIfInBounds_toArray, List.set_cons_zero, List.set_cons_succ])
    refine wpAnyH_take (i := 13) (oi := ({ dst := some 68, op := Op.move (Operand.tmp 67), type := 4, pos := "l05_code.go:38", after := #[{ on := 12, ground := Ground.data }, { on := 12, ground := Ground.chain }, { on := 7, ground := Ground.guard }], guard := some (7, true) } : Oper)) (v := ?_) rfl (by kernel_rfl) (by kernel_rfl) (by kernel_rfl) (fun _ _ _ h => h) (Or.inl ⟨by rfl, ?_⟩) (by assumption) ?_
    rotate_left
    · intro w hSw
      (try dsimp only at hSw)
      go_simp
      (try with_reducible rfl)
    (try simp only [Act.put, List.setIfInBounds_toArray, List.set_cons_zero, List.set_cons_succ])
    refine wpAnyH_take (i := 14) (oi := ({ dst := some 69, op := Op.fieldAddr 24 (Operand.tmp 1) 0, type := 0, pos := "l05_code.go:38", after := #[{ on := 13, ground := Ground.guard }], guard := some (13, false) } : Oper)) (v := undef) rfl (by kernel_rfl) (by kernel_rfl) (by kernel_rfl) (fun _ _ _ h => h) (Or.inr ⟨by rfl, rfl⟩) (by assumption) ?_
    (try simp only [Act.put, List.setIfInBounds_toArray, List.set_cons_zero, List.set_cons_succ])
    refine wpAnyH_take (i := 15) (oi := ({ dst := some 70, op := Op.load 3 (Operand.tmp 69), type := 3, pos := "l05_code.go:38", after := #[{ on := 14, ground := Ground.data }, { on := 13, ground := Ground.guard }], guard := some (13, false) } : Oper)) (v := undef) rfl (by kernel_rfl) (by kernel_rfl) (by kernel_rfl) (fun _ _ _ h => h) (Or.inr ⟨by rfl, rfl⟩) (by assumption) ?_
    (try simp only [Act.put, List.setIfInBounds_toArray, List.set_cons_zero, List.set_cons_succ])
    refine wpAnyH_take (i := 16) (oi := ({ dst := some 71, op := Op.call { callee := Callee.value (Operand.func 59), args := #[Operand.tmp 70, Operand.const (Value.int IntKind.u8 78)], argTypes := #[3, 5] }, type := 4, pos := "l05_code.go:38", after := #[{ on := 15, ground := Ground.data }, { on := 13, ground := Ground.chain }, { on := 13, ground := Ground.guard }], guard := some (13, false) } : Oper)) (v := undef) rfl (by kernel_rfl) (by kernel_rfl) (by kernel_rfl) (fun _ _ _ h => h) (Or.inr ⟨by rfl, rfl⟩) (by assumption) ?_
    (try simp only [Act.put, List.setIfInBounds_toArray, List.set_cons_zero, List.set_cons_succ])
    refine wpAnyH_take (i := 17) (oi := ({ dst := some 72, op := Op.pick (Operand.tmp 68) (Operand.const (Value.bool true)) (Operand.tmp 71), type := 4, pos := "l05_code.go:38", after := #[{ on := 13, ground := Ground.data }, { on := 16, ground := Ground.data }, { on := 7, ground := Ground.guard }], guard := some (7, true) } : Oper)) (v := ?_) rfl (by kernel_rfl) (by kernel_rfl) (by kernel_rfl) (fun _ _ _ h => h) (Or.inl ⟨by rfl, ?_⟩) (by assumption) ?_
    rotate_left
    · intro w hSw
      (try dsimp only at hSw)
      go_simp
      (try with_reducible rfl)
    (try simp only [Act.put, List.setIfInBounds_toArray, List.set_cons_zero, List.set_cons_succ])
    refine wpAnyH_ready (rs := [18]) (by kernel_rfl) (by simp) ?_
    refine AllReadyH.cons (o := ({ dst := some 73, op := Op.call { callee := Callee.value (Operand.func 49), args := #[Operand.tmp 72], argTypes := #[4] }, type := 3, pos := "l05_code.go:38", after := #[{ on := 17, ground := Ground.data }, { on := 16, ground := Ground.chain }, { on := 7, ground := Ground.guard }], guard := some (7, true) } : Oper)) rfl (fun K hK => ?_) AllReadyH.nil
    go_simp
    go_at_call 49
    refine (bitI_spec _ _).mono ?_
    rintro e w' ⟨rfl, hww⟩
    obtain rfl := hww.symm
    rw [hiL'.out]
    go_wp2_with fail
    refine hK.out _ _ ⟨d0, d4, hbe⟩ (fun hHeld => ?_)
    clear hK K
    (try simp only [Act.put, List.setIfInBounds_toArray, List.set_cons_zero, List.set_cons_succ])
    refine wpAnyH_take (i := 19) (oi := ({ dst := some 74, op := Op.binOp BinOp.add 3 (Operand.const (Value.int IntKind.i64 1)) (Operand.tmp 73) 3, type := 3, pos := "l05_code.go:38", after := #[{ on := 18, ground := Ground.data }, { on := 7, ground := Ground.guard }], guard := some (7, true) } : Oper)) (v := ?_) rfl (by kernel_rfl) (by kernel_rfl) (by kernel_rfl) (fun _ _ _ h => h) (Or.inl ⟨by rfl, ?_⟩) (by assumption) ?_
    rotate_left
    · intro w hSw
      (try dsimp only at hSw)
      go_simp
      (try with_reducible rfl)
    (try simp only [Act.put, List.setIfInBounds_toArray, List.set_cons_zero, List.set_cons_succ])
    refine wpAnyH_take (i := 20) (oi := ({ dst := some 75, op := Op.binOp BinOp.eql 3 (Operand.tmp 64) (Operand.tmp 74) 3, type := 4, pos := "l05_code.go:38", after := #[{ on := 9, ground := Ground.data }, { on := 19, ground := Ground.data }, { on := 7, ground := Ground.guard }], guard := some (7, true) } : Oper)) (v := ?_) rfl (by kernel_rfl) (by kernel_rfl) (by kernel_rfl) (fun _ _ _ h => h) (Or.inl ⟨by rfl, ?_⟩) (by assumption) ?_
    rotate_left
    · intro w hSw
      (try dsimp only at hSw)
      go_simp
      (try with_reducible rfl)
    (try simp only [Act.put, List.setIfInBounds_toArray, List.set_cons_zero, List.set_cons_succ])
    refine wpAnyH_take (i := 21) (oi := ({ dst := some 76, op := Op.pick (Operand.tmp 62) (Operand.tmp 75) (Operand.const (Value.bool false)), type := 4, pos := "l05_code.go:38", after := #[{ on := 7, ground := Ground.data }, { on := 20, ground := Ground.data }], guard := none } : Oper)) (v := ?_) rfl (by kernel_rfl) (by kernel_rfl) (by kernel_rfl) (fun _ _ _ h => h) (Or.inl ⟨by rfl, ?_⟩) (by assumption) ?_
    rotate_left
    · intro w hSw
      (try dsimp only at hSw)
      go_simp
      (try with_reducible rfl)
    (try simp only [Act.put, List.setIfInBounds_toArray, List.set_cons_zero, List.set_cons_succ])
    refine wpAnyH_take (i := 22) (oi := ({ dst := some 2, op := Op.assign (Operand.tmp 76), type := 4, pos := "l05_code.go:38", after := #[{ on := 21, ground := Ground.data }, { on := 18, ground := Ground.chain }, { on := 0, ground := Ground.phase }, { on := 1, ground := Ground.phase }, { on := 2, ground := Ground.phase }, { on := 3, ground := Ground.phase }, { on := 4, ground := Ground.phase }, { on := 5, ground := Ground.phase }, { on := 6, ground := Ground.phase }, { on := 7, ground := Ground.phase }, { on := 8, ground := Ground.phase }, { on := 9, ground := Ground.phase }, { on := 10, ground := Ground.phase }, { on := 11, ground := Ground.phase }, { on := 12, ground := Ground.phase }, { on := 13, ground := Ground.phase }, { on := 14, ground := Ground.phase }, { on := 15, ground := Ground.phase }, { on := 16, ground := Ground.phase }, { on := 17, ground := Ground.phase }, { on := 18, ground := Ground.phase }, { on := 19, ground := Ground.phase }, { on := 20, ground := Ground.phase }, { on := 21, ground := Ground.phase }], guard := none } : Oper)) (v := ?_) rfl (by kernel_rfl) (by kernel_rfl) (by kernel_rfl) (fun _ _ _ h => h) (Or.inl ⟨by rfl, ?_⟩) (by assumption) ?_
    rotate_left
    · intro w hSw
      (try dsimp only at hSw)
      go_simp
      (try with_reducible rfl)
    (try simp only [Act.put, List.setIfInBounds_toArray, List.set_cons_zero, List.set_cons_succ])
    refine wpAnyH_done (by kernel_rfl) ?_ _
    all_goals
      (try rw [wL])
      go_wp2
      go_ret
      exact ⟨rfl, hbe.out⟩
end Go.Proofs.YtneagomkohoceaaDoor
