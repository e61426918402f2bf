/- What is read of the keys, and what is told to the screen's port: specification and program. -/
import Derived.Test.YtifcdojaocndhaaDoorM04
import Derived.Test.YtifcdojaocndhaaDoorM05
import Derived.BigRegion
import Derived.Deep.RegionWith
import Derived.BigQuiet
import Derived.Test.YtifcdojaocndhaaDoorM00
import Derived.OwnWalk
import Derived.OneCell
import Derived.WalkSmall
import Derived.Deep.QuietTactic
import Derived.Deep.RegionHeld3
import Derived.Deep.AppendLies
import Derived.Deep.DrawnRows
import Derived.KernelRfl
import Derived.OpenShut
namespace Go.Proofs.YtifcdojaocndhaaDoor
open Go.ChangeShapes Go.WideShapes Go.ChangeAt Go.RowKit
set_option linter.unusedVariables false
set_option linter.unusedSimpArgs false

/-- what the first k rows leave of the bits -/
def rowsN (f : Nat → Nat) (rows : Nat) : Nat → Nat
  | 0 => 31
  | k + 1 => cond (Nat.testBit rows k) (rowsN f rows k) (Nat.land (rowsN f rows k) (f k))
theorem rowsN_lt (f : Nat → Nat) (rows k : Nat) : rowsN f rows k < 32 := by
  induction k with
  | zero => exact (by decide : (31 : Nat) < 32)
  | succ k ih =>
    unfold rowsN
    cases Nat.testBit rows k
    · exact Nat.lt_of_le_of_lt Nat.and_le_left ih
    · exact ih
def readN (f : Nat → Nat) (rows : Nat) (ear : Bool) : Nat := Nat.lor (Nat.lor (rowsN f rows 8) 160) (64 * btN ear)
def read2 (p : Po) (rows : Int) (ear : Bool) : Int × Int := if okPo p = true then (if inB rows 0 255 = true then ((readN (fun k => (p.key k).toNat) rows.toNat ear : Nat), 0) else (0, 4)) else (0, 1)
theorem bit_shr : ∀ rows : Nat, rows < 256 → ∀ k : Nat, k < 8 → (((rows / 2 ^ k) % 2 == 0) = !(Nat.testBit rows k)) := by
  intro rows h k hk
  rw [Nat.testBit_eq_decide_div_mod_eq]
  rw [Bool.eq_iff_iff]
  simp
theorem bitP_spec (b : Bool) (w : World) : Calls Tryd.prog 151 #[.bool b] w fun e w' => e = .returned (.int .i64 (btN b)) ∧ w' = w := by
  cases b
  all_goals
    go_enter Tryd.func151, Tryd.ntmps151
    go_wp2
    go_ret
    exact ⟨rfl, rfl⟩
set_option maxRecDepth 100000 in
set_option maxHeartbeats 1000000 in
theorem keys_spec (c : Po) (f : Nat → Nat) (rows : Nat) (ear : Bool) (w : World) (hf : ∀ k, k < 8 → c.key k = (f k : Nat) ∧ f k < 32) (hr : rows < 256) :
    Calls Tryd.prog 120 #[poV c, .int .i64 (rows : Int), .bool ear] w fun e w' => e = .returned (.int .i64 (readN f rows ear : Nat)) ∧ Below w.heap.size w w' := by
  have hB := hid ((Below.refl w.heap.size w).alloc (Nat.le_refl _) (.cells (poA c) 32))
  have q1 := (Blk.new w (poA c) 32).cell
  have hix := hid (poA_at c)
  replace hf := hid hf
  have hE : Hid (bits .or .i64 (bits .or .i64 ((rowsN f rows 8 : Nat) : Int) 160) (64 * (btN ear : Nat) : Int) = (readN f rows ear : Nat)) := by
    have h1 : bits .or .i64 ((rowsN f rows 8 : Nat) : Int) 160 = (Nat.lor (rowsN f rows 8) 160 : Nat) := bOr _ 160 (by have := rowsN_lt f rows 8; omega) (by omega)
    have h2 : Nat.lor (rowsN f rows 8) 160 < 2 ^ 8 := Nat.or_lt_two_pow (by have := rowsN_lt f rows 8; omega) (by omega)
    show bits .or .i64 (bits .or .i64 ((rowsN f rows 8 : Nat) : Int) 160) (64 * (btN ear : Nat) : Int) = _
    rw [h1]
    exact bOr _ (64 * btN ear) (by omega) (by cases ear <;> decide)
  have hS : Hid (∀ k, rowsN f rows (k + 1) = cond (Nat.testBit rows k) (rowsN f rows k) (Nat.land (rowsN f rows k) (f k))) := fun _ => rfl
  have hLt : Hid (∀ k, rowsN f rows k < 32) := rowsN_lt f rows
  have h0 : Hid (rowsN f rows 0 = 31) := rfl
  generalize readN f rows ear = R at *
  generalize hG : rowsN f rows = G at *
  clear hG
  go_enter Tryd.func120, Tryd.ntmps120
  go_upto_region 1 with fail
  obtain ⟨V, hV⟩ : ∃ V, w.alloc (Obj.cells (poA c) 32) = V := ⟨_, rfl⟩
  rw [hV] at hB q1 ⊢
  clear hV
  go_wp2
  go_loop [7, 8] (fun v i => ∃ k : Nat, k ≤ 8 ∧ v = .int .i64 (G k : Nat) ∧ i = .int .i64 k) (fun _ i => 8 - (intOf i).toNat)
  case atStart => exact ⟨0, by omega, by rw [h0.out]; rfl, rfl⟩
  case round =>
    obtain ⟨k, hk, rfl, rfl⟩ := hrel
    by_cases hlt : k < 8
    · have x1 := q1 k
      rw [hix.out k hlt, (hf.out k hlt).1] at x1
      have hfl := (hf.out k hlt).2
      have hgl := hLt.out k
      have hn := hS.out k
      generalize f k = x at *
      generalize G k = g at *
      generalize hG1 : G (k + 1) = g1 at *
      replace hG1 := hid hG1
      obtain ⟨s, hs⟩ : ∃ s : Nat, (rows : Int) / 2 ^ k = (s : Int) := ⟨rows / 2 ^ k, by simp⟩
      have hb : (bits .and .i64 (s : Int) 1 == 0) = !(Nat.testBit rows k) := by
        have h1 := bit_shr rows hr k hlt
        have h2 : rows / 2 ^ k = s := by
          have : ((rows / 2 ^ k : Nat) : Int) = (s : Int) := by rw [← hs]; simp
          exact_mod_cast this
        rw [h2] at h1
        have hsl : s < 65536 := by rw [← h2]; exact Nat.lt_of_le_of_lt (Nat.div_le_self _ _) (by omega)
        have h3 : bits .and .i64 (s : Int) 1 = (Nat.land s 1 : Nat) := bAnd s 1 hsl (by omega)
        have h4 : Nat.land s 1 = s % 2 := Nat.and_one_is_mod s
        rw [← h1, h3, h4, Bool.eq_iff_iff]
        simp
        omega
      have rA : bits .and .i64 (g : Int) (x : Int) = (Nat.land g x : Nat) := bAnd g x (by omega) (by omega)
      clear hS hLt h0 hf hix q1
      generalize Nat.land g x = y at *
      cases ht : Nat.testBit rows k
      · rw [ht] at hn hb
        obtain rfl : g1 = y := hn
        clear ht
        simp only [Bool.not_false] at hb
        go_wp2
        go_round
        case rel => exact ⟨k + 1, by omega, by rw [hG1.out], by go_num⟩
        case measure => simp [intOf]; omega
      · rw [ht] at hn hb
        obtain rfl : g1 = g := hn
        clear ht rA
        simp only [Bool.not_true] at hb
        go_wp2
        go_round
        case rel => exact ⟨k + 1, by omega, by rw [hG1.out], by go_num⟩
        case measure => simp [intOf]; omega
    · obtain rfl : k = 8 := by omega
      have hl := hLt.out 8
      clear hS hLt h0 hf hix q1 hlt hk
      have hbt : btN ear ≤ 1 := by cases ear <;> decide
      have hbit := hid (fun w => bitP_spec ear w)
      generalize btN ear = b at *
      go_wp2_with (go_at_call 151; refine (hbit.out _).mono ?_; rintro e w' ⟨rfl, hww⟩; obtain rfl := hww.symm)
      rw [hE.out]
      go_ret
      exact ⟨rfl, hB.out⟩
theorem whenP_impl (p : Bool) (x : Int) (w : World) : Calls Tryd.prog 156 #[.bool p, .int .i64 x] w fun e w' => e = .returned (.int .i64 (cond p x 0)) ∧ w' = w := by
  cases p
  all_goals
    go_enter Tryd.func156, Tryd.ntmps156
    go_wp2
    go_ret
    exact ⟨rfl, rfl⟩
theorem bit_and (rows : Nat) (h : rows < 256) (k : Nat) (hk : k < 8) : (bits .and .i64 (rows : Int) ((Nat.pow 2 k : Nat) : Int) == 0) = !(Nat.testBit rows k) := by
  have h0 : Nat.pow 2 k < 65536 := by rcases eight hk with rfl | rfl | rfl | rfl | rfl | rfl | rfl | rfl <;> decide
  have h1 : ∀ rows : Nat, rows < 256 → ∀ k : Nat, k < 8 → Nat.beq (Nat.land rows (Nat.pow 2 k)) 0 = !(Nat.testBit rows k) := by decide +kernel
  rw [bAnd rows (Nat.pow 2 k) (by omega) h0, ← h1 rows h k hk, Bool.eq_iff_iff]
  simp
set_option maxRecDepth 100000 in
set_option maxHeartbeats 4000000 in
theorem readk_impl (c : Po) (rows : Int) (ear : Bool) (w : World) : Calls Tryd.prog 123 #[poV c, .int .i64 rows, .bool ear] w fun e w' => e = .returned (.tuple #[.int .i64 (read2 c rows ear).1, .int .i64 (read2 c rows ear).2]) ∧ Below w.heap.size w w' := by
  have hB := hid ((Below.refl w.heap.size w).alloc (Nat.le_refl _) (.cells (poA c) 32))
  have q := hid (Blk.new w (poA c) 32)
  have x0 := q.out.cell
  have e : read2 c rows ear = if okPo c = true then (if inB rows 0 255 = true then (((readN (fun k => (c.key k).toNat) rows.toNat ear : Nat) : Int), (0 : Int)) else (0, 4)) else (0, 1) := rfl
  rw [e]
  clear e
  cases hr : inB rows 0 255
  · have hpf := hid (fun w1 => pfault_impl c false w1)
    obtain ⟨K, hK, hK2⟩ : ∃ K, pfN c false = K ∧ (K = 1 ∨ K = 4) := ⟨_, rfl, by unfold pfN; split <;> simp⟩
    have hA : (if okPo c = true then (if false = true then (((readN (fun k => (c.key k).toNat) rows.toNat ear : Nat) : Int), (0 : Int)) else (0, 4)) else (0, 1)) = (0, K) := by
      rw [← hK]; unfold pfN; cases okPo c <;> rfl
    rw [hA]
    rw [hK] at hpf
    clear hA hK
    rcases hK2 with rfl | rfl
    all_goals
      go_enter Tryd.func123, Tryd.ntmps123
      go_upto_region 1 with fail
      obtain ⟨V, hV⟩ : ∃ V, w.alloc (Obj.cells (poA c) 32) = V := ⟨_, rfl⟩
      rw [hV] at hB x0 ⊢
      clear hV q
      go_region_with (first | (go_at_call 68; refine (isbP_impl _ _).mono ?_; rintro e w' ⟨rfl, hww⟩; obtain rfl := hww.symm; rw [hr]) | (go_at_call 155; refine (hpf.out _).mono ?_; rintro e w1 ⟨rfl, hb⟩; replace hb := hid hb))
      all_goals
        go_wp2
        go_ret2
        exact ⟨rfl, by first | exact new_trans hB.out hb.out | exact new_trans hB.out.drew hb.out⟩
  · obtain ⟨r, rfl, hr8⟩ := inByte hr
    cases hc : okPo c
    · have hpf := hid (fun w1 => pfault_impl c true w1)
      have e1 : pfN c true = 1 := by unfold pfN; rw [hc]; rfl
      rw [e1] at hpf
      rw [if_neg (by simp)]
      clear e1
      go_enter Tryd.func123, Tryd.ntmps123
      go_upto_region 1 with fail
      obtain ⟨V, hV⟩ : ∃ V, w.alloc (Obj.cells (poA c) 32) = V := ⟨_, rfl⟩
      rw [hV] at hB x0 ⊢
      clear hV q
      go_region_with (first | (go_at_call 68; refine (isbP_impl _ _).mono ?_; rintro e w' ⟨rfl, hww⟩; obtain rfl := hww.symm; rw [hr]) | (go_at_call 155; refine (hpf.out _).mono ?_; rintro e w1 ⟨rfl, hb⟩; replace hb := hid hb))
      all_goals
        go_wp2
        go_ret2
        exact ⟨rfl, by first | exact new_trans hB.out hb.out | exact new_trans hB.out.drew hb.out⟩
    · have hpf := hid (fun w1 => pfault_impl c true w1)
      have e1 : pfN c true = 0 := by unfold pfN; rw [hc]; rfl
      rw [e1] at hpf
      rw [if_pos rfl, if_pos rfl, Int.toNat_natCast]
      clear e1
      obtain ⟨f, hfd⟩ : ∃ f : Nat → Nat, f = fun k => (c.key k).toNat := ⟨_, rfl⟩
      have hf : Hid (∀ k, k < 8 → c.key k = (f k : Nat) ∧ f k < 32) := fun k hk => by
        obtain ⟨x, hx, h32⟩ := okPo_key hc k hk
        rw [hfd]
        simp only []
        rw [hx, Int.toNat_natCast]
        exact ⟨rfl, h32⟩
      rw [← hfd]
      have hix := hid (kyP_at c)
      have hE : Hid (bits .or .i64 (bits .or .i64 ((rowsN f r 8 : Nat) : Int) 160) (cond ear 64 0) = (readN f r ear : Nat)) := by
        have h1 : bits .or .i64 ((rowsN f r 8 : Nat) : Int) 160 = (Nat.lor (rowsN f r 8) 160 : Nat) := bOr _ 160 (by have := rowsN_lt f r 8; omega) (by omega)
        have h2 : Nat.lor (rowsN f r 8) 160 < 2 ^ 8 := Nat.or_lt_two_pow (by have := rowsN_lt f r 8; omega) (by omega)
        show bits .or .i64 (bits .or .i64 ((rowsN f r 8 : Nat) : Int) 160) (cond ear 64 0) = _
        rw [h1, show (cond ear 64 0 : Int) = ((64 * btN ear : Nat) : Int) by cases ear <;> rfl]
        exact bOr _ (64 * btN ear) (by omega) (by cases ear <;> decide)
      have hS : Hid (∀ k, rowsN f r (k + 1) = cond (Nat.testBit r k) (rowsN f r k) (Nat.land (rowsN f r k) (f k))) := fun _ => rfl
      have hLt : Hid (∀ k, rowsN f r k < 32) := rowsN_lt f r
      have h0 : Hid (rowsN f r 0 = 31) := rfl
      have hT : Hid (∀ k, k < 8 → (bits .and .i64 (r : Int) ((Nat.pow 2 k : Nat) : Int) == 0) = !(Nat.testBit r k)) := fun k hk => bit_and r hr8 k hk
      clear hfd
      generalize readN f r ear = R at *
      generalize hG : rowsN f r = G at *
      clear hG
      go_enter Tryd.func123, Tryd.ntmps123
      go_upto_region 1 with fail
      obtain ⟨V, hV⟩ : ∃ V, w.alloc (Obj.cells (poA c) 32) = V := ⟨_, rfl⟩
      rw [hV] at hB x0 q ⊢
      clear hV
      go_region_with (first | (go_at_call 68; refine (isbP_impl _ _).mono ?_; rintro e w' ⟨rfl, hww⟩; obtain rfl := hww.symm; rw [hr]) | (go_at_call 155; refine (hpf.out _).mono ?_; rintro e w1 ⟨rfl, hb⟩; have q1 := hid ((q.out.below (by first | exact (Below.refl _ _).drew | exact Below.refl _ _) q.out.lt).below hb (by first | exact q.out.lt | exact (q.out.below (Below.refl V.heap.size V).drew q.out.lt).lt)); replace hb := hid hb))
      all_goals
        have x1 := q1.out.cell
        have hb1 : Hid (Below w.heap.size w w1) := (by first | exact new_trans hB.out hb.out | exact new_trans hB.out.drew hb.out)
        clear hb hB q1 q x0
        go_wp2
        go_loop [9, 21] (fun v i => ∃ k : Nat, k ≤ 8 ∧ v = .int .i64 (G k : Nat) ∧ i = .int .i64 k) (fun _ i => 8 - (intOf i).toNat)
        case atStart => exact ⟨0, by omega, by rw [h0.out]; rfl, rfl⟩
        case round =>
          obtain ⟨k, hk, rfl, rfl⟩ := hrel
          by_cases hlt : k < 8
          · have i1 := hix.out k hlt
            rw [(hf.out k hlt).1] at i1
            have hfl := (hf.out k hlt).2
            have hgl := hLt.out k
            have hn := hS.out k
            have hb := hT.out k hlt
            have hG1 : Hid (∀ g, G (k + 1) = g → G (k + 1) = g) := fun g h => h
            clear hS hLt h0 hf hix hT x1
            generalize f k = x at *
            generalize G k = g at *
            generalize hG2 : G (k + 1) = g1 at *
            replace hG2 := hid hG2
            have rA : bits .and .i64 (g : Int) (x : Int) = (Nat.land g x : Nat) := bAnd g x (by omega) (by omega)
            generalize Nat.land g x = y at *
            generalize Nat.testBit r k = tb at *
            clear hG1
            cases tb
            · obtain rfl : g1 = y := hn
              rcases eight hlt with rfl | rfl | rfl | rfl | rfl | rfl | rfl | rfl
              · have i2 : ∀ w, (Instr.index 24 (Value.agg #[.int .i64 c.k0, .int .i64 c.k1, .int .i64 c.k2, .int .i64 c.k3, .int .i64 c.k4, .int .i64 c.k5, .int .i64 c.k6, .int .i64 c.k7]) (.int .i64 0)).run Tryd.prog w = .ok (.int .i64 (x : Int)) w := i1
                have hb2 : (bits .and .i64 (r : Int) 1 == 0) = true := hb
                clear i1 hb
                go_wp2
                go_round
                case rel => exact ⟨1, by omega, by rw [hG2.out], by go_num⟩
                case measure => simp [intOf]
              · have i2 : ∀ w, (Instr.index 24 (Value.agg #[.int .i64 c.k0, .int .i64 c.k1, .int .i64 c.k2, .int .i64 c.k3, .int .i64 c.k4, .int .i64 c.k5, .int .i64 c.k6, .int .i64 c.k7]) (.int .i64 1)).run Tryd.prog w = .ok (.int .i64 (x : Int)) w := i1
                have hb2 : (bits .and .i64 (r : Int) 2 == 0) = true := hb
                clear i1 hb
                go_wp2
                go_round
                case rel => exact ⟨2, by omega, by rw [hG2.out], by go_num⟩
                case measure => simp [intOf]
              · have i2 : ∀ w, (Instr.index 24 (Value.agg #[.int .i64 c.k0, .int .i64 c.k1, .int .i64 c.k2, .int .i64 c.k3, .int .i64 c.k4, .int .i64 c.k5, .int .i64 c.k6, .int .i64 c.k7]) (.int .i64 2)).run Tryd.prog w = .ok (.int .i64 (x : Int)) w := i1
                have hb2 : (bits .and .i64 (r : Int) 4 == 0) = true := hb
                clear i1 hb
                go_wp2
                go_round
                case rel => exact ⟨3, by omega, by rw [hG2.out], by go_num⟩
                case measure => simp [intOf]
              · have i2 : ∀ w, (Instr.index 24 (Value.agg #[.int .i64 c.k0, .int .i64 c.k1, .int .i64 c.k2, .int .i64 c.k3, .int .i64 c.k4, .int .i64 c.k5, .int .i64 c.k6, .int .i64 c.k7]) (.int .i64 3)).run Tryd.prog w = .ok (.int .i64 (x : Int)) w := i1
                have hb2 : (bits .and .i64 (r : Int) 8 == 0) = true := hb
                clear i1 hb
                go_wp2
                go_round
                case rel => exact ⟨4, by omega, by rw [hG2.out], by go_num⟩
                case measure => simp [intOf]
              · have i2 : ∀ w, (Instr.index 24 (Value.agg #[.int .i64 c.k0, .int .i64 c.k1, .int .i64 c.k2, .int .i64 c.k3, .int .i64 c.k4, .int .i64 c.k5, .int .i64 c.k6, .int .i64 c.k7]) (.int .i64 4)).run Tryd.prog w = .ok (.int .i64 (x : Int)) w := i1
                have hb2 : (bits .and .i64 (r : Int) 16 == 0) = true := hb
                clear i1 hb
                go_wp2
                go_round
                case rel => exact ⟨5, by omega, by rw [hG2.out], by go_num⟩
                case measure => simp [intOf]
              · have i2 : ∀ w, (Instr.index 24 (Value.agg #[.int .i64 c.k0, .int .i64 c.k1, .int .i64 c.k2, .int .i64 c.k3, .int .i64 c.k4, .int .i64 c.k5, .int .i64 c.k6, .int .i64 c.k7]) (.int .i64 5)).run Tryd.prog w = .ok (.int .i64 (x : Int)) w := i1
                have hb2 : (bits .and .i64 (r : Int) 32 == 0) = true := hb
                clear i1 hb
                go_wp2
                go_round
                case rel => exact ⟨6, by omega, by rw [hG2.out], by go_num⟩
                case measure => simp [intOf]
              · have i2 : ∀ w, (Instr.index 24 (Value.agg #[.int .i64 c.k0, .int .i64 c.k1, .int .i64 c.k2, .int .i64 c.k3, .int .i64 c.k4, .int .i64 c.k5, .int .i64 c.k6, .int .i64 c.k7]) (.int .i64 6)).run Tryd.prog w = .ok (.int .i64 (x : Int)) w := i1
                have hb2 : (bits .and .i64 (r : Int) 64 == 0) = true := hb
                clear i1 hb
                go_wp2
                go_round
                case rel => exact ⟨7, by omega, by rw [hG2.out], by go_num⟩
                case measure => simp [intOf]
              · have i2 : ∀ w, (Instr.index 24 (Value.agg #[.int .i64 c.k0, .int .i64 c.k1, .int .i64 c.k2, .int .i64 c.k3, .int .i64 c.k4, .int .i64 c.k5, .int .i64 c.k6, .int .i64 c.k7]) (.int .i64 7)).run Tryd.prog w = .ok (.int .i64 (x : Int)) w := i1
                have hb2 : (bits .and .i64 (r : Int) 128 == 0) = true := hb
                clear i1 hb
                go_wp2
                go_round
                case rel => exact ⟨8, by omega, by rw [hG2.out], by go_num⟩
                case measure => simp [intOf]
            · obtain rfl : g1 = g := hn
              clear rA
              rcases eight hlt with rfl | rfl | rfl | rfl | rfl | rfl | rfl | rfl
              · have i2 : ∀ w, (Instr.index 24 (Value.agg #[.int .i64 c.k0, .int .i64 c.k1, .int .i64 c.k2, .int .i64 c.k3, .int .i64 c.k4, .int .i64 c.k5, .int .i64 c.k6, .int .i64 c.k7]) (.int .i64 0)).run Tryd.prog w = .ok (.int .i64 (x : Int)) w := i1
                have hb2 : (bits .and .i64 (r : Int) 1 == 0) = false := hb
                clear i1 hb
                go_wp2
                go_round
                case rel => exact ⟨1, by omega, by rw [hG2.out], by go_num⟩
                case measure => simp [intOf]
              · have i2 : ∀ w, (Instr.index 24 (Value.agg #[.int .i64 c.k0, .int .i64 c.k1, .int .i64 c.k2, .int .i64 c.k3, .int .i64 c.k4, .int .i64 c.k5, .int .i64 c.k6, .int .i64 c.k7]) (.int .i64 1)).run Tryd.prog w = .ok (.int .i64 (x : Int)) w := i1
                have hb2 : (bits .and .i64 (r : Int) 2 == 0) = false := hb
                clear i1 hb
                go_wp2
                go_round
                case rel => exact ⟨2, by omega, by rw [hG2.out], by go_num⟩
                case measure => simp [intOf]
              · have i2 : ∀ w, (Instr.index 24 (Value.agg #[.int .i64 c.k0, .int .i64 c.k1, .int .i64 c.k2, .int .i64 c.k3, .int .i64 c.k4, .int .i64 c.k5, .int .i64 c.k6, .int .i64 c.k7]) (.int .i64 2)).run Tryd.prog w = .ok (.int .i64 (x : Int)) w := i1
                have hb2 : (bits .and .i64 (r : Int) 4 == 0) = false := hb
                clear i1 hb
                go_wp2
                go_round
                case rel => exact ⟨3, by omega, by rw [hG2.out], by go_num⟩
                case measure => simp [intOf]
              · have i2 : ∀ w, (Instr.index 24 (Value.agg #[.int .i64 c.k0, .int .i64 c.k1, .int .i64 c.k2, .int .i64 c.k3, .int .i64 c.k4, .int .i64 c.k5, .int .i64 c.k6, .int .i64 c.k7]) (.int .i64 3)).run Tryd.prog w = .ok (.int .i64 (x : Int)) w := i1
                have hb2 : (bits .and .i64 (r : Int) 8 == 0) = false := hb
                clear i1 hb
                go_wp2
                go_round
                case rel => exact ⟨4, by omega, by rw [hG2.out], by go_num⟩
                case measure => simp [intOf]
              · have i2 : ∀ w, (Instr.index 24 (Value.agg #[.int .i64 c.k0, .int .i64 c.k1, .int .i64 c.k2, .int .i64 c.k3, .int .i64 c.k4, .int .i64 c.k5, .int .i64 c.k6, .int .i64 c.k7]) (.int .i64 4)).run Tryd.prog w = .ok (.int .i64 (x : Int)) w := i1
                have hb2 : (bits .and .i64 (r : Int) 16 == 0) = false := hb
                clear i1 hb
                go_wp2
                go_round
                case rel => exact ⟨5, by omega, by rw [hG2.out], by go_num⟩
                case measure => simp [intOf]
              · have i2 : ∀ w, (Instr.index 24 (Value.agg #[.int .i64 c.k0, .int .i64 c.k1, .int .i64 c.k2, .int .i64 c.k3, .int .i64 c.k4, .int .i64 c.k5, .int .i64 c.k6, .int .i64 c.k7]) (.int .i64 5)).run Tryd.prog w = .ok (.int .i64 (x : Int)) w := i1
                have hb2 : (bits .and .i64 (r : Int) 32 == 0) = false := hb
                clear i1 hb
                go_wp2
                go_round
                case rel => exact ⟨6, by omega, by rw [hG2.out], by go_num⟩
                case measure => simp [intOf]
              · have i2 : ∀ w, (Instr.index 24 (Value.agg #[.int .i64 c.k0, .int .i64 c.k1, .int .i64 c.k2, .int .i64 c.k3, .int .i64 c.k4, .int .i64 c.k5, .int .i64 c.k6, .int .i64 c.k7]) (.int .i64 6)).run Tryd.prog w = .ok (.int .i64 (x : Int)) w := i1
                have hb2 : (bits .and .i64 (r : Int) 64 == 0) = false := hb
                clear i1 hb
                go_wp2
                go_round
                case rel => exact ⟨7, by omega, by rw [hG2.out], by go_num⟩
                case measure => simp [intOf]
              · have i2 : ∀ w, (Instr.index 24 (Value.agg #[.int .i64 c.k0, .int .i64 c.k1, .int .i64 c.k2, .int .i64 c.k3, .int .i64 c.k4, .int .i64 c.k5, .int .i64 c.k6, .int .i64 c.k7]) (.int .i64 7)).run Tryd.prog w = .ok (.int .i64 (x : Int)) w := i1
                have hb2 : (bits .and .i64 (r : Int) 128 == 0) = false := hb
                clear i1 hb
                go_wp2
                go_round
                case rel => exact ⟨8, by omega, by rw [hG2.out], by go_num⟩
                case measure => simp [intOf]
          · obtain rfl : k = 8 := by omega
            clear hS hLt h0 hf hix hT hlt hk
            have hw := hid (fun w => whenP_impl ear 64 w)
            generalize (cond ear 64 0 : Int) = b at *
            go_wp2_with (go_at_call 156; refine (hw.out _).mono ?_; rintro e w' ⟨rfl, hww⟩; obtain rfl := hww.symm)
            rw [hE.out]
            go_ret2
            exact ⟨rfl, hb1.out⟩
end Go.Proofs.YtifcdojaocndhaaDoor

/- The source of choices that the laws draw from: what its methods answer (numbers in their bounds) and that they write into the source's own block alone. -/
namespace Go.Proofs.YtifcdojaocndhaaDoor
open Go.ChangeShapes Go.WideShapes Go.ChangeAt Go.RowKit
set_option linter.unusedVariables false

/-- a slice of bytes that came in: each of its elements can be read, in a block below B -/
def CodeAt (w : World) (B : Nat) (a : Option Addr) (len : Nat) : Prop :=
  len = 0 ∨ ∃ b off, a = some ⟨b, off, none⟩ ∧ b < B ∧ ∀ i, i < len → ∃ c : Int, 0 ≤ c ∧ c ≤ 255 ∧ w.cell? ⟨b, off + i, none⟩ = some (.int .u8 c)

theorem codeAt_of {w : World} {a : Option Addr} {len cap : Nat} {zs : List Int}
    (h : (a = none ∧ len = 0 ∧ cap = 0 ∧ zs = []) ∨ ∃ x, a = some x ∧ len ≤ cap ∧ cap ≤ maxLen ∧ zs.length = cap ∧ (∀ i, i < zs.length → w.cell? (x.add i) = some (.int .u8 (zs.getD i 0))) ∧ ∀ n ∈ zs, (Lit.int .u8 n).wf = true) :
    CodeAt w w.heap.size a len := by
  rcases h with ⟨_, rfl, _, _⟩ | ⟨x, rfl, hl, _, hz, hc, hw⟩
  · exact .inl rfl
  · by_cases h0 : len = 0
    · exact .inl h0
    · obtain ⟨b, off, spot⟩ := x
      have h1 := hc 0 (by omega)
      have hspot : spot = none := by simpa [Addr.add] using World.cell?_spot h1
      subst hspot
      have hb := World.block_lt_of_cell? w _ h1
      refine .inr ⟨b, off, rfl, by simpa [Addr.add] using hb, fun i hi => ?_⟩
      have h2 := hc i (by omega)
      have hm : zs.getD i 0 ∈ zs := by
        simp only [List.getD_eq_getElem?_getD, List.getElem?_eq_getElem (show i < zs.length by omega), Option.getD_some]
        exact List.getElem_mem _
      have hbd := bounds_u8 (hw _ hm)
      have hplain : (⟨b, off, none⟩ : Addr).add i = ⟨b, off + i, none⟩ := by unfold Addr.add; split <;> simp_all
      exact ⟨zs.getD i 0, hbd.1, hbd.2, by rw [← hplain]; exact h2⟩

theorem CodeAt.below {w w' : World} {B B' : Nat} {a : Option Addr} {len : Nat} (h : CodeAt w B a len) (hb : Below B w w') (hB : B ≤ B') : CodeAt w' B' a len := by
  rcases h with h | ⟨b, off, rfl, hb1, hc⟩
  · exact .inl h
  · refine .inr ⟨b, off, rfl, by omega, fun i hi => ?_⟩
    obtain ⟨c, h0, h1, h2⟩ := hc i hi
    exact ⟨c, h0, h1, by rw [hb.cell (p := ⟨b, off + i, none⟩) hb1]; exact h2⟩

theorem CodeAt.grown {w w' : World} {B p : Nat} {a : Option Addr} {len : Nat} (h : CodeAt w B a len) (hg : w.grownBy w' (some p)) (hB : B ≤ p) (hp : p ≤ w.heap.size) : CodeAt w' B a len := by
  rcases h with h | ⟨b, off, rfl, hb, hc⟩
  · exact .inl h
  · refine .inr ⟨b, off, rfl, hb, fun i hi => ?_⟩
    obtain ⟨c, h0, h1, h2⟩ := hc i hi
    exact ⟨c, h0, h1, hg.cell h2 (by simp; omega)⟩

theorem blk_lt {w : World} {p : Nat} {o : Obj} (h : w.heap[p]? = some o) : p < w.heap.size := by
  rcases Nat.lt_or_ge p w.heap.size with h' | h'
  · exact h'
  · simp [Array.getElem?_eq_none h'] at h
theorem blk_set {w : World} {p off : Nat} {cs : Array Value} {t : TypeId} {u : Value} (h : w.heap[p]? = some (.cells cs t (0, 0))) : (w.setCell ⟨p, off, none⟩ u).heap[p]? = some (.cells (cs.setIfInBounds off u) t (0, 0)) := by
  have hlt := blk_lt h
  have h' : w.heap[p] = .cells cs t (0, 0) := by simpa [Array.getElem?_eq_getElem hlt] using h
  show (w.heap.modify p _)[p]? = _
  rw [Array.getElem?_eq_getElem (by simpa using hlt), Array.getElem_modify_self, h']
  rfl
theorem grown_set {w w' : World} {p off : Nat} {u : Value} (h : w.grownBy w' (some p)) : w.grownBy (w'.setCell ⟨p, off, none⟩ u) (some p) :=
  ⟨h.os, h.tape, h.output, by have := h.size; simpa [World.setCell] using this, fun k hk hne => by
    rw [Below.heap_setCell _ _ _ _ (fun e => hne (by rw [e]))]
    exact h.block k hk hne⟩
theorem grown_drewN {w w' : World} {r : Option Nat} (n : Nat) (h : w.grownBy w' r) : w.grownBy (w'.drewN n) r := ⟨h.os, h.tape, h.output, h.size, h.block⟩

theorem grown_then {a b c : World} {r r2 : Option Nat} (h : a.grownBy b r) (k : b.grownBy c r2) (hr : ∀ g, r2 = some g → a.heap.size ≤ g ∨ r = some g) : a.grownBy c r :=
  ⟨k.os.trans h.os, k.tape.trans h.tape, k.output.trans h.output, Nat.le_trans h.size k.size, fun i hi hne => by
    rw [k.block i (Nat.lt_of_lt_of_le hi h.size) (fun e => by
      rcases hr i e.symm with h1 | h1
      · omega
      · exact hne h1.symm)]
    exact h.block i hi hne⟩
theorem grown_below {w w' : World} {p : Nat} (h : w.grownBy w' (some p)) (hp : p ≤ w.heap.size) : Below p w w' :=
  ⟨h.os, h.tape, h.output, h.size, fun k hk => h.block k (by omega) (by simp; omega)⟩

end Go.Proofs.YtifcdojaocndhaaDoor

/- Ports that the laws draw: they are right. -/
namespace Go.Proofs.YtifcdojaocndhaaDoor
open Go.ChangeShapes Go.WideShapes Go.ChangeAt Go.RowKit
set_option linter.unusedVariables false
set_option linter.unusedSimpArgs false

theorem okPo_iff (c : Po) : okPo c = true ↔ (∀ i, i < 8 → 0 ≤ c.key i ∧ c.key i ≤ 31) ∧ (0 ≤ c.joy ∧ c.joy ≤ 31) ∧ (0 ≤ c.border ∧ c.border ≤ 7) := by
  unfold okPo keysB
  simp only [Bool.and_eq_true, List.all_eq_true, List.mem_range, inB, decide_eq_true_eq]
  constructor
  · rintro ⟨⟨h1, h2⟩, h3⟩
    exact ⟨h1, h2, h3⟩
  · rintro ⟨h1, h2, h3⟩
    exact ⟨⟨h1, h2⟩, h3⟩
theorem okPo_put {c : Po} (h : okPo c = true) (k : Nat) (v : Int) (h0 : 0 ≤ v) (h1 : v ≤ 31) : okPo (c.put v k) = true := by
  rw [okPo_iff] at h ⊢
  obtain ⟨hr, hj, hb⟩ := h
  refine ⟨fun i hi => ?_, ?_⟩
  · have := hr i hi
    rcases eight hi with rfl | rfl | rfl | rfl | rfl | rfl | rfl | rfl <;> (unfold Po.put; split <;> simp only [Po.key] at this ⊢ <;> omega)
  · unfold Po.put
    split <;> exact ⟨hj, hb⟩
theorem okPo_joy {c : Po} (h : okPo c = true) (v : Int) (h0 : 0 ≤ v) (h1 : v ≤ 31) : okPo { c with joy := v } = true := by
  rw [okPo_iff] at h ⊢
  obtain ⟨hr, hj, hb⟩ := h
  refine ⟨fun i hi => ?_, ⟨h0, h1⟩, hb⟩
  have := hr i hi
  rcases eight hi with rfl | rfl | rfl | rfl | rfl | rfl | rfl | rfl <;> exact this
theorem okPo_ula {c : Po} (h : okPo c = true) (v : Nat) : okPo (c.ula v) = true := by
  rw [okPo_iff] at h ⊢
  obtain ⟨hr, hj, hb⟩ := h
  refine ⟨fun i hi => ?_, hj, ?_⟩
  · have := hr i hi
    rcases eight hi with rfl | rfl | rfl | rfl | rfl | rfl | rfl | rfl <;> exact this
  · have : Nat.land v 7 ≤ 7 := Nat.and_le_right
    show (0 : Int) ≤ ((Nat.land v 7 : Nat) : Int) ∧ ((Nat.land v 7 : Nat) : Int) ≤ 7
    omega
theorem okPo_new : okPo neP = true := by decide
theorem grow2 {a b c : World} {p : Nat} (h : a.grownBy b (some p)) (k : b.grownBy c (some p)) : a.grownBy c (some p) :=
  ⟨k.os.trans h.os, k.tape.trans h.tape, k.output.trans h.output, Nat.le_trans h.size k.size, fun i hi hne => (k.block i (Nat.lt_of_lt_of_le hi h.size) hne).trans (h.block i hi hne)⟩
theorem growO {w W : World} {p b i : Nat} {u : Value} (h : w.grownBy W (some p)) (hb : w.heap.size ≤ b) : w.grownBy (W.setCell ⟨b, i, none⟩ u) (some p) :=
  ⟨h.os, h.tape, h.output, by have := h.size; simpa [World.setCell] using this, fun k hk hne => by
    rw [Below.heap_setCell _ _ _ _ (by simp; omega)]
    exact h.block k hk hne⟩
theorem growB {w W : World} {p : Nat} (h : Below w.heap.size w W) : w.grownBy W (some p) :=
  ⟨h.os, h.tape, h.output, h.size, fun k hk _ => h.block k hk⟩
end Go.Proofs.YtifcdojaocndhaaDoor
