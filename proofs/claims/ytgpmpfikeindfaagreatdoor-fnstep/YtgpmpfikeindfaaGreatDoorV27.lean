/- A processor is made; what all calls on a processor and a memory ask first. -/
import Derived.Test.YtgpmpfikeindfaaGreatDoorV26
import Derived.Test.YtgpmpfikeindfaaGreatDoorV20
import Derived.Test.YtgpmpfikeindfaaGreatDoorV13
import Derived.Test.YtgpmpfikeindfaaGreatDoorRnv
import Derived.Test.YtgpmpfikeindfaaGreatDoorV21
import Derived.Deep.RegionWith
import Derived.BigRegion
import Derived.Test.YtgpmpfikeindfaaGreatDoorV04
import Derived.Test.YtgpmpfikeindfaaGreatDoorAdv
namespace Go.Proofs.YtgpmpfikeindfaaGreatDoor
open Go.ChangeShapes Go.WideShapes Go.ChangeAt Go.RowKit
set_option linter.unusedVariables false
set_option linter.unusedSimpArgs false

abbrev cqA (c : Cp) : Array Value := #[.int .i64 (c.b : Int), .int .i64 (c.c : Int), .int .i64 (c.d : Int), .int .i64 (c.e : Int), .int .i64 (c.h : Int), .int .i64 (c.l : Int), .int .i64 0, .int .i64 (c.a : Int), .int .i64 (c.f : Int), .int .i64 (c.sp : Int), .int .i64 (c.pc : Int), .bool c.iff, .bool c.ei, .bool c.halt]
theorem made_pro {w w1 : World} {lo hi B r s n : Nat} {G Q : Nat → Nat} {M : Mem} {c : Cp} (t : TypeId) (h : Brd w1 lo hi B r s G Q M) (hb : Below w.heap.size w w1) (hl : w.heap.size ≤ lo) :
    Brd (w1.alloc (.cells (proT c B n .nilFunc) t)) lo hi B r s G Q M ∧ Blk (w1.alloc (.cells (proT c B n .nilFunc) t)) w1.heap.size (proT c B n .nilFunc) ∧ ¬ brdB lo hi B Q w1.heap.size ∧ w.heap.size ≤ w1.heap.size ∧ w.heap.size ≤ lo ∧ Below w.heap.size w (w1.alloc (.cells (proT c B n .nilFunc) t)) := by
  have hhi : hi ≤ w1.heap.size := Nat.le_trans h.ord.1 (Nat.le_of_lt h.blk.lt)
  exact ⟨h.kept (fun b hh => Below.heap_alloc _ _ _ (h.lt hhi hh)), Blk.new _ _ _, fun hh => absurd (h.lt hhi hh) (Nat.lt_irrefl _), hb.size, hl, hb.alloc hb.size _⟩
set_option maxRecDepth 100000 in
set_option maxHeartbeats 2000000 in
theorem newp_impl (c : Cp) (v : Value) (M : Mem) (n : Nat) (w : World) (h : MemR w v M) (hok : okM M = true) (hf : Fit M) :
    Calls Tryz.prog 20 #[.agg (cqA c), v, .int .i64 (n : Int)] w fun e w' => ∃ lo hi B r s G Q Y, e = .returned (.pointer (some ⟨Y, 0, none⟩)) ∧ Brd w' lo hi B r s G Q M ∧ Blk w' Y (proT c B n .nilFunc) ∧ ¬ brdB lo hi B Q Y ∧ w.heap.size ≤ Y ∧ w.heap.size ≤ lo ∧ Below w.heap.size w w' := by
  obtain ⟨a1, p1, a2, p2, rfl, _, _⟩ := h.form
  have hs := hid (two_in (w := w) (cqA c) #[.slice a1 M.rom.length p1, .slice a2 M.ram.length p2, .int .i64 M.page, .int .i64 M.screen, .bool M.locked] 25 30)
  have x0 := hs.out.1.cell
  have x1 := hs.out.2.1.cell
  have hM : Hid (∀ W', Below w.heap.size w W' → MemR W' (memV (.slice a1 M.rom.length p1) (.slice a2 M.ram.length p2) M.page M.screen M.locked) M) := fun W' hb => h.below hb
  replace hf := hid hf
  clear h
  go_enter Tryz.func20, Tryz.ntmps20
  go_upto_region 1 with fail
  obtain ⟨V, hV⟩ : ∃ V, ((w.alloc (.cells (cqA c) 25)).alloc (.cells #[.slice a1 M.rom.length p1, .slice a2 M.ram.length p2, .int .i64 M.page, .int .i64 M.screen, .bool M.locked] 30)) = V := ⟨_, rfl⟩
  rw [hV] at hs x0 x1 ⊢
  clear hV
  have hq : Hid (Blk V.drew w.heap.size (cqA c)) := hs.out.1
  have hB := hid hs.out.2.2
  clear hs
  go_region_with (go_at_call 35; refine (board_impl _ M _ (hM.out _ (by first | exact hB.out | exact hB.out.drew)) hok hf.out).mono ?_; rintro e w1 ⟨hi, B, r, s, G, Q, rfl, hBr, hb1⟩; have y0 := (hq.out.below hb1 hq.out.lt).cell; have hbw : Below w.heap.size w w1 := (hB.out.drew).trans (hb1.mono hB.out.size); have hlo := hB.out.size; have hE := hid (made_pro (c := c) (n := n) 86 hBr hbw hlo); clear hb1 hbw hBr)
  all_goals (try go_wp2)
  all_goals go_ret
  all_goals exact ⟨_, hi, B, r, s, G, Q, _, rfl, hE.out⟩
end Go.Proofs.YtgpmpfikeindfaaGreatDoor

/- What all calls on a processor and a memory ask first. -/
namespace Go.Proofs.YtgpmpfikeindfaaGreatDoor
open Go.ChangeShapes Go.WideShapes Go.ChangeAt Go.RowKit
set_option linter.unusedVariables false
set_option linter.unusedSimpArgs false

def cfM (c : Cu) (M : Mem) (zs : List Int) : Int := if okC c = true then faultM M zs else 1
set_option maxRecDepth 100000 in
theorem cfault_impl (c : Cu) (v : Value) (M : Mem) (a : Option Addr) (cap : Nat) (zs : List Int) (w : World) (h : MemR w v M) (hf : Fit M) (hz : RowR w (.slice a zs.length cap) zs) (hl : zs.length ≤ 1000000000) :
    Calls Tryz.prog 19 #[cuV c, v, .slice a zs.length cap] w fun e w' => e = .returned (.int .i64 (cfM c M zs)) ∧ Below w.heap.size w w' := by
  obtain ⟨a1, p1, a2, p2, rfl, _, _⟩ := h.form
  have hs := hid (two_in (w := w) (cuA c) #[.slice a1 M.rom.length p1, .slice a2 M.ram.length p2, .int .i64 M.page, .int .i64 M.screen, .bool M.locked] 25 30)
  have x0 := hs.out.1.cell
  have hok := hid (fun w1 => cpuok_impl c w1)
  have hft : Hid (∀ W', Below w.heap.size w W' → Calls Tryz.prog 34 #[memV (.slice a1 M.rom.length p1) (.slice a2 M.ram.length p2) M.page M.screen M.locked, .slice a zs.length cap] W' fun e w' => e = .returned (.int .i64 (faultM M zs)) ∧ Below W'.heap.size W' w') := fun W' hb => fault_impl _ M a cap zs W' (h.below hb) hf (hz.below hb) hl
  clear h hf hz
  generalize zs.length = n at *
  cases hc : okC c
  · have e : cfM c M zs = 1 := by unfold cfM; rw [hc]; rfl
    rw [e]
    rw [hc] at hok
    clear e
    go_enter Tryz.func19, Tryz.ntmps19
    go_upto_region 1 with fail
    obtain ⟨V, hV⟩ : ∃ V, ((w.alloc (.cells (cuA c) 25)).alloc (.cells #[.slice a1 M.rom.length p1, .slice a2 M.ram.length p2, .int .i64 M.page, .int .i64 M.screen, .bool M.locked] 30)) = V := ⟨_, rfl⟩
    rw [hV] at hs x0 ⊢
    clear hV
    go_wp2_with fail
    refine (hok.out _).mono ?_
    rintro e w1 ⟨rfl, hb⟩
    have hb1 := hid (new_trans hs.out.2.2 hb)
    clear hb hs x0
    go_wp2
    go_ret
    exact ⟨rfl, hb1.out⟩
  · have e : cfM c M zs = faultM M zs := by unfold cfM; rw [hc]; rfl
    rw [e]
    rw [hc] at hok
    clear e
    generalize faultM M zs = F at *
    go_enter Tryz.func19, Tryz.ntmps19
    go_upto_region 1 with fail
    obtain ⟨V, hV⟩ : ∃ V, ((w.alloc (.cells (cuA c) 25)).alloc (.cells #[.slice a1 M.rom.length p1, .slice a2 M.ram.length p2, .int .i64 M.page, .int .i64 M.screen, .bool M.locked] 30)) = V := ⟨_, rfl⟩
    rw [hV] at hs x0 ⊢
    clear hV
    go_wp2_with fail
    refine (hok.out _).mono ?_
    rintro e w1 ⟨rfl, hb⟩
    have hb1 := hid (new_trans hs.out.2.2 hb)
    have x1 := (hs.out.2.1.below hb hs.out.2.1.lt).cell
    clear hb hs x0
    go_wp2_with fail
    refine (hft.out _ hb1.out).mono ?_
    rintro e w2 ⟨rfl, hb⟩
    have hb2 := hid (new_trans hb1.out hb)
    clear hb hb1 x1
    go_wp2
    go_ret
    exact ⟨rfl, hb2.out⟩
end Go.Proofs.YtgpmpfikeindfaaGreatDoor

/- An interrupt as plain numbers, and as the program's processor takes it. -/
namespace Go.Proofs.YtgpmpfikeindfaaGreatDoor
open Go.ChangeShapes Go.WideShapes Go.ChangeAt Go.RowKit
set_option linter.unusedVariables false
set_option linter.unusedSimpArgs false

end Go.Proofs.YtgpmpfikeindfaaGreatDoor

/- What the program answers when an interrupt comes. -/
namespace Go.Proofs.YtgpmpfikeindfaaGreatDoor
open Go.ChangeShapes Go.WideShapes Go.ChangeAt Go.RowKit Go.Shelf
set_option linter.unusedVariables false
set_option linter.unusedSimpArgs false

theorem lay_ans {w w1 w3 : World} {x : Mx} {u cv : Value} {b g : Nat} (hb : Below w.heap.size w w1) (q2 : Blk w1 b zC) (q3 : Blk w1 g zM) (hbg : b ≠ g) (lb : w.heap.size ≤ b) (lg : w.heap.size ≤ g) (hA : Ans w1 w3 x u cv) :
    Blk w3 b zC ∧ Blk w3 g zM ∧ ∀ vr' vm', u = memV vr' vm' x.m.page x.m.screen x.m.locked → ∀ WF, sets (sets w3 b 0 (cpuL x.c)) g 0 (meL vr' vm' x.m) = WF →
      (∀ i, WF.cell? ⟨b, i, none⟩ = (cpA x.c)[i]?) ∧ (∀ i, WF.cell? ⟨g, i, none⟩ = (#[vr', vm', .int .i64 x.m.page, .int .i64 x.m.screen, .bool x.m.locked] : Array Value)[i]?) ∧ Ans w WF x u cv := by
  have l2 := q2.lt
  have l3 := q3.lt
  have k2 := q2.below hA.bel l2
  have k3 := q3.below hA.bel l3
  refine ⟨k2, k3, fun vr' vm' e WF hWF => ?_⟩
  obtain ⟨F1, F2, F3, F4, F5⟩ := fin_blk k2 k3 hbg (new_trans hb hA.bel) lb lg (cpuL x.c) (meL vr' vm' x.m)
  rw [setsC] at F1
  rw [setsM] at F2
  rw [hWF] at F1 F2 F3 F4 F5
  exact ⟨F1, F2, hA.laid hb.size (fun y hy => F3 y (by omega) (by omega)) (by omega) F5⟩
theorem Ans.form {w W : World} {x : Mx} {u cv : Value} (h : Ans w W x u cv) : ∃ g1 h1 g2 h2, u = memV (.slice g1 x.m.rom.length h1) (.slice g2 x.m.ram.length h2) x.m.page x.m.screen x.m.locked := by
  obtain ⟨⟨lo, hi, h1, _⟩, _⟩ := h
  obtain ⟨g1, c1, g2, c2, e, _⟩ := h1.reads.form
  exact ⟨g1, c1, g2, c2, e⟩
theorem cf_nil (c : Cu) (M : Mem) : cfM c M [] = if (okC c && okM M) = true then 0 else 1 := by
  unfold cfM faultM
  cases okC c <;> cases okM M <;> rfl
theorem intM_len (c : Cp) (M : Mem) : (intM c M).cy.length ≤ 1000 := by
  show ([_] ++ [_] : List (Nat × Nat × Nat)).length ≤ 1000
  simp
end Go.Proofs.YtgpmpfikeindfaaGreatDoor

/- What the parts of the program's unit answer: its tests, its choice of a flag, its flags of a result. -/
namespace Go.Proofs.YtgpmpfikeindfaaGreatDoor
open Go.ChangeShapes Go.WideShapes Go.ChangeAt Go.RowKit
set_option linter.unusedVariables false

theorem withinU_impl (n a b : Int) (w : World) : Calls Tryz.prog 33 #[.int .i64 n, .int .i64 a, .int .i64 b] w fun e w' => e = .returned (.bool (inB n a b)) ∧ w' = w := by
  go_enter Tryz.func33, Tryz.ntmps33
  go_wp2
  all_goals go_ret
  all_goals exact ⟨ret_bool (by rw [Bool.eq_iff_iff]; simp [inB]; try omega), rfl⟩

theorem isbyte_impl (n : Int) (w : World) : Calls Tryz.prog 31 #[.int .i64 n] w fun e w' => e = .returned (.bool (inB n 0 255)) ∧ w' = w := by
  go_enter Tryz.func31, Tryz.ntmps31
  go_wp2
  all_goals go_ret
  all_goals exact ⟨ret_bool (by rw [Bool.eq_iff_iff]; simp [inB]; try omega), rfl⟩

theorem bytes_impl (a b : Int) (w : World) : Calls Tryz.prog 32 #[.int .i64 a, .int .i64 b] w fun e w' => e = .returned (.bool (inB a 0 255 && inB b 0 255)) ∧ w' = w := by
  cases h1 : inB a 0 255
  all_goals
    go_enter Tryz.func32, Tryz.ntmps32
    go_wp2_with (go_at_call 31; refine (isbyte_impl _ _).mono ?_; rintro e w' ⟨rfl, rfl⟩)
    go_ret
    exact ⟨ret_bool (by simp), rfl⟩

/-- a flag where a test holds -/
def whenI (b : Bool) (f : Int) : Int := cond b f 0
def whenN (b : Bool) (f : Nat) : Nat := cond b f 0
theorem when_nat (b : Bool) (f : Nat) : whenI b (f : Int) = (whenN b f : Nat) := by cases b <;> rfl
theorem whenN_lt (b : Bool) (f n : Nat) (h : f < n) : whenN b f < n := by cases b <;> simp [whenN] <;> omega
theorem when_impl (b : Bool) (f : Int) (w : World) : Calls Tryz.prog 129 #[.bool b, .int .i64 f] w fun e w' => e = .returned (.int .i64 (whenI b f)) ∧ w' = w := by
  cases b
  all_goals
    go_enter Tryz.func129, Tryz.ntmps129
    go_wp2
    go_ret
    exact ⟨rfl, rfl⟩

theorem eq0_nat (v : Nat) : ((v : Int) == 0) = Nat.beq v 0 := by cases v with | zero => rfl | succ n => rfl
/-- the table of flags that are bits of a result, in its block -/
def Flags (w : World) : Prop := w.cell? ⟨3, 0, none⟩ = some (.int .i64 128) ∧ w.cell? ⟨3, 1, none⟩ = some (.int .i64 32) ∧ w.cell? ⟨3, 2, none⟩ = some (.int .i64 8)
theorem flags_below {w w' : World} (h : Flags w) (hb : Below w.heap.size w w') : Flags w' := by
  obtain ⟨h0, h1, h2⟩ := h
  have k0 := World.block_lt_of_cell? w _ h0
  refine ⟨?_, ?_, ?_⟩
  · rw [hb.cell (p := ⟨3, 0, none⟩) k0]; exact h0
  · rw [hb.cell (p := ⟨3, 1, none⟩) k0]; exact h1
  · rw [hb.cell (p := ⟨3, 2, none⟩) k0]; exact h2

def rfL (v : Nat) : Nat → Nat
  | 0 => whenN (Nat.beq v 0) 64
  | 1 => Nat.lor (whenN (Nat.beq v 0) 64) (Nat.land v 128)
  | 2 => Nat.lor (Nat.lor (whenN (Nat.beq v 0) 64) (Nat.land v 128)) (Nat.land v 32)
  | _ => Nat.lor (Nat.lor (Nat.lor (whenN (Nat.beq v 0) 64) (Nat.land v 128)) (Nat.land v 32)) (Nat.land v 8)
theorem rf_all : allB 256 (fun v => Nat.beq (rfL v 3) (szN v)) = true := by decide +kernel
theorem rfL_lt (v k : Nat) (hv : v < 256) : rfL v k < 256 := by
  have h0 : whenN (Nat.beq v 0) 64 < 2 ^ 8 := whenN_lt _ _ _ (by decide)
  have h1 : Nat.land v 128 < 2 ^ 8 := Nat.and_lt_two_pow _ (by decide)
  have h2 : Nat.land v 32 < 2 ^ 8 := Nat.and_lt_two_pow _ (by decide)
  have h3 : Nat.land v 8 < 2 ^ 8 := Nat.and_lt_two_pow _ (by decide)
  unfold rfL
  split
  · exact h0
  · exact Nat.or_lt_two_pow (n := 8) h0 h1
  · exact Nat.or_lt_two_pow (n := 8) (Nat.or_lt_two_pow h0 h1) h2
  · exact Nat.or_lt_two_pow (n := 8) (Nat.or_lt_two_pow (Nat.or_lt_two_pow h0 h1) h2) h3
theorem rf_step (v k f : Nat) (hv : v < 256) (hf : f < 256) (i : Int) (hi : i = (f : Int)) : bits .or .i64 ((rfL v k : Nat) : Int) (bits .and .i64 (v : Int) i) = ((Nat.lor (rfL v k) (Nat.land v f) : Nat) : Int) := by
  subst hi
  have h1 : Nat.land v f < 2 ^ 8 := Nat.and_lt_two_pow _ hf
  have h2 := rfL_lt v k hv
  rw [bAnd v f (by omega) (by omega), bOr _ _ (by omega) (by omega)]
theorem rf_step0 (v : Nat) (hv : v < 256) : bits .or .i64 ((rfL v 0 : Nat) : Int) (bits .and .i64 (v : Int) 128) = (rfL v 1 : Nat) := rf_step v 0 128 hv (by decide) _ rfl
theorem rf_step1 (v : Nat) (hv : v < 256) : bits .or .i64 ((rfL v 1 : Nat) : Int) (bits .and .i64 (v : Int) 32) = (rfL v 2 : Nat) := rf_step v 1 32 hv (by decide) _ rfl
theorem rf_step2 (v : Nat) (hv : v < 256) : bits .or .i64 ((rfL v 2 : Nat) : Int) (bits .and .i64 (v : Int) 8) = (rfL v 3 : Nat) := rf_step v 2 8 hv (by decide) _ rfl
theorem rf_impl (v : Nat) (w : World) (hv : v < 256) (hL : Flags w) : Calls Tryz.prog 160 #[.int .i64 v] w fun e w' => e = .returned (.int .i64 (szN v)) ∧ w' = w := by
  obtain ⟨h0, h1, h2⟩ := hL
  have i0 : ∀ w, (Instr.index 144 (.agg #[.int .i64 128, .int .i64 32, .int .i64 8]) (.int .i64 0)).run Tryz.prog w = .ok (.int .i64 128) w := fun _ => by kernel_rfl
  have i1 : ∀ w, (Instr.index 144 (.agg #[.int .i64 128, .int .i64 32, .int .i64 8]) (.int .i64 1)).run Tryz.prog w = .ok (.int .i64 32) w := fun _ => by kernel_rfl
  have i2 : ∀ w, (Instr.index 144 (.agg #[.int .i64 128, .int .i64 32, .int .i64 8]) (.int .i64 2)).run Tryz.prog w = .ok (.int .i64 8) w := fun _ => by kernel_rfl
  go_enter Tryz.func160, Tryz.ntmps160
  go_wp2_with (go_at_call 129; refine (when_impl _ _ _).mono ?_; rintro e w' ⟨rfl, rfl⟩)
  clear h0 h1 h2
  go_loop [3, 10] (fun x i => ∃ k : Nat, k ≤ 3 ∧ x = .int .i64 (rfL v k : Nat) ∧ i = .int .i64 k) (fun _ i => (3 - intOf i).toNat)
  case atStart => exact ⟨0, by omega, by rw [eq0_nat]; exact congrArg _ (when_nat _ 64), rfl⟩
  case round =>
    obtain ⟨k, hk, rfl, rfl⟩ := hrel
    have h3 : k = 0 ∨ k = 1 ∨ k = 2 ∨ k = 3 := by omega
    rcases h3 with rfl | rfl | rfl | rfl
    · go_wp2
      go_round
      case rel => exact ⟨1, by omega, congrArg _ (rf_step0 v hv), rfl⟩
      case measure => simp [intOf]
    · go_wp2
      go_round
      case rel => exact ⟨2, by omega, congrArg _ (rf_step1 v hv), rfl⟩
      case measure => simp [intOf]
    · go_wp2
      go_round
      case rel => exact ⟨3, by omega, congrArg _ (rf_step2 v hv), rfl⟩
      case measure => simp [intOf]
    · go_wp2
      go_ret
      exact ⟨ret_int (congrArg _ (Nat.eq_of_beq_eq_true (allB_at rf_all v hv))), rfl⟩
theorem parB_nat (v : Nat) (hv : v < 256) : parB (v : Int) = !prf 8 v := by unfold parB; rw [decide_eq_true (by omega)]; simp
theorem pf_impl (v : Nat) (w : World) (hv : v < 256) (hL : Flags w) : Calls Tryz.prog 128 #[.int .i64 v] w fun e w' => e = .returned (.int .i64 (szpN v)) ∧ w' = w := by
  have hp := parB_nat v hv
  have hz := szN_lt v hv
  have E : bits .or .i64 ((szN v : Nat) : Int) (whenI (!prf 8 v) 4) = (szpN v : Nat) := by
    rw [show whenI (!prf 8 v) 4 = _ from when_nat _ 4]
    have h1 : whenN (!prf 8 v) 4 < 256 := whenN_lt _ _ _ (by decide)
    rw [bOr _ _ (by omega) (by omega)]
    unfold szpN
    cases prf 8 v <;> rfl
  replace E : Hid _ := E
  go_enter Tryz.func128, Tryz.ntmps128
  go_wp2_with (first | (go_at_call 160; refine (rf_impl _ _ hv hL).mono ?_; rintro e w' ⟨rfl, rfl⟩) | (go_at_call 161; refine (par_impl _ _).mono ?_; rintro e w' ⟨rfl, rfl⟩; rw [hp]) | (go_at_call 129; refine (when_impl _ _ _).mono ?_; rintro e w' ⟨rfl, rfl⟩))
  go_ret
  exact ⟨ret_int E.out, rfl⟩
end Go.Proofs.YtgpmpfikeindfaaGreatDoor

/- What the program's reckoning answers, handed a sum or a difference: the byte and the flags that the specification reckons. -/
namespace Go.Proofs.YtgpmpfikeindfaaGreatDoor
open Go.ChangeShapes Go.WideShapes Go.ChangeAt Go.RowKit
set_option linter.unusedVariables false

theorem sum_impl (a b c : Int) (w : World) (ha : -1000 ≤ a ∧ a ≤ 1000) (hb : -1000 ≤ b ∧ b ≤ 1000) (hc : -1000 ≤ c ∧ c ≤ 1000) : Calls Tryz.prog 125 #[.int .i64 a, .int .i64 b, .int .i64 c] w fun e w' => e = .returned (.int .i64 (a + b + c)) ∧ w' = w := by
  go_enter Tryz.func125, Tryz.ntmps125
  go_wp2
  go_ret
  exact ⟨rfl, rfl⟩

def sgnI (a : Nat) : Int := if 128 ≤ a then (a : Int) - 256 else a
theorem sgnI_bd (a : Nat) (ha : a < 256) : -1000 ≤ sgnI a ∧ sgnI a ≤ 1000 := by unfold sgnI; split <;> omega
theorem signed_impl (a : Nat) (w : World) (ha : a < 256) : Calls Tryz.prog 163 #[.int .i64 a] w fun e w' => e = .returned (.int .i64 (sgnI a)) ∧ w' = w := by
  by_cases h : 128 ≤ a
  · have e : sgnI a = (a : Int) - 256 := by unfold sgnI; rw [if_pos h]
    rw [e]
    go_enter Tryz.func163, Tryz.ntmps163
    go_wp2
    go_ret
    exact ⟨rfl, rfl⟩
  · have e : sgnI a = (a : Int) := by unfold sgnI; rw [if_neg h]
    rw [e]
    go_enter Tryz.func163, Tryz.ntmps163
    go_wp2
    go_ret
    exact ⟨rfl, rfl⟩

theorem lor_swap (a b c : Nat) : Nat.lor (Nat.lor a b) c = Nat.lor (Nat.lor a c) b := by
  show (a ||| b) ||| c = (a ||| c) ||| b
  rw [Nat.or_assoc, Nat.or_comm b c, ← Nat.or_assoc]
theorem hi_bit : ∀ x : Fin 256, Nat.land x.val 128 = cond (Nat.ble 128 x.val) 128 0 := by decide +kernel
theorem hi_of (x : Nat) (h : x < 256) : Nat.land x 128 = cond (Nat.ble 128 x) 128 0 := hi_bit ⟨x, h⟩
theorem hi_xor (x y : Nat) (hx : x < 256) (hy : y < 256) : Nat.beq (Nat.land (Nat.xor x y) 128) 0 = (Nat.ble 128 x == Nat.ble 128 y) := by
  have h : Nat.land (Nat.xor x y) 128 = Nat.xor (Nat.land x 128) (Nat.land y 128) := Nat.and_xor_distrib_right
  rw [h, hi_of x hx, hi_of y hy]
  cases Nat.ble 128 x <;> cases Nat.ble 128 y <;> rfl
theorem ble_iff (a b : Nat) : (Nat.ble a b = true) ↔ a ≤ b := by rw [Nat.ble_eq]
theorem ble_dec (a b : Nat) : Nat.ble a b = decide (a ≤ b) := by rw [Bool.eq_iff_iff, ble_iff, decide_eq_true_iff]
theorem bool_eq {p q : Bool} (h : p = true ↔ q = true) : p = q := by cases p <;> cases q <;> simp_all
theorem when_mul (x : Bool) (f : Nat) : whenN x f = Nat.mul f (btN x) := by cases x <;> simp [whenN, btN]
theorem when_one (x : Bool) : whenN x 1 = btN x := by cases x <;> rfl
theorem bt_one (x : Bool) : btN x < 2 ^ 8 := by cases x <;> decide
theorem bt_mul16 (x : Bool) : Nat.mul 16 (btN x) < 2 ^ 8 := by cases x <;> decide
theorem bt_mul4 (x : Bool) : Nat.mul 4 (btN x) < 2 ^ 8 := by cases x <;> decide
theorem addF_lt (a b c : Nat) : addF a b c < 256 := by
  unfold addF
  refine Nat.or_lt_two_pow (n := 8) (Nat.or_lt_two_pow (Nat.or_lt_two_pow (szN_lt _ (addV_lt a b c)) ?_) ?_) ?_
  · exact bt_one _
  · exact bt_mul16 _
  · exact bt_mul4 _
theorem addV_mod (a b c : Nat) : addV a b c = (a + b + c) % 256 := Nat.and_two_pow_sub_one_eq_mod (a + b + c) 8
theorem addP (a b c : Nat) (ha : a < 256) (hb : b < 256) (hc : c < 2) :
    (!inB (sgnI a + sgnI b + (c : Int)) (-128) 127) = and (Nat.beq (Nat.land (Nat.xor a b) 128) 0) (not (Nat.beq (Nat.land (Nat.xor a (addV a b c)) 128) 0)) := by
  rw [hi_xor a b ha hb, hi_xor a _ ha (addV_lt a b c), addV_mod]
  rw [ble_dec, ble_dec, ble_dec]
  by_cases p : 128 ≤ a <;> by_cases q : 128 ≤ b <;> by_cases r : 128 ≤ (a + b + c) % 256 <;> simp [p, q, r, inB, sgnI] <;> omega
theorem addF_rk (a b c A1 B1 : Nat) (ha : a < 256) (hb : b < 256) (hc : c < 2) (hA1 : Nat.land a 15 = A1) (hB1 : Nat.land b 15 = B1) :
    bits .or .i64 (bits .or .i64 (bits .or .i64 ((szN (addV a b c) : Nat) : Int) (whenI (!inB ((A1 : Int) + B1 + c) 0 15) 16)) (whenI (!inB ((a : Int) + b + c) 0 255) 1)) (whenI (!inB (sgnI a + sgnI b + (c : Int)) (-128) 127) 4) = (addF a b c : Nat) := by
  have h1 : (!inB ((A1 : Int) + B1 + c) 0 15) = Nat.ble 16 (A1 + B1 + c) := by
    apply bool_eq; simp only [Bool.not_eq_true', inB, decide_eq_false_iff_not, ble_iff]; omega
  have h2 : (!inB ((a : Int) + b + c) 0 255) = Nat.ble 256 (a + b + c) := by
    apply bool_eq; simp only [Bool.not_eq_true', inB, decide_eq_false_iff_not, ble_iff]; omega
  rw [h1, h2, addP a b c ha hb hc]
  rw [show ∀ x, whenI x 16 = _ from fun x => when_nat x 16, show ∀ x, whenI x 1 = _ from fun x => when_nat x 1, show ∀ x, whenI x 4 = _ from fun x => when_nat x 4]
  rw [or4 _ _ _ _ (szN_lt _ (addV_lt a b c)) (whenN_lt _ _ _ (by decide)) (whenN_lt _ _ _ (by decide)) (whenN_lt _ _ _ (by decide))]
  subst hA1 hB1
  unfold addF
  rw [lor_swap (szN (addV a b c))]
  rw [when_mul _ 16, when_mul _ 4, when_one]
  rfl
theorem rk_add (a b c : Nat) (w : World) (ha : a < 256) (hb : b < 256) (hc : c < 2) (hL : Flags w) :
    Calls Tryz.prog 151 #[.func (.func 125) #[] #[], .int .i64 a, .int .i64 b, .int .i64 c] w fun e w' => e = .returned (.tuple #[.int .i64 (addV a b c), .int .i64 (addF a b c)]) ∧ w' = w := by
  have hA : Nat.land a 15 < 2 ^ 4 := Nat.and_lt_two_pow _ (by decide)
  have hB : Nat.land b 15 < 2 ^ 4 := Nat.and_lt_two_pow _ (by decide)
  have r1 : bits .and .i64 ((a : Int) + b + c) 255 = (addV a b c : Nat) := bAnd (a + b + c) 255 (by omega) (by omega)
  have r2 : bits .and .i64 (a : Int) 15 = (Nat.land a 15 : Nat) := bAnd a 15 (by omega) (by omega)
  have r3 : bits .and .i64 (b : Int) 15 = (Nat.land b 15 : Nat) := bAnd b 15 (by omega) (by omega)
  have hV := addV_lt a b c
  have hs := sgnI_bd a ha
  have ht := sgnI_bd b hb
  have E : Hid _ := addF_rk a b c _ _ ha hb hc rfl rfl
  generalize Nat.land a 15 = A1 at *
  generalize Nat.land b 15 = B1 at *
  generalize addF a b c = F at *
  generalize addV a b c = V at *
  generalize hS : sgnI a = S at *
  generalize hT : sgnI b = T at *
  replace hS : Hid _ := hS
  replace hT : Hid _ := hT
  go_enter Tryz.func151, Tryz.ntmps151
  go_wp2_with (first | (go_at_call 125; refine (sum_impl _ _ _ _ (by omega) (by omega) (by omega)).mono ?_; rintro e w' ⟨rfl, rfl⟩) | (go_at_call 163; refine (signed_impl _ _ (by omega)).mono ?_; rintro e w' ⟨rfl, rfl⟩; first | rw [hS.out] | rw [hT.out]) | (go_at_call 160; refine (rf_impl _ _ hV hL).mono ?_; rintro e w' ⟨rfl, rfl⟩) | (go_at_call 33; refine (withinU_impl _ _ _ _).mono ?_; rintro e w' ⟨rfl, rfl⟩) | (go_at_call 129; refine (when_impl _ _ _).mono ?_; rintro e w' ⟨rfl, rfl⟩))
  rw [E.out]
  go_ret2
  exact ⟨rfl, rfl⟩
theorem dif_impl (a b c : Int) (w : World) (ha : -1000 ≤ a ∧ a ≤ 1000) (hb : -1000 ≤ b ∧ b ≤ 1000) (hc : -1000 ≤ c ∧ c ≤ 1000) : Calls Tryz.prog 126 #[.int .i64 a, .int .i64 b, .int .i64 c] w fun e w' => e = .returned (.int .i64 (a - b - c)) ∧ w' = w := by
  go_enter Tryz.func126, Tryz.ntmps126
  go_wp2
  go_ret
  exact ⟨rfl, rfl⟩
/-- the flags of a difference, but for its mark -/
def subG (a b c : Nat) : Nat :=
  Nat.lor (Nat.lor (Nat.lor (szN (subV a b c)) (Nat.mul 16 (btN (Nat.ble (Nat.add (Nat.land a 15) 1) (Nat.add (Nat.land b 15) c))))) (btN (Nat.ble (Nat.add a 1) (Nat.add b c))))
    (Nat.mul 4 (btN (and (not (Nat.beq (Nat.land (Nat.xor a b) 128) 0)) (not (Nat.beq (Nat.land (Nat.xor a (subV a b c)) 128) 0)))))
theorem subV_mod (a b c : Nat) : subV a b c = (a + 512 - b - c) % 256 := Nat.and_two_pow_sub_one_eq_mod (a + 512 - b - c) 8
theorem subP (a b c : Nat) (ha : a < 256) (hb : b < 256) (hc : c < 2) :
    (!inB (sgnI a - sgnI b - (c : Int)) (-128) 127) = and (not (Nat.beq (Nat.land (Nat.xor a b) 128) 0)) (not (Nat.beq (Nat.land (Nat.xor a (subV a b c)) 128) 0)) := by
  rw [hi_xor a b ha hb, hi_xor a _ ha (subV_lt a b c), subV_mod]
  rw [ble_dec, ble_dec, ble_dec]
  by_cases p : 128 ≤ a <;> by_cases q : 128 ≤ b <;> by_cases r : 128 ≤ (a + 512 - b - c) % 256 <;> simp [p, q, r, inB, sgnI] <;> omega
theorem subG_rk (a b c A1 B1 : Nat) (ha : a < 256) (hb : b < 256) (hc : c < 2) (hA1 : Nat.land a 15 = A1) (hB1 : Nat.land b 15 = B1) :
    bits .or .i64 (bits .or .i64 (bits .or .i64 ((szN (subV a b c) : Nat) : Int) (whenI (!inB ((A1 : Int) - B1 - c) 0 15) 16)) (whenI (!inB ((a : Int) - b - c) 0 255) 1)) (whenI (!inB (sgnI a - sgnI b - (c : Int)) (-128) 127) 4) = (subG a b c : Nat) := by
  have hA : Nat.land a 15 < 2 ^ 4 := Nat.and_lt_two_pow _ (by decide)
  have hB : Nat.land b 15 < 2 ^ 4 := Nat.and_lt_two_pow _ (by decide)
  have h1 : (!inB ((A1 : Int) - B1 - c) 0 15) = Nat.ble (A1 + 1) (B1 + c) := by
    apply bool_eq; simp only [Bool.not_eq_true', inB, decide_eq_false_iff_not, ble_iff]; omega
  have h2 : (!inB ((a : Int) - b - c) 0 255) = Nat.ble (a + 1) (b + c) := by
    apply bool_eq; simp only [Bool.not_eq_true', inB, decide_eq_false_iff_not, ble_iff]; omega
  rw [h1, h2, subP a b c ha hb hc]
  rw [show ∀ x, whenI x 16 = _ from fun x => when_nat x 16, show ∀ x, whenI x 1 = _ from fun x => when_nat x 1, show ∀ x, whenI x 4 = _ from fun x => when_nat x 4]
  rw [or4 _ _ _ _ (szN_lt _ (subV_lt a b c)) (whenN_lt _ _ _ (by decide)) (whenN_lt _ _ _ (by decide)) (whenN_lt _ _ _ (by decide))]
  subst hA1 hB1
  unfold subG
  rw [when_mul _ 16, when_mul _ 4, when_one]
  rfl
theorem subG_F (a b c : Nat) : Nat.lor (subG a b c) 2 = subF a b c := by
  unfold subG subF
  rw [lor_swap _ _ 2, lor_swap _ _ 2, lor_swap _ _ 2, lor_swap (Nat.lor (szN (subV a b c)) 2)]
theorem subG_lt (a b c : Nat) : subG a b c < 256 := by
  unfold subG
  refine Nat.or_lt_two_pow (n := 8) (Nat.or_lt_two_pow (Nat.or_lt_two_pow (szN_lt _ (subV_lt a b c)) ?_) ?_) ?_
  · exact bt_mul16 _
  · exact bt_one _
  · exact bt_mul4 _
theorem rk_sub (a b c : Nat) (w : World) (ha : a < 256) (hb : b < 256) (hc : c < 2) (hL : Flags w) :
    Calls Tryz.prog 151 #[.func (.func 126) #[] #[], .int .i64 a, .int .i64 b, .int .i64 c] w fun e w' => e = .returned (.tuple #[.int .i64 (subV a b c), .int .i64 (subG a b c)]) ∧ w' = w := by
  have hA : Nat.land a 15 < 2 ^ 4 := Nat.and_lt_two_pow _ (by decide)
  have hB : Nat.land b 15 < 2 ^ 4 := Nat.and_lt_two_pow _ (by decide)
  have r1 : bits .and .i64 ((a : Int) - b - c) 255 = (subV a b c : Nat) := subV_int a b c ha hb hc
  have r2 : bits .and .i64 (a : Int) 15 = (Nat.land a 15 : Nat) := bAnd a 15 (by omega) (by omega)
  have r3 : bits .and .i64 (b : Int) 15 = (Nat.land b 15 : Nat) := bAnd b 15 (by omega) (by omega)
  have hV := subV_lt a b c
  have hs := sgnI_bd a ha
  have ht := sgnI_bd b hb
  have E : Hid _ := subG_rk a b c _ _ ha hb hc rfl rfl
  generalize Nat.land a 15 = A1 at *
  generalize Nat.land b 15 = B1 at *
  generalize subG a b c = F at *
  generalize subV a b c = V at *
  generalize hS : sgnI a = S at *
  generalize hT : sgnI b = T at *
  replace hS : Hid _ := hS
  replace hT : Hid _ := hT
  go_enter Tryz.func151, Tryz.ntmps151
  go_wp2_with (first | (go_at_call 126; refine (dif_impl _ _ _ _ (by omega) (by omega) (by omega)).mono ?_; rintro e w' ⟨rfl, rfl⟩) | (go_at_call 163; refine (signed_impl _ _ (by omega)).mono ?_; rintro e w' ⟨rfl, rfl⟩; first | rw [hS.out] | rw [hT.out]) | (go_at_call 160; refine (rf_impl _ _ hV hL).mono ?_; rintro e w' ⟨rfl, rfl⟩) | (go_at_call 33; refine (withinU_impl _ _ _ _).mono ?_; rintro e w' ⟨rfl, rfl⟩) | (go_at_call 129; refine (when_impl _ _ _).mono ?_; rintro e w' ⟨rfl, rfl⟩))
  rw [E.out]
  go_ret2
  exact ⟨rfl, rfl⟩
end Go.Proofs.YtgpmpfikeindfaaGreatDoor
