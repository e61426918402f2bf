/- A processor is made; what all calls on a processor and a memory ask first. -/
import Derived.Test.YtgpmpfikeindfaaGreatDoorV23
import Derived.Test.YtgpmpfikeindfaaGreatDoorV18
import Derived.Test.YtgpmpfikeindfaaGreatDoorV12
import Derived.Test.YtgpmpfikeindfaaGreatDoorRnv
import Derived.Test.YtgpmpfikeindfaaGreatDoorV19
import Derived.Deep.RegionWith
import Derived.BigRegion
import Derived.Test.YtgpmpfikeindfaaGreatDoorV04
namespace Go.Proofs.YtgpmpfikeindfaaGreatDoor
open Go.ChangeShapes Go.WideShapes Go.ChangeAt Go.RowKit
set_option linter.unusedVariables false
set_option linter.unusedSimpArgs false

abbrev cqA (c : Cp) : Array Value := #[.int .i64 (c.b : Int), .int .i64 (c.c : Int), .int .i64 (c.d : Int), .int .i64 (c.e : Int), .int .i64 (c.h : Int), .int .i64 (c.l : Int), .int .i64 0, .int .i64 (c.a : Int), .int .i64 (c.f : Int), .int .i64 (c.sp : Int), .int .i64 (c.pc : Int), .bool c.iff, .bool c.ei, .bool c.halt]
theorem made_pro {w w1 : World} {lo hi B r s n : Nat} {G Q : Nat → Nat} {M : Mem} {c : Cp} (t : TypeId) (h : Brd w1 lo hi B r s G Q M) (hb : Below w.heap.size w w1) (hl : w.heap.size ≤ lo) :
    Brd (w1.alloc (.cells (proT c B n .nilFunc) t)) lo hi B r s G Q M ∧ Blk (w1.alloc (.cells (proT c B n .nilFunc) t)) w1.heap.size (proT c B n .nilFunc) ∧ ¬ brdB lo hi B Q w1.heap.size ∧ w.heap.size ≤ w1.heap.size ∧ w.heap.size ≤ lo ∧ Below w.heap.size w (w1.alloc (.cells (proT c B n .nilFunc) t)) := by
  have hhi : hi ≤ w1.heap.size := Nat.le_trans h.ord.1 (Nat.le_of_lt h.blk.lt)
  exact ⟨h.kept (fun b hh => Below.heap_alloc _ _ _ (h.lt hhi hh)), Blk.new _ _ _, fun hh => absurd (h.lt hhi hh) (Nat.lt_irrefl _), hb.size, hl, hb.alloc hb.size _⟩
set_option maxRecDepth 100000 in
set_option maxHeartbeats 2000000 in
theorem newp_impl (c : Cp) (v : Value) (M : Mem) (n : Nat) (w : World) (h : MemR w v M) (hok : okM M = true) (hf : Fit M) :
    Calls Tryz.prog 20 #[.agg (cqA c), v, .int .i64 (n : Int)] w fun e w' => ∃ lo hi B r s G Q Y, e = .returned (.pointer (some ⟨Y, 0, none⟩)) ∧ Brd w' lo hi B r s G Q M ∧ Blk w' Y (proT c B n .nilFunc) ∧ ¬ brdB lo hi B Q Y ∧ w.heap.size ≤ Y ∧ w.heap.size ≤ lo ∧ Below w.heap.size w w' := by
  obtain ⟨a1, p1, a2, p2, rfl, _, _⟩ := h.form
  have hs := hid (two_in (w := w) (cqA c) #[.slice a1 M.rom.length p1, .slice a2 M.ram.length p2, .int .i64 M.page, .int .i64 M.screen, .bool M.locked] 25 30)
  have x0 := hs.out.1.cell
  have x1 := hs.out.2.1.cell
  have hM : Hid (∀ W', Below w.heap.size w W' → MemR W' (memV (.slice a1 M.rom.length p1) (.slice a2 M.ram.length p2) M.page M.screen M.locked) M) := fun W' hb => h.below hb
  replace hf := hid hf
  clear h
  go_enter Tryz.func20, Tryz.ntmps20
  go_upto_region 1 with fail
  obtain ⟨V, hV⟩ : ∃ V, ((w.alloc (.cells (cqA c) 25)).alloc (.cells #[.slice a1 M.rom.length p1, .slice a2 M.ram.length p2, .int .i64 M.page, .int .i64 M.screen, .bool M.locked] 30)) = V := ⟨_, rfl⟩
  rw [hV] at hs x0 x1 ⊢
  clear hV
  have hq : Hid (Blk V.drew w.heap.size (cqA c)) := hs.out.1
  have hB := hid hs.out.2.2
  clear hs
  go_region_with (go_at_call 35; refine (board_impl _ M _ (hM.out _ (by first | exact hB.out | exact hB.out.drew)) hok hf.out).mono ?_; rintro e w1 ⟨hi, B, r, s, G, Q, rfl, hBr, hb1⟩; have y0 := (hq.out.below hb1 hq.out.lt).cell; have hbw : Below w.heap.size w w1 := (hB.out.drew).trans (hb1.mono hB.out.size); have hlo := hB.out.size; have hE := hid (made_pro (c := c) (n := n) 86 hBr hbw hlo); clear hb1 hbw hBr)
  all_goals (try go_wp2)
  all_goals go_ret
  all_goals exact ⟨_, hi, B, r, s, G, Q, _, rfl, hE.out⟩
end Go.Proofs.YtgpmpfikeindfaaGreatDoor

/- What all calls on a processor and a memory ask first. -/
namespace Go.Proofs.YtgpmpfikeindfaaGreatDoor
open Go.ChangeShapes Go.WideShapes Go.ChangeAt Go.RowKit
set_option linter.unusedVariables false
set_option linter.unusedSimpArgs false

def cfM (c : Cu) (M : Mem) (zs : List Int) : Int := if okC c = true then faultM M zs else 1
set_option maxRecDepth 100000 in
theorem cfault_impl (c : Cu) (v : Value) (M : Mem) (a : Option Addr) (cap : Nat) (zs : List Int) (w : World) (h : MemR w v M) (hf : Fit M) (hz : RowR w (.slice a zs.length cap) zs) (hl : zs.length ≤ 1000000000) :
    Calls Tryz.prog 19 #[cuV c, v, .slice a zs.length cap] w fun e w' => e = .returned (.int .i64 (cfM c M zs)) ∧ Below w.heap.size w w' := by
  obtain ⟨a1, p1, a2, p2, rfl, _, _⟩ := h.form
  have hs := hid (two_in (w := w) (cuA c) #[.slice a1 M.rom.length p1, .slice a2 M.ram.length p2, .int .i64 M.page, .int .i64 M.screen, .bool M.locked] 25 30)
  have x0 := hs.out.1.cell
  have hok := hid (fun w1 => cpuok_impl c w1)
  have hft : Hid (∀ W', Below w.heap.size w W' → Calls Tryz.prog 34 #[memV (.slice a1 M.rom.length p1) (.slice a2 M.ram.length p2) M.page M.screen M.locked, .slice a zs.length cap] W' fun e w' => e = .returned (.int .i64 (faultM M zs)) ∧ Below W'.heap.size W' w') := fun W' hb => fault_impl _ M a cap zs W' (h.below hb) hf (hz.below hb) hl
  clear h hf hz
  generalize zs.length = n at *
  cases hc : okC c
  · have e : cfM c M zs = 1 := by unfold cfM; rw [hc]; rfl
    rw [e]
    rw [hc] at hok
    clear e
    go_enter Tryz.func19, Tryz.ntmps19
    go_upto_region 1 with fail
    obtain ⟨V, hV⟩ : ∃ V, ((w.alloc (.cells (cuA c) 25)).alloc (.cells #[.slice a1 M.rom.length p1, .slice a2 M.ram.length p2, .int .i64 M.page, .int .i64 M.screen, .bool M.locked] 30)) = V := ⟨_, rfl⟩
    rw [hV] at hs x0 ⊢
    clear hV
    go_wp2_with fail
    refine (hok.out _).mono ?_
    rintro e w1 ⟨rfl, hb⟩
    have hb1 := hid (new_trans hs.out.2.2 hb)
    clear hb hs x0
    go_wp2
    go_ret
    exact ⟨rfl, hb1.out⟩
  · have e : cfM c M zs = faultM M zs := by unfold cfM; rw [hc]; rfl
    rw [e]
    rw [hc] at hok
    clear e
    generalize faultM M zs = F at *
    go_enter Tryz.func19, Tryz.ntmps19
    go_upto_region 1 with fail
    obtain ⟨V, hV⟩ : ∃ V, ((w.alloc (.cells (cuA c) 25)).alloc (.cells #[.slice a1 M.rom.length p1, .slice a2 M.ram.length p2, .int .i64 M.page, .int .i64 M.screen, .bool M.locked] 30)) = V := ⟨_, rfl⟩
    rw [hV] at hs x0 ⊢
    clear hV
    go_wp2_with fail
    refine (hok.out _).mono ?_
    rintro e w1 ⟨rfl, hb⟩
    have hb1 := hid (new_trans hs.out.2.2 hb)
    have x1 := (hs.out.2.1.below hb hs.out.2.1.lt).cell
    clear hb hs x0
    go_wp2_with fail
    refine (hft.out _ hb1.out).mono ?_
    rintro e w2 ⟨rfl, hb⟩
    have hb2 := hid (new_trans hb1.out hb)
    clear hb hb1 x1
    go_wp2
    go_ret
    exact ⟨rfl, hb2.out⟩
end Go.Proofs.YtgpmpfikeindfaaGreatDoor

/- An interrupt as plain numbers, and as the program's processor takes it. -/
namespace Go.Proofs.YtgpmpfikeindfaaGreatDoor
open Go.ChangeShapes Go.WideShapes Go.ChangeAt Go.RowKit
set_option linter.unusedVariables false
set_option linter.unusedSimpArgs false

end Go.Proofs.YtgpmpfikeindfaaGreatDoor

/- What the program answers when an interrupt comes. -/
namespace Go.Proofs.YtgpmpfikeindfaaGreatDoor
open Go.ChangeShapes Go.WideShapes Go.ChangeAt Go.RowKit Go.Shelf
set_option linter.unusedVariables false
set_option linter.unusedSimpArgs false

theorem lay_ans {w w1 w3 : World} {x : Mx} {u cv : Value} {b g : Nat} (hb : Below w.heap.size w w1) (q2 : Blk w1 b zC) (q3 : Blk w1 g zM) (hbg : b ≠ g) (lb : w.heap.size ≤ b) (lg : w.heap.size ≤ g) (hA : Ans w1 w3 x u cv) :
    Blk w3 b zC ∧ Blk w3 g zM ∧ ∀ vr' vm', u = memV vr' vm' x.m.page x.m.screen x.m.locked → ∀ WF, sets (sets w3 b 0 (cpuL x.c)) g 0 (meL vr' vm' x.m) = WF →
      (∀ i, WF.cell? ⟨b, i, none⟩ = (cpA x.c)[i]?) ∧ (∀ i, WF.cell? ⟨g, i, none⟩ = (#[vr', vm', .int .i64 x.m.page, .int .i64 x.m.screen, .bool x.m.locked] : Array Value)[i]?) ∧ Ans w WF x u cv := by
  have l2 := q2.lt
  have l3 := q3.lt
  have k2 := q2.below hA.bel l2
  have k3 := q3.below hA.bel l3
  refine ⟨k2, k3, fun vr' vm' e WF hWF => ?_⟩
  obtain ⟨F1, F2, F3, F4, F5⟩ := fin_blk k2 k3 hbg (new_trans hb hA.bel) lb lg (cpuL x.c) (meL vr' vm' x.m)
  rw [setsC] at F1
  rw [setsM] at F2
  rw [hWF] at F1 F2 F3 F4 F5
  exact ⟨F1, F2, hA.laid hb.size (fun y hy => F3 y (by omega) (by omega)) (by omega) F5⟩
theorem Ans.form {w W : World} {x : Mx} {u cv : Value} (h : Ans w W x u cv) : ∃ g1 h1 g2 h2, u = memV (.slice g1 x.m.rom.length h1) (.slice g2 x.m.ram.length h2) x.m.page x.m.screen x.m.locked := by
  obtain ⟨⟨lo, hi, h1, _⟩, _⟩ := h
  obtain ⟨g1, c1, g2, c2, e, _⟩ := h1.reads.form
  exact ⟨g1, c1, g2, c2, e⟩
theorem cf_nil (c : Cu) (M : Mem) : cfM c M [] = if (okC c && okM M) = true then 0 else 1 := by
  unfold cfM faultM
  cases okC c <;> cases okM M <;> rfl
theorem intM_len (c : Cp) (M : Mem) : (intM c M).cy.length ≤ 1000 := by
  show ([_] ++ [_] : List (Nat × Nat × Nat)).length ≤ 1000
  simp
end Go.Proofs.YtgpmpfikeindfaaGreatDoor

/- What the parts of the program's unit answer: its tests, its choice of a flag, its flags of a result. -/
namespace Go.Proofs.YtgpmpfikeindfaaGreatDoor
open Go.ChangeShapes Go.WideShapes Go.ChangeAt Go.RowKit
set_option linter.unusedVariables false

theorem withinU_impl (n a b : Int) (w : World) : Calls Tryz.prog 33 #[.int .i64 n, .int .i64 a, .int .i64 b] w fun e w' => e = .returned (.bool (inB n a b)) ∧ w' = w := by
  go_enter Tryz.func33, Tryz.ntmps33
  go_wp2
  all_goals go_ret
  all_goals exact ⟨ret_bool (by rw [Bool.eq_iff_iff]; simp [inB]; try omega), rfl⟩

theorem isbyte_impl (n : Int) (w : World) : Calls Tryz.prog 31 #[.int .i64 n] w fun e w' => e = .returned (.bool (inB n 0 255)) ∧ w' = w := by
  go_enter Tryz.func31, Tryz.ntmps31
  go_wp2
  all_goals go_ret
  all_goals exact ⟨ret_bool (by rw [Bool.eq_iff_iff]; simp [inB]; try omega), rfl⟩

theorem bytes_impl (a b : Int) (w : World) : Calls Tryz.prog 32 #[.int .i64 a, .int .i64 b] w fun e w' => e = .returned (.bool (inB a 0 255 && inB b 0 255)) ∧ w' = w := by
  cases h1 : inB a 0 255
  all_goals
    go_enter Tryz.func32, Tryz.ntmps32
    go_wp2_with (go_at_call 31; refine (isbyte_impl _ _).mono ?_; rintro e w' ⟨rfl, rfl⟩)
    go_ret
    exact ⟨ret_bool (by simp), rfl⟩

/-- a flag where a test holds -/
def whenI (b : Bool) (f : Int) : Int := cond b f 0
def whenN (b : Bool) (f : Nat) : Nat := cond b f 0
theorem when_nat (b : Bool) (f : Nat) : whenI b (f : Int) = (whenN b f : Nat) := by cases b <;> rfl
theorem whenN_lt (b : Bool) (f n : Nat) (h : f < n) : whenN b f < n := by cases b <;> simp [whenN] <;> omega
theorem when_impl (b : Bool) (f : Int) (w : World) : Calls Tryz.prog 129 #[.bool b, .int .i64 f] w fun e w' => e = .returned (.int .i64 (whenI b f)) ∧ w' = w := by
  cases b
  all_goals
    go_enter Tryz.func129, Tryz.ntmps129
    go_wp2
    go_ret
    exact ⟨rfl, rfl⟩

theorem eq0_nat (v : Nat) : ((v : Int) == 0) = Nat.beq v 0 := by cases v with | zero => rfl | succ n => rfl
/-- the table of flags that are bits of a result, in its block -/
def Flags (w : World) : Prop := w.cell? ⟨3, 0, none⟩ = some (.int .i64 128) ∧ w.cell? ⟨3, 1, none⟩ = some (.int .i64 32) ∧ w.cell? ⟨3, 2, none⟩ = some (.int .i64 8)
theorem flags_below {w w' : World} (h : Flags w) (hb : Below w.heap.size w w') : Flags w' := by
  obtain ⟨h0, h1, h2⟩ := h
  have k0 := World.block_lt_of_cell? w _ h0
  refine ⟨?_, ?_, ?_⟩
  · rw [hb.cell (p := ⟨3, 0, none⟩) k0]; exact h0
  · rw [hb.cell (p := ⟨3, 1, none⟩) k0]; exact h1
  · rw [hb.cell (p := ⟨3, 2, none⟩) k0]; exact h2

def rfL (v : Nat) : Nat → Nat
  | 0 => whenN (Nat.beq v 0) 64
  | 1 => Nat.lor (whenN (Nat.beq v 0) 64) (Nat.land v 128)
  | 2 => Nat.lor (Nat.lor (whenN (Nat.beq v 0) 64) (Nat.land v 128)) (Nat.land v 32)
  | _ => Nat.lor (Nat.lor (Nat.lor (whenN (Nat.beq v 0) 64) (Nat.land v 128)) (Nat.land v 32)) (Nat.land v 8)
theorem rf_all : allB 256 (fun v => Nat.beq (rfL v 3) (szN v)) = true := by decide +kernel
theorem rfL_lt (v k : Nat) (hv : v < 256) : rfL v k < 256 := by
  have h0 : whenN (Nat.beq v 0) 64 < 2 ^ 8 := whenN_lt _ _ _ (by decide)
  have h1 : Nat.land v 128 < 2 ^ 8 := Nat.and_lt_two_pow _ (by decide)
  have h2 : Nat.land v 32 < 2 ^ 8 := Nat.and_lt_two_pow _ (by decide)
  have h3 : Nat.land v 8 < 2 ^ 8 := Nat.and_lt_two_pow _ (by decide)
  unfold rfL
  split
  · exact h0
  · exact Nat.or_lt_two_pow (n := 8) h0 h1
  · exact Nat.or_lt_two_pow (n := 8) (Nat.or_lt_two_pow h0 h1) h2
  · exact Nat.or_lt_two_pow (n := 8) (Nat.or_lt_two_pow (Nat.or_lt_two_pow h0 h1) h2) h3
theorem rf_step (v k f : Nat) (hv : v < 256) (hf : f < 256) (i : Int) (hi : i = (f : Int)) : bits .or .i64 ((rfL v k : Nat) : Int) (bits .and .i64 (v : Int) i) = ((Nat.lor (rfL v k) (Nat.land v f) : Nat) : Int) := by
  subst hi
  have h1 : Nat.land v f < 2 ^ 8 := Nat.and_lt_two_pow _ hf
  have h2 := rfL_lt v k hv
  rw [bAnd v f (by omega) (by omega), bOr _ _ (by omega) (by omega)]
theorem rf_step0 (v : Nat) (hv : v < 256) : bits .or .i64 ((rfL v 0 : Nat) : Int) (bits .and .i64 (v : Int) 128) = (rfL v 1 : Nat) := rf_step v 0 128 hv (by decide) _ rfl
theorem rf_step1 (v : Nat) (hv : v < 256) : bits .or .i64 ((rfL v 1 : Nat) : Int) (bits .and .i64 (v : Int) 32) = (rfL v 2 : Nat) := rf_step v 1 32 hv (by decide) _ rfl
theorem rf_step2 (v : Nat) (hv : v < 256) : bits .or .i64 ((rfL v 2 : Nat) : Int) (bits .and .i64 (v : Int) 8) = (rfL v 3 : Nat) := rf_step v 2 8 hv (by decide) _ rfl
theorem rf_impl (v : Nat) (w : World) (hv : v < 256) (hL : Flags w) : Calls Tryz.prog 160 #[.int .i64 v] w fun e w' => e = .returned (.int .i64 (szN v)) ∧ w' = w := by
  obtain ⟨h0, h1, h2⟩ := hL
  have i0 : ∀ w, (Instr.index 144 (.agg #[.int .i64 128, .int .i64 32, .int .i64 8]) (.int .i64 0)).run Tryz.prog w = .ok (.int .i64 128) w := fun _ => by kernel_rfl
  have i1 : ∀ w, (Instr.index 144 (.agg #[.int .i64 128, .int .i64 32, .int .i64 8]) (.int .i64 1)).run Tryz.prog w = .ok (.int .i64 32) w := fun _ => by kernel_rfl
  have i2 : ∀ w, (Instr.index 144 (.agg #[.int .i64 128, .int .i64 32, .int .i64 8]) (.int .i64 2)).run Tryz.prog w = .ok (.int .i64 8) w := fun _ => by kernel_rfl
  go_enter Tryz.func160, Tryz.ntmps160
  go_wp2_with (go_at_call 129; refine (when_impl _ _ _).mono ?_; rintro e w' ⟨rfl, rfl⟩)
  clear h0 h1 h2
  go_loop [3, 10] (fun x i => ∃ k : Nat, k ≤ 3 ∧ x = .int .i64 (rfL v k : Nat) ∧ i = .int .i64 k) (fun _ i => (3 - intOf i).toNat)
  case atStart => exact ⟨0, by omega, by rw [eq0_nat]; exact congrArg _ (when_nat _ 64), rfl⟩
  case round =>
    obtain ⟨k, hk, rfl, rfl⟩ := hrel
    have h3 : k = 0 ∨ k = 1 ∨ k = 2 ∨ k = 3 := by omega
    rcases h3 with rfl | rfl | rfl | rfl
    · go_wp2
      go_round
      case rel => exact ⟨1, by omega, congrArg _ (rf_step0 v hv), rfl⟩
      case measure => simp [intOf]
    · go_wp2
      go_round
      case rel => exact ⟨2, by omega, congrArg _ (rf_step1 v hv), rfl⟩
      case measure => simp [intOf]
    · go_wp2
      go_round
      case rel => exact ⟨3, by omega, congrArg _ (rf_step2 v hv), rfl⟩
      case measure => simp [intOf]
    · go_wp2
      go_ret
      exact ⟨ret_int (congrArg _ (Nat.eq_of_beq_eq_true (allB_at rf_all v hv))), rfl⟩
theorem parB_nat (v : Nat) (hv : v < 256) : parB (v : Int) = !prf 8 v := by unfold parB; rw [decide_eq_true (by omega)]; simp
theorem pf_impl (v : Nat) (w : World) (hv : v < 256) (hL : Flags w) : Calls Tryz.prog 128 #[.int .i64 v] w fun e w' => e = .returned (.int .i64 (szpN v)) ∧ w' = w := by
  have hp := parB_nat v hv
  have hz := szN_lt v hv
  have E : bits .or .i64 ((szN v : Nat) : Int) (whenI (!prf 8 v) 4) = (szpN v : Nat) := by
    rw [show whenI (!prf 8 v) 4 = _ from when_nat _ 4]
    have h1 : whenN (!prf 8 v) 4 < 256 := whenN_lt _ _ _ (by decide)
    rw [bOr _ _ (by omega) (by omega)]
    unfold szpN
    cases prf 8 v <;> rfl
  replace E : Hid _ := E
  go_enter Tryz.func128, Tryz.ntmps128
  go_wp2_with (first | (go_at_call 160; refine (rf_impl _ _ hv hL).mono ?_; rintro e w' ⟨rfl, rfl⟩) | (go_at_call 161; refine (par_impl _ _).mono ?_; rintro e w' ⟨rfl, rfl⟩; rw [hp]) | (go_at_call 129; refine (when_impl _ _ _).mono ?_; rintro e w' ⟨rfl, rfl⟩))
  go_ret
  exact ⟨ret_int E.out, rfl⟩
end Go.Proofs.YtgpmpfikeindfaaGreatDoor
