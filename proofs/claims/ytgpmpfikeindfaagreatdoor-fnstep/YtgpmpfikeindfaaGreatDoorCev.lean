/- What the machine's own calls do: conditions, and the unit. -/
import Derived.Test.YtgpmpfikeindfaaGreatDoorV09
namespace Go.Proofs.YtgpmpfikeindfaaGreatDoor
open Go.ChangeShapes Go.WideShapes Go.ChangeAt Go.RowKit
set_option linter.unusedVariables false
set_option linter.unusedSimpArgs false

theorem ne0 (m : Nat) : (((m : Nat) : Int) != 0) = (m != 0) := by
  rw [Bool.eq_iff_iff]
  simp
theorem holds_spec (f k : Nat) (w : World) (hf : f < 256) (hk : k < 8) :
    Calls Tryz.prog 114 #[.int .i64 (f : Int), .int .i64 (k : Int)] w fun e w' => e = .returned (.bool (holdN f k)) ∧ w' = w := by
  have r1 : bits .and .i64 (f : Int) 64 = ((Nat.land f 64 : Nat) : Int) := bAnd f 64 (by omega) (by omega)
  have r2 : bits .and .i64 (f : Int) 1 = ((Nat.land f 1 : Nat) : Int) := bAnd f 1 (by omega) (by omega)
  have r3 : bits .and .i64 (f : Int) 4 = ((Nat.land f 4 : Nat) : Int) := bAnd f 4 (by omega) (by omega)
  have r4 : bits .and .i64 (f : Int) 128 = ((Nat.land f 128 : Nat) : Int) := bAnd f 128 (by omega) (by omega)
  have n1 := ne0 (Nat.land f 64)
  have n2 := ne0 (Nat.land f 1)
  have n3 := ne0 (Nat.land f 4)
  have n4 := ne0 (Nat.land f 128)
  have hk8 : k = 0 ∨ k = 1 ∨ k = 2 ∨ k = 3 ∨ k = 4 ∨ k = 5 ∨ k = 6 ∨ k = 7 := by omega
  have e0 : holdN f 0 = ((Nat.land f 64 != 0) == false) := rfl
  have e1 : holdN f 1 = ((Nat.land f 64 != 0) == true) := rfl
  have e2 : holdN f 2 = ((Nat.land f 1 != 0) == false) := rfl
  have e3 : holdN f 3 = ((Nat.land f 1 != 0) == true) := rfl
  have e4 : holdN f 4 = ((Nat.land f 4 != 0) == false) := rfl
  have e5 : holdN f 5 = ((Nat.land f 4 != 0) == true) := rfl
  have e6 : holdN f 6 = (Nat.land f 128 != 0) := rfl
  have e7 : holdN f 7 = true := rfl
  generalize (Nat.land f 64 != 0) = b1 at *
  generalize (Nat.land f 1 != 0) = b2 at *
  generalize (Nat.land f 4 != 0) = b3 at *
  generalize (Nat.land f 128 != 0) = b4 at *
  generalize Nat.land f 64 = m1 at *
  generalize Nat.land f 1 = m2 at *
  generalize Nat.land f 4 = m3 at *
  generalize Nat.land f 128 = m4 at *
  rcases hk8 with rfl | rfl | rfl | rfl | rfl | rfl | rfl | rfl
  · rw [e0]
    clear e0 e1 e2 e3 e4 e5 e6 e7
    cases b1
    all_goals
      go_enter Tryz.func114, Tryz.ntmps114
      go_wp2
      go_ret
      exact ⟨rfl, rfl⟩
  · rw [e1]
    clear e0 e1 e2 e3 e4 e5 e6 e7
    cases b1
    all_goals
      go_enter Tryz.func114, Tryz.ntmps114
      go_wp2
      go_ret
      exact ⟨rfl, rfl⟩
  · rw [e2]
    clear e0 e1 e2 e3 e4 e5 e6 e7
    cases b2
    all_goals
      go_enter Tryz.func114, Tryz.ntmps114
      go_wp2
      go_ret
      exact ⟨rfl, rfl⟩
  · rw [e3]
    clear e0 e1 e2 e3 e4 e5 e6 e7
    cases b2
    all_goals
      go_enter Tryz.func114, Tryz.ntmps114
      go_wp2
      go_ret
      exact ⟨rfl, rfl⟩
  · rw [e4]
    clear e0 e1 e2 e3 e4 e5 e6 e7
    cases b3
    all_goals
      go_enter Tryz.func114, Tryz.ntmps114
      go_wp2
      go_ret
      exact ⟨rfl, rfl⟩
  · rw [e5]
    clear e0 e1 e2 e3 e4 e5 e6 e7
    cases b3
    all_goals
      go_enter Tryz.func114, Tryz.ntmps114
      go_wp2
      go_ret
      exact ⟨rfl, rfl⟩
  · rw [e6]
    clear e0 e1 e2 e3 e4 e5 e6 e7
    cases b4
    all_goals
      go_enter Tryz.func114, Tryz.ntmps114
      go_wp2
      go_ret
      exact ⟨rfl, rfl⟩
  · rw [e7]
    clear e0 e1 e2 e3 e4 e5 e6 e7
    go_enter Tryz.func114, Tryz.ntmps114
    go_wp2
    go_ret
    exact ⟨rfl, rfl⟩
theorem btN_le (b : Bool) : btN b ≤ 1 := by cases b <;> decide
theorem subF_lt (a b c : Nat) : subF a b c < 256 := by
  have h0 : szN (subV a b c) < 2 ^ 8 := szN_lt _ (subV_lt a b c)
  unfold subF
  refine Nat.or_lt_two_pow (n := 8) (Nat.or_lt_two_pow (Nat.or_lt_two_pow (Nat.or_lt_two_pow h0 (by decide)) ?_) ?_) ?_
  · have := btN_le (Nat.ble (Nat.add a 1) (Nat.add b c)); omega
  · have := btN_le (Nat.ble (Nat.add (Nat.land a 15) 1) (Nat.add (Nat.land b 15) c)); show 16 * _ < _; omega
  · have := btN_le (and (not (Nat.beq (Nat.land (Nat.xor a b) 128) 0)) (not (Nat.beq (Nat.land (Nat.xor a (subV a b c)) 128) 0))); show 4 * _ < _; omega
theorem andNot40 (f : Nat) (hf : f < 256) : bits .andNot .i64 (f : Int) 40 = ((Nat.land f 215 : Nat) : Int) := by
  have h : ∀ f : Nat, f < 256 → bits .andNot .i64 (f : Int) 40 = ((Nat.land f 215 : Nat) : Int) := by decide +kernel
  exact h f hf
set_option maxRecDepth 100000 in
set_option maxHeartbeats 2000000 in
theorem alu_spec (op b : Nat) (w : Bs) (W : World) (X : Nat) (x : Mx) (n : Nat) (vr vm cv : Value) (h : NSt w W X x n vr vm cv) (ha : x.c.a < 256) (hf : x.c.f < 256) (hb : b < 256) (ho : op < 8) :
    Calls Tryz.prog 108 #[.pointer (some ⟨X, 0, none⟩), .int .i64 (op : Int), .int .i64 (b : Int)] W fun e W' => e = .returned (.tuple #[]) ∧ NSt w W' X (x.alu op b) n vr vm cv := by
  have x0 := h.blk.cell
  have f0 := h.blk.frozen
  have z0 := h.blk.lt
  have hp : Hid (∀ V F : Nat, NSt w ((W.setCell ⟨X, 7, none⟩ (.int .i64 (V : Int))).setCell ⟨X, 8, none⟩ (.int .i64 (F : Int))) X { x with c := { x.c with a := V, f := F } } n vr vm cv) := fun V F => ((h.put 7 (.int .i64 (V : Int)) { x.c with a := V } rfl).put 8 (.int .i64 (F : Int)) { x.c with a := V, f := F } rfl)
  clear h
  have r2 : bits .and .i64 (x.c.f : Int) 1 = ((Nat.land x.c.f 1 : Nat) : Int) := bAnd x.c.f 1 (by omega) (by omega)
  have hc : Nat.land x.c.f 1 < 2 := Nat.and_lt_two_pow (n := 1) _ (by decide)
  have r40 : bits .and .i64 (b : Int) 40 = ((Nat.land b 40 : Nat) : Int) := bAnd b 40 (by omega) (by omega)
  have hb40 : Nat.land b 40 < 2 ^ 8 := Nat.and_lt_two_pow (n := 8) _ (by decide)
  have hS : x.alu op b = { x with c := { x.c with a := aluV op x.c.a b x.c.f, f := aluF op x.c.a b x.c.f } } := rfl
  rw [hS]
  clear hS
  have sF := subF_lt x.c.a b 0
  have hn40 := andNot40 (subF x.c.a b 0) sF
  have hl215 : Nat.land (subF x.c.a b 0) 215 < 2 ^ 8 := Nat.and_lt_two_pow (n := 8) _ (by decide)
  have hor := bOr (Nat.land (subF x.c.a b 0) 215) (Nat.land b 40) (by omega) (by omega)
  have ho8 : op = 0 ∨ op = 1 ∨ op = 2 ∨ op = 3 ∨ op = 4 ∨ op = 5 ∨ op = 6 ∨ op = 7 := by omega
  have q0 : bits .and .i64 (0 : Int) 1 = 0 := by decide
  have q1 : bits .and .i64 (1 : Int) 1 = 1 := by decide
  have q2 : bits .and .i64 (2 : Int) 1 = 0 := by decide
  have q3 : bits .and .i64 (3 : Int) 1 = 1 := by decide
  have q4 : bits .and .i64 (4 : Int) 1 = 0 := by decide
  have q5 : bits .and .i64 (5 : Int) 1 = 1 := by decide
  have q6 : bits .and .i64 (6 : Int) 1 = 0 := by decide
  have q7 : bits .and .i64 (7 : Int) 1 = 1 := by decide
  rcases ho8 with rfl | rfl | rfl | rfl | rfl | rfl | rfl | rfl
  · skip
    have eV : aluV 0 x.c.a b x.c.f = addV x.c.a b 0 := rfl
    have eF : aluF 0 x.c.a b x.c.f = addF x.c.a b 0 := rfl
    rw [eV, eF]
    clear eV eF
    generalize Nat.land x.c.f 1 = C at *
    clear hor hn40 hl215 sF r40 hb40
    obtain ⟨V, hV⟩ : ∃ V, addV x.c.a b 0 = V := ⟨_, rfl⟩
    obtain ⟨F, hF⟩ : ∃ F, addF x.c.a b 0 = F := ⟨_, rfl⟩
    rw [hV, hF]
    replace hV := hid hV
    replace hF := hid hF
    go_enter Tryz.func108, Tryz.ntmps108
    go_wp2_with fail
    refine (add_spec x.c.a b 0 _ ha hb (by omega)).mono ?_
    rintro e w' ⟨rfl, hww⟩
    obtain rfl := hww.symm
    rw [hV.out, hF.out]
    clear hV hF
    go_wp2
    exact bodyPost_end (v := .tuple #[]) (by simp [results, Tryz.results108]) rfl ⟨rfl, hp.out V F⟩
  · skip
    have eV : aluV 1 x.c.a b x.c.f = addV x.c.a b (Nat.land x.c.f 1) := rfl
    have eF : aluF 1 x.c.a b x.c.f = addF x.c.a b (Nat.land x.c.f 1) := rfl
    rw [eV, eF]
    clear eV eF
    generalize Nat.land x.c.f 1 = C at *
    clear hor hn40 hl215 sF r40 hb40
    obtain ⟨V, hV⟩ : ∃ V, addV x.c.a b C = V := ⟨_, rfl⟩
    obtain ⟨F, hF⟩ : ∃ F, addF x.c.a b C = F := ⟨_, rfl⟩
    rw [hV, hF]
    replace hV := hid hV
    replace hF := hid hF
    go_enter Tryz.func108, Tryz.ntmps108
    go_wp2_with fail
    refine (add_spec x.c.a b C _ ha hb hc).mono ?_
    rintro e w' ⟨rfl, hww⟩
    obtain rfl := hww.symm
    rw [hV.out, hF.out]
    clear hV hF
    go_wp2
    exact bodyPost_end (v := .tuple #[]) (by simp [results, Tryz.results108]) rfl ⟨rfl, hp.out V F⟩
  · skip
    have eV : aluV 2 x.c.a b x.c.f = subV x.c.a b 0 := rfl
    have eF : aluF 2 x.c.a b x.c.f = subF x.c.a b 0 := rfl
    rw [eV, eF]
    clear eV eF
    generalize Nat.land x.c.f 1 = C at *
    clear hor hn40 hl215 sF r40 hb40
    obtain ⟨V, hV⟩ : ∃ V, subV x.c.a b 0 = V := ⟨_, rfl⟩
    obtain ⟨F, hF⟩ : ∃ F, subF x.c.a b 0 = F := ⟨_, rfl⟩
    rw [hV, hF]
    replace hV := hid hV
    replace hF := hid hF
    go_enter Tryz.func108, Tryz.ntmps108
    go_wp2_with fail
    refine (sub_spec x.c.a b 0 _ ha hb (by omega)).mono ?_
    rintro e w' ⟨rfl, hww⟩
    obtain rfl := hww.symm
    rw [hV.out, hF.out]
    clear hV hF
    go_wp2
    exact bodyPost_end (v := .tuple #[]) (by simp [results, Tryz.results108]) rfl ⟨rfl, hp.out V F⟩
  · skip
    have eV : aluV 3 x.c.a b x.c.f = subV x.c.a b (Nat.land x.c.f 1) := rfl
    have eF : aluF 3 x.c.a b x.c.f = subF x.c.a b (Nat.land x.c.f 1) := rfl
    rw [eV, eF]
    clear eV eF
    generalize Nat.land x.c.f 1 = C at *
    clear hor hn40 hl215 sF r40 hb40
    obtain ⟨V, hV⟩ : ∃ V, subV x.c.a b C = V := ⟨_, rfl⟩
    obtain ⟨F, hF⟩ : ∃ F, subF x.c.a b C = F := ⟨_, rfl⟩
    rw [hV, hF]
    replace hV := hid hV
    replace hF := hid hF
    go_enter Tryz.func108, Tryz.ntmps108
    go_wp2_with fail
    refine (sub_spec x.c.a b C _ ha hb hc).mono ?_
    rintro e w' ⟨rfl, hww⟩
    obtain rfl := hww.symm
    rw [hV.out, hF.out]
    clear hV hF
    go_wp2
    exact bodyPost_end (v := .tuple #[]) (by simp [results, Tryz.results108]) rfl ⟨rfl, hp.out V F⟩
  · skip
    have eV : aluV 4 x.c.a b x.c.f = logV 0 x.c.a b := rfl
    have eF : aluF 4 x.c.a b x.c.f = logF 0 x.c.a b := rfl
    rw [eV, eF]
    clear eV eF
    generalize Nat.land x.c.f 1 = C at *
    clear hor hn40 hl215 sF r40 hb40
    obtain ⟨V, hV⟩ : ∃ V, logV 0 x.c.a b = V := ⟨_, rfl⟩
    obtain ⟨F, hF⟩ : ∃ F, logF 0 x.c.a b = F := ⟨_, rfl⟩
    rw [hV, hF]
    replace hV := hid hV
    replace hF := hid hF
    go_enter Tryz.func108, Tryz.ntmps108
    go_wp2_with fail
    refine (logic_spec 0 x.c.a b _ (by omega) ha hb).mono ?_
    rintro e w' ⟨rfl, hww⟩
    obtain rfl := hww.symm
    rw [hV.out, hF.out]
    clear hV hF
    go_wp2
    exact bodyPost_end (v := .tuple #[]) (by simp [results, Tryz.results108]) rfl ⟨rfl, hp.out V F⟩
  · skip
    have eV : aluV 5 x.c.a b x.c.f = logV 1 x.c.a b := rfl
    have eF : aluF 5 x.c.a b x.c.f = logF 1 x.c.a b := rfl
    rw [eV, eF]
    clear eV eF
    generalize Nat.land x.c.f 1 = C at *
    clear hor hn40 hl215 sF r40 hb40
    obtain ⟨V, hV⟩ : ∃ V, logV 1 x.c.a b = V := ⟨_, rfl⟩
    obtain ⟨F, hF⟩ : ∃ F, logF 1 x.c.a b = F := ⟨_, rfl⟩
    rw [hV, hF]
    replace hV := hid hV
    replace hF := hid hF
    go_enter Tryz.func108, Tryz.ntmps108
    go_wp2_with fail
    refine (logic_spec 1 x.c.a b _ (by omega) ha hb).mono ?_
    rintro e w' ⟨rfl, hww⟩
    obtain rfl := hww.symm
    rw [hV.out, hF.out]
    clear hV hF
    go_wp2
    exact bodyPost_end (v := .tuple #[]) (by simp [results, Tryz.results108]) rfl ⟨rfl, hp.out V F⟩
  · skip
    have eV : aluV 6 x.c.a b x.c.f = logV 2 x.c.a b := rfl
    have eF : aluF 6 x.c.a b x.c.f = logF 2 x.c.a b := rfl
    rw [eV, eF]
    clear eV eF
    generalize Nat.land x.c.f 1 = C at *
    clear hor hn40 hl215 sF r40 hb40
    obtain ⟨V, hV⟩ : ∃ V, logV 2 x.c.a b = V := ⟨_, rfl⟩
    obtain ⟨F, hF⟩ : ∃ F, logF 2 x.c.a b = F := ⟨_, rfl⟩
    rw [hV, hF]
    replace hV := hid hV
    replace hF := hid hF
    go_enter Tryz.func108, Tryz.ntmps108
    go_wp2_with fail
    refine (logic_spec 2 x.c.a b _ (by omega) ha hb).mono ?_
    rintro e w' ⟨rfl, hww⟩
    obtain rfl := hww.symm
    rw [hV.out, hF.out]
    clear hV hF
    go_wp2
    exact bodyPost_end (v := .tuple #[]) (by simp [results, Tryz.results108]) rfl ⟨rfl, hp.out V F⟩
  · skip
    have eV : aluV 7 x.c.a b x.c.f = x.c.a := rfl
    have eF : aluF 7 x.c.a b x.c.f = Nat.lor (Nat.land (subF x.c.a b 0) 215) (Nat.land b 40) := rfl
    rw [eV, eF]
    clear eV eF
    generalize Nat.land x.c.f 1 = C at *
    generalize hG : Nat.lor (Nat.land (subF x.c.a b 0) 215) (Nat.land b 40) = F at *
    clear hG
    generalize Nat.land (subF x.c.a b 0) 215 = F1 at *
    generalize Nat.land b 40 = B4 at *
    obtain ⟨SF, hSF⟩ : ∃ F, subF x.c.a b 0 = F := ⟨_, rfl⟩
    rw [hSF] at hn40 sF
    replace hSF := hid hSF
    go_enter Tryz.func108, Tryz.ntmps108
    go_wp2_with fail
    refine (sub_spec x.c.a b 0 _ ha hb (by omega)).mono ?_
    rintro e w' ⟨rfl, hww⟩
    obtain rfl := hww.symm
    rw [hSF.out]
    generalize subV x.c.a b 0 = V0 at *
    go_wp2
    exact bodyPost_end (v := .tuple #[]) (by simp [results, Tryz.results108]) rfl ⟨rfl, hp.out _ F⟩
end Go.Proofs.YtgpmpfikeindfaaGreatDoor
