/- One tick of the sound chip: the program. -/
import Derived.Test.YtjdgfbaioafjcaaDoorYg
import Derived.Laws.EntriesVeiled
import Derived.Deep.RegionWith
namespace Go.Proofs.YtjdgfbaioafjcaaDoor
open Go.ChangeShapes Go.WideShapes Go.ChangeAt Go.RowKit
set_option linter.unusedVariables false
set_option linter.unusedSimpArgs false

theorem shN_alt (s : Nat) : Nat.lor (s / 2) (Nat.land (Nat.xor s (s / 8)) 1 * 65536) = shN s := by
  unfold shN
  have : Nat.land (Nat.xor s (s / 8)) 1 = Nat.xor (Nat.land s 1) (Nat.land (s / 8) 1) := Nat.and_xor_distrib_right
  rw [this]
theorem envN_alt : ∀ sh : Nat, sh < 4 → ∀ e : Nat, e < 32 → (if Nat.land (e + 1) 31 ≤ 15 then Nat.land (e + 1) 31 else if sh = 0 ∨ sh = 1 then 15 else if sh = 2 then 0 else Nat.land (e + 1) 31) = envN sh e := by decide +kernel
theorem shifted_impl (s : Nat) (w : World) (hs : s < 131072) : Calls Tryd.prog 51 #[.int .i64 (s : Int)] w fun e w' => e = .returned (.int .i64 (shN s : Nat)) ∧ w' = w := by
  have hx : Nat.xor s (s / 8) < 2 ^ 17 := Nat.xor_lt_two_pow (by omega) (by omega)
  have e1 : bits .xor .i64 (s : Int) ((s : Int) / 8) = ((Nat.xor s (s / 8) : Nat) : Int) := by
    have := bXor32 s (s / 8) (by omega) (by omega)
    rw [← this]
    congr 1
  have e2 : bits .and .i64 ((Nat.xor s (s / 8) : Nat) : Int) 1 = ((Nat.land (Nat.xor s (s / 8)) 1 : Nat) : Int) := bAnd32 _ 1 (by omega) (by omega)
  have l2 : Nat.land (Nat.xor s (s / 8)) 1 < 2 := Nat.lt_of_le_of_lt Nat.and_le_right (by omega)
  have e4 : bits .or .i64 ((s : Int) / 2) (((Nat.land (Nat.xor s (s / 8)) 1 : Nat) : Int) * 65536) = ((shN s : Nat) : Int) := by
    have := bOr32 (s / 2) (Nat.land (Nat.xor s (s / 8)) 1 * 65536) (by omega) (by omega)
    rw [← shN_alt, ← this]
    congr 1
  generalize Nat.land (Nat.xor s (s / 8)) 1 = A2 at *
  generalize Nat.xor s (s / 8) = A1 at *
  generalize shN s = SN at *
  clear hx
  go_enter Tryd.func51, Tryd.ntmps51
  go_wp2
  go_ret
  exact ⟨by first | rfl | rw [e4], rfl⟩
theorem turned_impl (b : Bool) (w : World) : Calls Tryd.prog 49 #[.bool b] w fun e w' => e = .returned (.bool (!b)) ∧ w' = w := by
  go_enter Tryd.func49, Tryd.ntmps49
  go_wp2
  go_ret
  exact ⟨rfl, rfl⟩
theorem nextenv_impl (e sh : Nat) (w : World) (he : e < 32) (hsh : sh < 4) : Calls Tryd.prog 53 #[.int .i64 (e : Int), .int .i64 (sh : Int)] w fun r w' => r = .returned (.int .i64 (envN sh e : Nat)) ∧ w' = w := by
  have hv := envN_alt sh hsh e he
  have e1 : bits .and .i64 ((e : Int) + 1) 31 = ((Nat.land (e + 1) 31 : Nat) : Int) := by
    have := bAnd32 (e + 1) 31 (by omega) (by omega)
    rw [← this]
    congr 1
  generalize envN sh e = R at *
  generalize Nat.land (e + 1) 31 = x at *
  by_cases hx : x ≤ 15
  · rw [if_pos hx] at hv
    subst hv
    go_enter Tryd.func53, Tryd.ntmps53
    go_wp2
    go_ret
    exact ⟨rfl, rfl⟩
  · rw [if_neg hx] at hv
    have hxb : decide ((x : Int) ≤ 15) = false := decide_eq_false (by omega)
    rcases (by omega : sh = 0 ∨ sh = 1 ∨ sh = 2 ∨ sh = 3) with rfl | rfl | rfl | rfl
    all_goals
      simp at hv
      subst hv
      go_enter Tryd.func53, Tryd.ntmps53
      go_wp2
      go_ret
      exact ⟨rfl, rfl⟩
/-- a counter with whatever hangs on it -/
theorem tick_no {c p : Nat} (h : ¬ p ≤ c + 1) : tickB c p = false ∧ tickV c p = c + 1 := by
  have hb : tickB c p = false := by unfold tickB; simp; omega
  exact ⟨hb, by unfold tickV; rw [hb]; rfl⟩
theorem tick_yes {c p : Nat} (h : p ≤ c + 1) : tickB c p = true ∧ tickV c p = 0 := by
  have hb : tickB c p = true := by unfold tickB; simp; omega
  exact ⟨hb, by unfold tickV; rw [hb]; rfl⟩
theorem countB_impl (c p : Nat) (b : Bool) (w : World) (hc : c < 256) (hp : p < 256) : Calls Tryd.prog 48 #[.int .i64 (c : Int), .int .i64 (p : Int), .bool b, .func (.func 49) #[] #[]] w fun e w' => e = .returned (.tuple #[.int .i64 (tickV c p : Nat), .bool (Bool.xor b (tickB c p))]) ∧ w' = w := by
  by_cases h : p ≤ c + 1
  · obtain ⟨hb, hv⟩ := tick_yes h
    rw [hb, hv]
    have hxr : Hid (Bool.xor b true = !b) := by cases b <;> rfl
    rw [hxr.out]
    by_cases h1 : 1 ≤ p
    · have m1 : max (p : Int) 1 = (p : Int) := by omega
      have m2 : decide ((c : Int) + 1 < (p : Int)) = false := decide_eq_false (by omega)
      clear hb hv
      go_enter Tryd.func48, Tryd.ntmps48
      go_wp2_with (go_at_call 49; refine (turned_impl _ _).mono ?_; rintro e w' ⟨rfl, hww⟩; obtain rfl := hww.symm)
      go_ret2
      exact ⟨rfl, rfl⟩
    · have m1 : max (p : Int) 1 = 1 := by omega
      have m2 : decide ((c : Int) + 1 < 1) = false := decide_eq_false (by omega)
      clear hb hv
      go_enter Tryd.func48, Tryd.ntmps48
      go_wp2_with (go_at_call 49; refine (turned_impl _ _).mono ?_; rintro e w' ⟨rfl, hww⟩; obtain rfl := hww.symm)
      go_ret2
      exact ⟨rfl, rfl⟩
  · obtain ⟨hb, hv⟩ := tick_no h
    rw [hb, hv]
    have hxr : Hid (Bool.xor b false = b) := by cases b <;> rfl
    rw [hxr.out]
    have m1 : max (p : Int) 1 = (p : Int) := by omega
    have m2 : decide ((c : Int) + 1 < (p : Int)) = true := decide_eq_true (by omega)
    clear hb hv
    go_enter Tryd.func48, Tryd.ntmps48
    go_wp2
    go_ret2
    exact ⟨by go_num, rfl⟩
set_option maxRecDepth 100000 in
theorem countS_impl (c p : Nat) (s : Nat) (w : World) (hc : c < 256) (hp : p < 256) (hs : s < 131072) : Calls Tryd.prog 50 #[.int .i64 (c : Int), .int .i64 (p : Int), .int .i64 (s : Int), .func (.func 51) #[] #[]] w fun e w' => e = .returned (.tuple #[.int .i64 (tickV c p : Nat), .int .i64 (if tickB c p = true then ((shN s : Nat) : Int) else (s : Int))]) ∧ w' = w := by
  by_cases h : p ≤ c + 1
  · obtain ⟨hb, hv⟩ := tick_yes h
    rw [hb, hv, if_pos rfl]
    by_cases h1 : 1 ≤ p
    · have m1 : max (p : Int) 1 = (p : Int) := by omega
      have m2 : decide ((c : Int) + 1 < (p : Int)) = false := decide_eq_false (by omega)
      clear hb hv
      go_enter Tryd.func50, Tryd.ntmps50
      go_wp2_with (go_at_call 51; refine (shifted_impl _ _ hs).mono ?_; rintro e w' ⟨rfl, hww⟩; obtain rfl := hww.symm)
      go_ret2
      exact ⟨rfl, rfl⟩
    · have m1 : max (p : Int) 1 = 1 := by omega
      have m2 : decide ((c : Int) + 1 < 1) = false := decide_eq_false (by omega)
      clear hb hv
      go_enter Tryd.func50, Tryd.ntmps50
      go_wp2_with (go_at_call 51; refine (shifted_impl _ _ hs).mono ?_; rintro e w' ⟨rfl, hww⟩; obtain rfl := hww.symm)
      go_ret2
      exact ⟨rfl, rfl⟩
  · obtain ⟨hb, hv⟩ := tick_no h
    rw [hb, hv, if_neg (by decide)]
    have m1 : max (p : Int) 1 = (p : Int) := by omega
    have m2 : decide ((c : Int) + 1 < (p : Int)) = true := decide_eq_true (by omega)
    clear hb hv
    go_enter Tryd.func50, Tryd.ntmps50
    go_wp2
    go_ret2
    exact ⟨by go_num, rfl⟩
theorem clos_impl (b e sh : Nat) (w : World) (he : e < 32) (hsh : sh < 4) (hx : w.cell? ⟨b, 0, none⟩ = some (.int .i64 (sh : Int))) : Calls Tryd.prog 52 #[.int .i64 (e : Int), .pointer (some ⟨b, 0, none⟩)] w fun r w' => r = .returned (.int .i64 (envN sh e : Nat)) ∧ w' = w := by
  go_enter Tryd.func52, Tryd.ntmps52
  go_wp2_with (go_at_call 53; refine (nextenv_impl _ _ _ he hsh).mono ?_; rintro e w' ⟨rfl, hww⟩; obtain rfl := hww.symm)
  go_ret
  exact ⟨rfl, rfl⟩
set_option maxRecDepth 100000 in
theorem countE_impl (c p : Nat) (b x sh : Nat) (w : World) (hc : c < 256) (hp : p < 256) (he : x < 32) (hsh : sh < 4) (hx : w.cell? ⟨b, 0, none⟩ = some (.int .i64 (sh : Int))) : Calls Tryd.prog 50 #[.int .i64 (c : Int), .int .i64 (p : Int), .int .i64 (x : Int), .func (.func 52) #[] #[.pointer (some ⟨b, 0, none⟩)]] w fun e w' => e = .returned (.tuple #[.int .i64 (tickV c p : Nat), .int .i64 (if tickB c p = true then ((envN sh x : Nat) : Int) else (x : Int))]) ∧ w' = w := by
  replace hx := hid hx
  by_cases h : p ≤ c + 1
  · obtain ⟨hb, hv⟩ := tick_yes h
    rw [hb, hv, if_pos rfl]
    by_cases h1 : 1 ≤ p
    · have m1 : max (p : Int) 1 = (p : Int) := by omega
      have m2 : decide ((c : Int) + 1 < (p : Int)) = false := decide_eq_false (by omega)
      clear hb hv
      go_enter Tryd.func50, Tryd.ntmps50
      go_wp2_with (go_at_call 52; refine (clos_impl b x sh _ he hsh hx.out).mono ?_; rintro e w' ⟨rfl, hww⟩; obtain rfl := hww.symm)
      go_ret2
      exact ⟨rfl, rfl⟩
    · have m1 : max (p : Int) 1 = 1 := by omega
      have m2 : decide ((c : Int) + 1 < 1) = false := decide_eq_false (by omega)
      clear hb hv
      go_enter Tryd.func50, Tryd.ntmps50
      go_wp2_with (go_at_call 52; refine (clos_impl b x sh _ he hsh hx.out).mono ?_; rintro e w' ⟨rfl, hww⟩; obtain rfl := hww.symm)
      go_ret2
      exact ⟨rfl, rfl⟩
  · obtain ⟨hb, hv⟩ := tick_no h
    rw [hb, hv, if_neg (by decide)]
    have m1 : max (p : Int) 1 = (p : Int) := by omega
    have m2 : decide ((c : Int) + 1 < (p : Int)) = true := decide_eq_true (by omega)
    clear hb hv
    go_enter Tryd.func50, Tryd.ntmps50
    go_wp2
    go_ret2
    exact ⟨by go_num, rfl⟩
end Go.Proofs.YtjdgfbaioafjcaaDoor
