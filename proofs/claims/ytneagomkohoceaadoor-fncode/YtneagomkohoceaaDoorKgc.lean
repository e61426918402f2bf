/- What the program encodes. -/
import Derived.Test.YtneagomkohoceaaDoorKbc
import Derived.Test.YtneagomkohoceaaDoorKec
import Derived.Test.YtneagomkohoceaaDoorIcc
namespace Go.Proofs.YtneagomkohoceaaDoor
open Go.ChangeShapes Go.WideShapes Go.ChangeAt Go.RowKit
set_option linter.unusedVariables false
set_option linter.unusedSimpArgs false

theorem ok_one {o a b n l : Int} (h : okI o a b n l = true) : b = 0 ∨ n = 0 := by
  have hbo := okI_bd h
  obtain ⟨k, rfl⟩ : ∃ k : Nat, o = (k : Int) := ⟨o.toNat, by omega⟩
  have hk : k < 24 := by omega
  rw [okK_eq k hk] at h
  unfold okK loM hiM whenM at h
  rcases kd_six k hk with ⟨g1, g2, g4, g8, g6⟩ | ⟨g1, g2, g4, g8, g6⟩ | ⟨g1, g2, g4, g8, g6⟩ | ⟨g1, g2, g4, g8, g6⟩ | ⟨g1, g2, g4, g8, g6⟩ | ⟨g1, g2, g4, g8, g6⟩
  all_goals
    rw [g1, g2, g4, g8] at h
    simp [inB] at h
    omega
theorem or_sum (O A : Nat) (hO : O < 24) (hA : A < 8) : bits .or .i64 ((O : Int) * 8) (A : Int) = 8 * (O : Int) + (A : Int) := by
  have e : ((O : Int) * 8) = ((O * 8 : Nat) : Int) := by simp
  rw [e, bOr (O * 8) A (by omega) (by omega)]
  have h := Nat.two_pow_add_eq_or_of_lt (i := 3) (show A < 2 ^ 3 by omega) O
  have e2 : Nat.lor (O * 8) A = 2 ^ 3 * O + A := by rw [h, Nat.mul_comm O 8]; rfl
  rw [e2]
  omega
theorem or_one (B N : Nat) (hB : B < 8) (hN : N < 256) (h : B = 0 ∨ N = 0) : bits .or .i64 (B : Int) (N : Int) = (B : Int) + (N : Int) := by
  rw [bOr B N (by omega) (by omega)]
  rcases h with rfl | rfl
  · have e : Nat.lor 0 N = N := Nat.zero_or N
    rw [e]; omega
  · have e : Nat.lor B 0 = B := Nat.or_zero B
    rw [e]; omega
theorem rowO_1' (W : World) (z : Int) (t : TypeId) : RowO (W.alloc (.cells #[.int .i64 z] t)) W.heap.size (.slice (some ⟨W.heap.size, 0, none⟩) 1 1) [z] := by
  have h := heap_alloc_new W (.cells #[.int .i64 z] t)
  exact rowO_lit (zs := [z]) h (fun i hi => by
    have hi : i < 1 := hi
    obtain rfl : i = 0 := by omega
    rfl)
theorem rowO_2' (W : World) (o2 o3 : Obj) (z y : Int) (X : Array Value) (t : TypeId) (cap : Nat) : RowO (((W.alloc o2).alloc o3).alloc (.cells (#[.int .i64 z, .int .i64 y] ++ X) t)).drew (W.heap.size + 1 + 1) (.slice (some ⟨W.heap.size + 1 + 1, 0, none⟩) 2 cap) [z, y] := by
  have h := heap_alloc_new ((W.alloc o2).alloc o3) (.cells (#[.int .i64 z, .int .i64 y] ++ X) t)
  simp only [World.size_alloc] at h
  exact rowO_lit (zs := [z, y]) h (fun i hi => by
    have hi : i < 2 := hi
    rcases (by omega : i = 0 ∨ i = 1) with rfl | rfl
    · simp [Array.getElem?_append]
    · simp [Array.getElem?_append])
set_option maxRecDepth 100000 in
theorem enc_impl (o a b n l : Int) (w : World) (hK : Kinds w) :
    Calls Tryd.prog 8 #[insV o a b n l] w fun e w' => ∃ u, e = .returned (.tuple #[u, .int .i64 (okIc o a b n l)]) ∧ RowA w' w.heap.size u (encR o a b n l) ∧ Below w.heap.size w w' := by
  obtain ⟨i0, hi0, hz0, hz1, hz2⟩ := info_parts infoE1
  have hb0 := hid ((Below.refl w.heap.size w).alloc (Nat.le_refl _) (.cells (insA o a b n l) 24))
  have hq0 := hid (Blk.new w (insA o a b n l) 24)
  have hk0 := hid (hK.below hb0.out)
  clear hK
  cases hk : okI o a b n l
  · have e1 : okIc o a b n l = 1 := by unfold okIc; rw [hk]; rfl
    have e2 : encR o a b n l = [] := by unfold encR; rw [hk]; rfl
    rw [e1, e2]
    go_enter Tryd.func8, Tryd.ntmps8
    go_wp2_with fail
    refine (insok_impl _ _ _ _ _ _ hk0.out).mono ?_
    rintro e w1 ⟨rfl, hb1⟩
    rw [hk]
    have hb2 := hid (new_trans hb0.out hb1)
    clear hb1 hb0 hq0 hk0
    go_wp2
    go_ret2
    exact ⟨_, rfl, .inl ⟨rfl, _, _, rfl⟩, hb2.out⟩
  have e1 : okIc o a b n l = 0 := by unfold okIc; rw [hk]; rfl
  have e2 : encR o a b n l = encL o a b n l := by unfold encR; rw [if_pos hk]
  rw [e1, e2]
  clear e1 e2
  obtain ⟨h1, h2, h3, h4, h5⟩ := okI_bd hk
  have hon := ok_one hk
  obtain ⟨O, rfl⟩ : ∃ X : Nat, o = (X : Int) := ⟨o.toNat, by omega⟩
  obtain ⟨A, rfl⟩ : ∃ X : Nat, a = (X : Int) := ⟨a.toNat, by omega⟩
  obtain ⟨B, rfl⟩ : ∃ X : Nat, b = (X : Int) := ⟨b.toNat, by omega⟩
  obtain ⟨N, rfl⟩ : ∃ X : Nat, n = (X : Int) := ⟨n.toNat, by omega⟩
  have r1 := or_sum O A (by omega) (by omega)
  have r2 := or_one B N (by omega) (by omega) (by omega)
  have hB1 : Hid (∀ w1 o1, Below w.heap.size w w1 → Below w.heap.size w (w1.alloc o1)) := fun w1 o1 h => h.alloc h.size _
  have hB3 : Hid (∀ w1 o1 o2 o3, Below w.heap.size w w1 → Below w.heap.size w (((w1.alloc o1).alloc o2).alloc o3).drew) := fun w1 o1 o2 o3 h => (((h.alloc h.size _).alloc (by have := h.size; simp; omega) _).alloc (by have := h.size; simp; omega) _).drew
  by_cases h23 : O = 23
  · subst h23
    have e : encL ((23 : Nat) : Int) A B N l = [(N : Int)] := rfl
    rw [e]
    clear e r1 r2
    have hk' : okI 23 (A : Int) B N l = true := hk
    go_enter Tryd.func8, Tryd.ntmps8
    go_wp2_with fail
    refine (insok_impl _ _ _ _ _ _ hk0.out).mono ?_
    rintro e w1 ⟨rfl, hb1⟩
    rw [hk']
    have hb2 := hid (new_trans hb0.out hb1)
    have hq2 := hid (hq0.out.below hb1 hq0.out.lt)
    have x1 := hq2.out.cell
    clear hb1 hb0 hq0 hk0 hk hk' h5 hon
    go_wp2
    go_ret2
    exact ⟨_, rfl, .inr ⟨_, hb2.out.size, rowO_1' _ _ _⟩, hB1.out _ _ hb2.out⟩
  have hn : ((O : Int) == 23) = false := by simp; omega
  rcases h5 with rfl | rfl
  · have e : encL O A B N 1 = [8 * (O : Int) + A] := by unfold encL; rw [if_neg (by omega)]; rfl
    rw [e]
    clear e r2
    generalize 8 * (O : Int) + A = z at *
    go_enter Tryd.func8, Tryd.ntmps8
    go_wp2_with fail
    refine (insok_impl _ _ _ _ _ _ hk0.out).mono ?_
    rintro e w1 ⟨rfl, hb1⟩
    rw [hk]
    have hb2 := hid (new_trans hb0.out hb1)
    have hq2 := hid (hq0.out.below hb1 hq0.out.lt)
    have x1 := hq2.out.cell
    have z1 := hq2.out.lt
    clear hb1 hb0 hq0 hk0 hk hon
    go_wp2
    go_ret2
    exact ⟨_, rfl, .inr ⟨_, hb2.out.size, rowO_1' _ _ _⟩, hB1.out _ _ hb2.out⟩
  · have e : encL O A B N 2 = [8 * (O : Int) + A, (B : Int) + N] := by unfold encL; rw [if_neg (by omega)]; rfl
    rw [e]
    clear e
    generalize 8 * (O : Int) + A = z at *
    generalize (B : Int) + N = y at *
    go_enter Tryd.func8, Tryd.ntmps8
    go_wp2_with fail
    refine (insok_impl _ _ _ _ _ _ hk0.out).mono ?_
    rintro e w1 ⟨rfl, hb1⟩
    rw [hk]
    have hb2 := hid (new_trans hb0.out hb1)
    have hq2 := hid (hq0.out.below hb1 hq0.out.lt)
    have x1 := hq2.out.cell
    have z1 := hq2.out.lt
    have s1 := hb2.out.size
    clear hb1 hb0 hq0 hk0 hk hon
    go_wp2_with fail
    go_ret2
    exact ⟨_, rfl, .inr ⟨_, by omega, rowO_2' _ _ _ _ _ _ _ _⟩, hB3.out _ _ _ _ hb2.out⟩
end Go.Proofs.YtneagomkohoceaaDoor
