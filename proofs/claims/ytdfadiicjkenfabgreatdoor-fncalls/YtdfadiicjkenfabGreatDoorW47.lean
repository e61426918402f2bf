/- The laws' choice 'at' out of the bytes that came in: it is a number of these bytes alone, in its bounds; beside the source. -/
import Derived.Test.YtdfadiicjkenfabGreatDoorSrcw
import Derived.Deep.DrawnRows
import Derived.OpenShut
import Derived.Test.YtdfadiicjkenfabGreatDoorW08
import Derived.Test.YtdfadiicjkenfabGreatDoorKbw
import Derived.Test.YtdfadiicjkenfabGreatDoorKew
namespace Go.Proofs.YtdfadiicjkenfabGreatDoor
open Go.ChangeShapes Go.WideShapes Go.ChangeAt Go.RowKit
set_option linter.unusedVariables false

/-- the i-th byte of a slice that came in -/
def atB (w : World) (a : Option Addr) (i : Nat) : Int :=
  match a with
  | some x => (match w.cell? ⟨x.block, x.off + i, none⟩ with
    | some (.int _ c) => c
    | _ => 0)
  | none => 0
/-- what 'at' chooses -/
def atV (w : World) (a : Option Addr) (len i : Nat) (n : Int) : Int :=
  if n ≤ 1 then 0 else if len = 0 then (i : Int) * 7 % n else (atB w a (i % len) * 31 + atB w a ((i + 1) % len) + ((i / len : Nat) : Int)) % n
theorem atV_below {w w' : World} {B : Nat} {a : Option Addr} {len : Nat} (h : CodeAt w B a len) (hb : Below B w w') (i : Nat) (n : Int) : atV w' a len i n = atV w a len i n := by
  unfold atV
  split
  · rfl
  · split
    · rfl
    · rename_i h1 h0
      rcases h with h | ⟨b, off, rfl, hb1, hc⟩
      · omega
      · have k : ∀ j, atB w' (some ⟨b, off, none⟩) j = atB w (some ⟨b, off, none⟩) j := by
          intro j
          unfold atB
          simp only
          rw [hb.cell (p := ⟨b, off + j, none⟩) hb1]
        rw [k, k]
theorem atV_bd {w : World} {a : Option Addr} {len i : Nat} {n : Int} (h : 2 ≤ n) : 0 ≤ atV w a len i n ∧ atV w a len i n < n := by
  unfold atV
  rw [if_neg (by omega)]
  split
  · exact ⟨Int.emod_nonneg _ (by omega), Int.emod_lt_of_pos _ (by omega)⟩
  · exact ⟨Int.emod_nonneg _ (by omega), Int.emod_lt_of_pos _ (by omega)⟩

set_option maxRecDepth 100000 in
theorem at_val (a : Option Addr) (len cap : Nat) (i : Nat) (n : Int) (B : Nat) (w : World) (hc : CodeAt w B a len) (hl : len ≤ 1048576) (hi : i ≤ 1000000) (hn : n ≤ 1000000000) :
    Calls Tryz.prog 7 #[.slice a len cap, .int .i64 i, .int .i64 n] w fun e w' => e = .returned (.int .i64 (atV w a len i n)) ∧ Below B w w' := by
  by_cases h1 : n ≤ 1
  · have e : atV w a len i n = 0 := by unfold atV; rw [if_pos h1]
    rw [e]
    go_enter Tryz.func7, Tryz.ntmps7
    go_wp2
    go_ret
    exact ⟨rfl, Below.refl _ _⟩
  · by_cases h0 : len = 0
    · have e : atV w a len i n = (i : Int) * 7 % n := by unfold atV; rw [if_neg h1, if_pos h0]
      rw [e]
      subst h0
      clear e
      go_enter Tryz.func7, Tryz.ntmps7
      go_wp2
      go_ret
      exact ⟨rfl, Below.refl _ _⟩
    · rcases hc with h | ⟨b, off, rfl, hb, hc⟩
      · omega
      have hlp : (0 : Int) < (len : Int) := by omega
      have hlne : ((len : Int) == 0) = false := by simp; omega
      have hq1 : (i : Int) % (len : Int) = ((i % len : Nat) : Int) := by simp
      have hq2 : ((i : Int) + 1) % (len : Int) = (((i + 1) % len : Nat) : Int) := by simp
      have hq3 : (i : Int) / (len : Int) = ((i / len : Nat) : Int) := by simp
      have hq1b : i % len < len := Nat.mod_lt _ (by omega)
      have hq2b : (i + 1) % len < len := Nat.mod_lt _ (by omega)
      have hq3b : i / len ≤ 1000000 := Nat.le_trans (Nat.div_le_self _ _) hi
      obtain ⟨c1, hc10, hc11, hc12⟩ := hc (i % len) hq1b
      obtain ⟨c2, hc20, hc21, hc22⟩ := hc ((i + 1) % len) hq2b
      have e : atV w (some ⟨b, off, none⟩) len i n = (c1 * 31 + c2 + ((i / len : Nat) : Int)) % n := by
        unfold atV
        rw [if_neg h1, if_neg h0]
        have k1 : atB w (some ⟨b, off, none⟩) (i % len) = c1 := by unfold atB; simp only; rw [hc12]
        have k2 : atB w (some ⟨b, off, none⟩) ((i + 1) % len) = c2 := by unfold atB; simp only; rw [hc22]
        rw [k1, k2]
      rw [e]
      clear e hc
      generalize i % len = q1 at *
      generalize (i + 1) % len = q2 at *
      generalize i / len = q3 at *
      go_enter Tryz.func7, Tryz.ntmps7
      go_wp2
      go_region
      go_wp2
      go_ret
      exact ⟨rfl, (Below.refl _ _).drew⟩
end Go.Proofs.YtdfadiicjkenfabGreatDoor

/- What the specification encodes, and how long an instruction takes. -/
namespace Go.Proofs.YtdfadiicjkenfabGreatDoor
open Go.ChangeShapes Go.WideShapes Go.ChangeAt Go.RowKit
set_option linter.unusedVariables false
set_option linter.unusedSimpArgs false

/-- a row that is answered: empty, or in a block of its own from lo on -/
def RowA (w : World) (lo : Nat) (v : Value) (zs : List Int) : Prop := (zs = [] ∧ ∃ a c, v = .slice a 0 c) ∨ ∃ g, lo ≤ g ∧ RowO w g v zs
theorem RowA.reads {w : World} {lo : Nat} {v : Value} {zs : List Int} (h : RowA w lo v zs) : RowR w v zs := by
  rcases h with ⟨rfl, a, c, rfl⟩ | ⟨g, _, h⟩
  · exact ⟨a, c, rfl, .inl rfl⟩
  · exact h.reads
/-- the bytes of an instruction -/
def encL (o a b n l : Int) : List Int := if o = 23 then [n] else if l = 2 then [8 * o + a, b + n] else [8 * o + a]
def encR (o a b n l : Int) : List Int := if okI o a b n l = true then encL o a b n l else []
def okIc (o a b n l : Int) : Int := if okI o a b n l = true then 0 else 1
theorem okI_bd {o a b n l : Int} (h : okI o a b n l = true) : (0 ≤ o ∧ o ≤ 23) ∧ (0 ≤ a ∧ a ≤ 7) ∧ (0 ≤ b ∧ b ≤ 7) ∧ (0 ≤ n ∧ n ≤ 255) ∧ (l = 1 ∨ l = 2) := by
  unfold okI at h
  split at h
  · rename_i e
    simp [inB] at h
    omega
  · have hA := bitI_bd (hasC o.toNat 65)
    have hB := bitI_bd (hasC o.toNat 66)
    have hN := bitI_bd (hasC o.toNat 78)
    have hL := bitI_bd (hasC o.toNat 66 || hasC o.toNat 78)
    simp only [inB, Bool.and_eq_true, decide_eq_true_eq] at h
    omega
theorem rowO_lit {W : World} {cs : Array Value} {t : TypeId} {zs : List Int} {g cap : Nat} (hg : W.heap[g]? = some (.cells cs t (0, 0))) (hc : ∀ i, i < zs.length → cs[i]? = some (.int .i64 (zs.getD i 0))) : RowO W g (.slice (some ⟨g, 0, none⟩) zs.length cap) zs := ⟨cap, cs, t, rfl, hg, hc⟩
theorem rowO_1 (w : World) (o1 : Obj) (z : Int) (t : TypeId) : RowO ((w.alloc o1).alloc (.cells #[.int .i64 z] t)) (w.heap.size + 1) (.slice (some ⟨w.heap.size + 1, 0, none⟩) 1 1) [z] := by
  have h := heap_alloc_new (w.alloc o1) (.cells #[.int .i64 z] t)
  rw [World.size_alloc] at h
  exact rowO_lit (zs := [z]) h (fun i hi => by
    have hi : i < 1 := hi
    obtain rfl : i = 0 := by omega
    rfl)
theorem rowO_2 (w : World) (o1 o2 o3 : Obj) (z y : Int) (X : Array Value) (t : TypeId) (cap : Nat) : RowO ((((w.alloc o1).alloc o2).alloc o3).alloc (.cells (#[.int .i64 z, .int .i64 y] ++ X) t)).drew (w.heap.size + 1 + 1 + 1) (.slice (some ⟨w.heap.size + 1 + 1 + 1, 0, none⟩) 2 cap) [z, y] := by
  have h := heap_alloc_new (((w.alloc o1).alloc o2).alloc o3) (.cells (#[.int .i64 z, .int .i64 y] ++ X) t)
  simp only [World.size_alloc] at h
  exact rowO_lit (zs := [z, y]) h (fun i hi => by
    have hi : i < 2 := hi
    rcases (by omega : i = 0 ∨ i = 1) with rfl | rfl
    · simp [Array.getElem?_append]
    · simp [Array.getElem?_append])
theorem infoE1 : (Tryz.prog.info? 3).map (fun i => (i.zero, i.size, i.bytes)) = some (some (.int .i64 0), 1, 8) := by kernel_rfl
end Go.Proofs.YtdfadiicjkenfabGreatDoor

/- What the program encodes. -/
namespace Go.Proofs.YtdfadiicjkenfabGreatDoor
open Go.ChangeShapes Go.WideShapes Go.ChangeAt Go.RowKit
set_option linter.unusedVariables false
set_option linter.unusedSimpArgs false

theorem ok_one {o a b n l : Int} (h : okI o a b n l = true) : b = 0 ∨ n = 0 := by
  have hbo := okI_bd h
  obtain ⟨k, rfl⟩ : ∃ k : Nat, o = (k : Int) := ⟨o.toNat, by omega⟩
  have hk : k < 24 := by omega
  rw [okK_eq k hk] at h
  unfold okK loM hiM whenM at h
  rcases kd_six k hk with ⟨g1, g2, g4, g8, g6⟩ | ⟨g1, g2, g4, g8, g6⟩ | ⟨g1, g2, g4, g8, g6⟩ | ⟨g1, g2, g4, g8, g6⟩ | ⟨g1, g2, g4, g8, g6⟩ | ⟨g1, g2, g4, g8, g6⟩
  all_goals
    rw [g1, g2, g4, g8] at h
    simp [inB] at h
    omega
theorem or_sum (O A : Nat) (hO : O < 24) (hA : A < 8) : bits .or .i64 ((O : Int) * 8) (A : Int) = 8 * (O : Int) + (A : Int) := by
  have e : ((O : Int) * 8) = ((O * 8 : Nat) : Int) := by simp
  rw [e, bOr (O * 8) A (by omega) (by omega)]
  have h := Nat.two_pow_add_eq_or_of_lt (i := 3) (show A < 2 ^ 3 by omega) O
  have e2 : Nat.lor (O * 8) A = 2 ^ 3 * O + A := by rw [h, Nat.mul_comm O 8]; rfl
  rw [e2]
  omega
theorem or_one (B N : Nat) (hB : B < 8) (hN : N < 256) (h : B = 0 ∨ N = 0) : bits .or .i64 (B : Int) (N : Int) = (B : Int) + (N : Int) := by
  rw [bOr B N (by omega) (by omega)]
  rcases h with rfl | rfl
  · have e : Nat.lor 0 N = N := Nat.zero_or N
    rw [e]; omega
  · have e : Nat.lor B 0 = B := Nat.or_zero B
    rw [e]; omega
theorem rowO_1' (W : World) (z : Int) (t : TypeId) : RowO (W.alloc (.cells #[.int .i64 z] t)) W.heap.size (.slice (some ⟨W.heap.size, 0, none⟩) 1 1) [z] := by
  have h := heap_alloc_new W (.cells #[.int .i64 z] t)
  exact rowO_lit (zs := [z]) h (fun i hi => by
    have hi : i < 1 := hi
    obtain rfl : i = 0 := by omega
    rfl)
theorem rowO_2' (W : World) (o2 o3 : Obj) (z y : Int) (X : Array Value) (t : TypeId) (cap : Nat) : RowO (((W.alloc o2).alloc o3).alloc (.cells (#[.int .i64 z, .int .i64 y] ++ X) t)).drew (W.heap.size + 1 + 1) (.slice (some ⟨W.heap.size + 1 + 1, 0, none⟩) 2 cap) [z, y] := by
  have h := heap_alloc_new ((W.alloc o2).alloc o3) (.cells (#[.int .i64 z, .int .i64 y] ++ X) t)
  simp only [World.size_alloc] at h
  exact rowO_lit (zs := [z, y]) h (fun i hi => by
    have hi : i < 2 := hi
    rcases (by omega : i = 0 ∨ i = 1) with rfl | rfl
    · simp [Array.getElem?_append]
    · simp [Array.getElem?_append])
set_option maxRecDepth 100000 in
theorem enc_impl (o a b n l : Int) (w : World) (hK : Kinds w) :
    Calls Tryz.prog 17 #[insV o a b n l] w fun e w' => ∃ u, e = .returned (.tuple #[u, .int .i64 (okIc o a b n l)]) ∧ RowA w' w.heap.size u (encR o a b n l) ∧ Below w.heap.size w w' := by
  obtain ⟨i0, hi0, hz0, hz1, hz2⟩ := info_parts infoE1
  have hb0 := hid ((Below.refl w.heap.size w).alloc (Nat.le_refl _) (.cells (insA o a b n l) 49))
  have hq0 := hid (Blk.new w (insA o a b n l) 49)
  have hk0 := hid (hK.below hb0.out)
  clear hK
  cases hk : okI o a b n l
  · have e1 : okIc o a b n l = 1 := by unfold okIc; rw [hk]; rfl
    have e2 : encR o a b n l = [] := by unfold encR; rw [hk]; rfl
    rw [e1, e2]
    go_enter Tryz.func17, Tryz.ntmps17
    go_wp2_with fail
    refine (insok_impl _ _ _ _ _ _ hk0.out).mono ?_
    rintro e w1 ⟨rfl, hb1⟩
    rw [hk]
    have hb2 := hid (new_trans hb0.out hb1)
    clear hb1 hb0 hq0 hk0
    go_wp2
    go_ret2
    exact ⟨_, rfl, .inl ⟨rfl, _, _, rfl⟩, hb2.out⟩
  have e1 : okIc o a b n l = 0 := by unfold okIc; rw [hk]; rfl
  have e2 : encR o a b n l = encL o a b n l := by unfold encR; rw [if_pos hk]
  rw [e1, e2]
  clear e1 e2
  obtain ⟨h1, h2, h3, h4, h5⟩ := okI_bd hk
  have hon := ok_one hk
  obtain ⟨O, rfl⟩ : ∃ X : Nat, o = (X : Int) := ⟨o.toNat, by omega⟩
  obtain ⟨A, rfl⟩ : ∃ X : Nat, a = (X : Int) := ⟨a.toNat, by omega⟩
  obtain ⟨B, rfl⟩ : ∃ X : Nat, b = (X : Int) := ⟨b.toNat, by omega⟩
  obtain ⟨N, rfl⟩ : ∃ X : Nat, n = (X : Int) := ⟨n.toNat, by omega⟩
  have r1 := or_sum O A (by omega) (by omega)
  have r2 := or_one B N (by omega) (by omega) (by omega)
  have hB1 : Hid (∀ w1 o1, Below w.heap.size w w1 → Below w.heap.size w (w1.alloc o1)) := fun w1 o1 h => h.alloc h.size _
  have hB3 : Hid (∀ w1 o1 o2 o3, Below w.heap.size w w1 → Below w.heap.size w (((w1.alloc o1).alloc o2).alloc o3).drew) := fun w1 o1 o2 o3 h => (((h.alloc h.size _).alloc (by have := h.size; simp; omega) _).alloc (by have := h.size; simp; omega) _).drew
  by_cases h23 : O = 23
  · subst h23
    have e : encL ((23 : Nat) : Int) A B N l = [(N : Int)] := rfl
    rw [e]
    clear e r1 r2
    have hk' : okI 23 (A : Int) B N l = true := hk
    go_enter Tryz.func17, Tryz.ntmps17
    go_wp2_with fail
    refine (insok_impl _ _ _ _ _ _ hk0.out).mono ?_
    rintro e w1 ⟨rfl, hb1⟩
    rw [hk']
    have hb2 := hid (new_trans hb0.out hb1)
    have hq2 := hid (hq0.out.below hb1 hq0.out.lt)
    have x1 := hq2.out.cell
    clear hb1 hb0 hq0 hk0 hk hk' h5 hon
    go_wp2
    go_ret2
    exact ⟨_, rfl, .inr ⟨_, hb2.out.size, rowO_1' _ _ _⟩, hB1.out _ _ hb2.out⟩
  have hn : ((O : Int) == 23) = false := by simp; omega
  rcases h5 with rfl | rfl
  · have e : encL O A B N 1 = [8 * (O : Int) + A] := by unfold encL; rw [if_neg (by omega)]; rfl
    rw [e]
    clear e r2
    generalize 8 * (O : Int) + A = z at *
    go_enter Tryz.func17, Tryz.ntmps17
    go_wp2_with fail
    refine (insok_impl _ _ _ _ _ _ hk0.out).mono ?_
    rintro e w1 ⟨rfl, hb1⟩
    rw [hk]
    have hb2 := hid (new_trans hb0.out hb1)
    have hq2 := hid (hq0.out.below hb1 hq0.out.lt)
    have x1 := hq2.out.cell
    have z1 := hq2.out.lt
    clear hb1 hb0 hq0 hk0 hk hon
    go_wp2
    go_ret2
    exact ⟨_, rfl, .inr ⟨_, hb2.out.size, rowO_1' _ _ _⟩, hB1.out _ _ hb2.out⟩
  · have e : encL O A B N 2 = [8 * (O : Int) + A, (B : Int) + N] := by unfold encL; rw [if_neg (by omega)]; rfl
    rw [e]
    clear e
    generalize 8 * (O : Int) + A = z at *
    generalize (B : Int) + N = y at *
    go_enter Tryz.func17, Tryz.ntmps17
    go_wp2_with fail
    refine (insok_impl _ _ _ _ _ _ hk0.out).mono ?_
    rintro e w1 ⟨rfl, hb1⟩
    rw [hk]
    have hb2 := hid (new_trans hb0.out hb1)
    have hq2 := hid (hq0.out.below hb1 hq0.out.lt)
    have x1 := hq2.out.cell
    have z1 := hq2.out.lt
    have s1 := hb2.out.size
    clear hb1 hb0 hq0 hk0 hk hon
    go_wp2_with fail
    go_ret2
    exact ⟨_, rfl, .inr ⟨_, by omega, rowO_2' _ _ _ _ _ _ _ _⟩, hB3.out _ _ _ _ hb2.out⟩
end Go.Proofs.YtdfadiicjkenfabGreatDoor
