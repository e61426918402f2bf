/- A drawn text of runs. -/
import Derived.Test.YthobggihlbcnmaaDoorSrc
import Derived.Test.YthobggihlbcnmaaDoorBl
import Derived.Deep.DeepCutAuto
namespace Go.Proofs.YthobggihlbcnmaaDoor
open Go.ChangeShapes Go.WideShapes Go.ChangeAt Go.RowKit
set_option linter.unusedVariables false
set_option linter.unusedSimpArgs false

theorem glinkL {a b c : World} {r : Option Nat} (h : a.grownBy b r) (k : b.grownBy c r) : a.grownBy c r :=
  ⟨k.os.trans h.os, k.tape.trans h.tape, k.output.trans h.output, Nat.le_trans h.size k.size, fun i hi hne => (k.block i (Nat.lt_of_lt_of_le hi h.size) hne).trans (h.block i hi hne)⟩
abbrev five : Array Value := #[.string ⟨#[237]⟩, .string ⟨#[237]⟩, .string ⟨#[97]⟩, .string ⟨#[98]⟩, .string ⟨#[0]⟩]
theorem five_at {j : Nat} (h : j < 5) : ∃ s : ByteArray, five[j]? = some (.string s) ∧ s.size = 1 := by
  rcases (by omega : j = 0 ∨ j = 1 ∨ j = 2 ∨ j = 3 ∨ j = 4) with rfl | rfl | rfl | rfl | rfl
  all_goals exact ⟨_, rfl, rfl⟩
set_option maxRecDepth 100000 in
set_option maxHeartbeats 1000000 in
theorem pick_any (p : Nat) (a0 : Option Addr) (len cap n g : Nat) (w : World) (hs : Src w p a0 len cap n) (hn : n + 3 ≤ 1000000000) (hq : Blk w g five) (hg : g ≠ p) :
    Calls Tryd.prog 27 #[.pointer (some ⟨p, 0, none⟩), .slice (some ⟨g, 0, none⟩) 5 5] w fun e w' => (∃ s : ByteArray, e = .returned (.string s) ∧ s.size = 1) ∧ (∃ n', n' ≤ n + 3 ∧ Src w' p a0 len cap n') ∧ w.grownBy w' (some p) := by
  have hN := hid (next_any p a0 len cap n 5 w hs hn)
  replace hq := hid hq
  clear hs
  go_enter Tryd.func27, Tryd.ntmps27
  go_wp2_with fail
  refine hN.out.mono ?_
  rintro e w1 ⟨⟨y, rfl, y0, _, y1⟩, hs1, hg1⟩
  have y2 := y1 (by omega)
  obtain ⟨j, rfl⟩ : ∃ j : Nat, y = (j : Int) := ⟨y.toNat, by omega⟩
  obtain ⟨s, hsj, hs2⟩ := five_at (show j < 5 by omega)
  have xj := (hq.out.grown hg1 (by simpa using hg)).cell j
  rw [hsj] at xj
  have hj5 : (j : Int) < 5 := by omega
  replace hs1 := hid hs1
  replace hg1 := hid hg1
  clear hN hq y1 hsj
  go_wp2
  go_ret
  exact ⟨⟨s, rfl, hs2⟩, hs1.out, hg1.out⟩
set_option maxRecDepth 100000 in
set_option maxHeartbeats 4000000 in
theorem runs_any (p : Nat) (a0 : Option Addr) (len cap n : Nat) (w : World) (hs : Src w p a0 len cap n) (hn : n ≤ 50000) :
    Calls Tryd.prog 14 #[.pointer (some ⟨p, 0, none⟩)] w fun e w' => (∃ s : ByteArray, e = .returned (.string s) ∧ s.size ≤ 1350) ∧ (∃ n', n' ≤ n + 100 ∧ Src w' p a0 len cap n') ∧ w.grownBy w' (some p) := by
  have hN := hid (next_any p a0 len cap n 6 w hs (by omega))
  have hp : Hid (p < w.heap.size) := hs.lt
  clear hs
  go_enter Tryd.func14, Tryd.ntmps14
  go_wp2_with fail
  refine hN.out.mono ?_
  rintro e w1 ⟨⟨y, rfl, y0, _, y1⟩, ⟨n1, hn1, hs1⟩, hg1⟩
  have y2 := y1 (by omega)
  obtain ⟨m, rfl⟩ : ∃ m : Nat, y = (m : Int) := ⟨y.toNat, by omega⟩
  have hm : m ≤ 5 := by omega
  replace hs1 := hid hs1
  replace hg1 := hid hg1
  clear hN y0 y1 y2
  go_wp2
  go_loopw [3, 4] (fun v iv wr => ∃ (i : Nat) (T : ByteArray) (n' : Nat), iv = .int .i64 (i : Int) ∧ v = .string T ∧ i ≤ 5 ∧ T.size + 270 * i ≤ 1350 ∧ n' + 15 * i ≤ n + 80 ∧ Src wr p a0 len cap n' ∧ w.grownBy wr (some p)) (fun _ iv _ => (intOf iv).toNat)
  case atStart => exact ⟨m, ⟨#[]⟩, n1, rfl, rfl, hm, by show 0 + 270 * m ≤ 1350; omega, by omega, hs1.out, hg1.out⟩
  case round =>
    obtain ⟨i, T, n2, rfl, rfl, hi, hT, hn2, hs2, hg2⟩ := hrel
    clear hs1 hg1
    by_cases h0 : i = 0
    · subst h0
      replace hs2 := hid hs2
      replace hg2 := hid hg2
      go_wp2
      go_ret
      exact ⟨⟨T, rfl, by omega⟩, ⟨n2, by omega, hs2.out⟩, hg2.out⟩
    · have c0 : (0 : Int) < (i : Int) := by omega
      have hal := World.grownBy_alloc wr (.cells five 9) (some p)
      have hs3 := hs2.kept (World.grownBy_alloc wr (.cells five 9) none) (fun g hg => by cases hg)
      have hpw : p < wr.heap.size := hs2.lt
      have hP := hid (pick_any p a0 len cap n2 wr.heap.size _ hs3 (by omega) (Blk.new wr five 9) (by omega))
      have g3 := hid (glinkL hg2 hal)
      clear hs2 hg2 hs3 hal
      go_wp2_with fail
      refine hP.out.mono ?_
      rintro e w4 ⟨⟨s, rfl, hs1⟩, ⟨n4, hn4, hs4⟩, hg4⟩
      have g4 := hid (glinkL g3.out hg4)
      have hN1 := hid (next_any p a0 len cap n4 8 w4 hs4 (by omega))
      clear hP hg4 g3 hs4 hpw
      go_wp2_with fail
      refine hN1.out.mono ?_
      rintro e w5 ⟨⟨y, rfl, y0, _, y1⟩, ⟨n5, hn5, hs5⟩, hg5⟩
      have y2 := y1 (by omega)
      have g5 := hid (glinkL g4.out hg5)
      have hN2 := hid (next_any p a0 len cap n5 12 w5 hs5 (by omega))
      clear hN1 hg5 g4 hs5 y1
      go_wp2_with fail
      refine hN2.out.mono ?_
      rintro e w6 ⟨⟨z, rfl, z0, _, z1⟩, ⟨n6, hn6, hs6⟩, hg6⟩
      have z2 := z1 (by omega)
      have g6 := glinkL g5.out hg6
      obtain ⟨yy, hyy⟩ : ∃ y' : Int, 1 + y = y' := ⟨_, rfl⟩
      obtain ⟨zz, hzz⟩ : ∃ z' : Int, 250 + z = z' := ⟨_, rfl⟩
      have hal := World.grownBy_alloc w6 (.cells #[.int .i64 1, .int .i64 yy, .int .i64 zz] 3) (some p)
      have hs7 := hs6.kept (World.grownBy_alloc w6 (.cells #[.int .i64 1, .int .i64 yy, .int .i64 zz] 3) none) (fun g hg => by cases hg)
      have hq7 := hid (Blk.new w6 #[.int .i64 1, .int .i64 yy, .int .i64 zz] 3)
      have hpw : Hid (p < w6.heap.size) := hs6.lt
      have g7 := hid (glinkL g6 hal)
      have hN3 := hid (next_any p a0 len cap n6 19 _ hs7 (by omega))
      have hyb : 1 ≤ yy ∧ yy ≤ 8 := by omega
      have hzb : 1 ≤ zz ∧ zz ≤ 261 := by omega
      clear hN2 hg6 g5 hs6 z1 hal hs7 g6
      go_wp2_with fail
      refine hN3.out.mono ?_
      rintro e w8 ⟨⟨x, rfl, x0, _, x1⟩, ⟨n8, hn8, hs8⟩, hg8⟩
      have x2 := x1 (by omega)
      obtain ⟨xx, rfl⟩ : ∃ k : Nat, x = (k : Int) := ⟨x.toNat, by omega⟩
      have g8 := hid (glinkL g7.out hg8)
      have q8 := hq7.out.grown hg8 (by have := hpw.out; simp; omega)
      obtain ⟨d, hd⟩ : ∃ d : Nat, xx / 9 = d := ⟨_, rfl⟩
      have hdI : ((xx : Int)).tdiv 9 = (d : Int) := by rw [Int.tdiv_eq_ediv_of_nonneg (by omega)]; omega
      have hdI2 : ((xx : Int)) / 9 = (d : Int) := by omega
      have hd3 : d < 3 := by omega
      obtain ⟨K, hKe, hKb⟩ : ∃ K : Int, (#[.int .i64 1, .int .i64 yy, .int .i64 zz] : Array Value)[d]? = some (.int .i64 K) ∧ (1 ≤ K ∧ K ≤ 261) := by
        rcases (by omega : d = 0 ∨ d = 1 ∨ d = 2) with rfl | rfl | rfl
        · exact ⟨1, rfl, by omega, by omega⟩
        · exact ⟨yy, rfl, by omega, by omega⟩
        · exact ⟨zz, rfl, by omega, by omega⟩
      have x8 := q8.cell d
      rw [hKe] at x8
      have hd3I : (d : Int) < 3 := by omega
      replace hs8 := hid hs8
      clear hN3 hg8 g7 hq7 x1 hKe q8 hpw
      obtain ⟨KN, rfl⟩ : ∃ k : Nat, K = (k : Int) := ⟨K.toNat, by omega⟩
      go_wp2
      go_loop [3, 6] (fun v kv => ∃ (k : Nat) (T' : ByteArray), kv = .int .i64 (k : Int) ∧ v = .string T' ∧ k ≤ 261 ∧ T'.size + k ≤ T.size + 261) (fun _ kv => (intOf kv).toNat)
      case atStart => exact ⟨KN, T, rfl, rfl, by omega, by omega⟩
      case round =>
        obtain ⟨k, T', rfl, rfl, hk, hT'⟩ := hrel
        by_cases hk0 : k = 0
        · subst hk0
          go_wp2
          go_roundw
          case rel => exact ⟨i - 1, T', n8, by first | rfl | (congr 1; omega), rfl, by omega, by omega, by omega, hs8.out, g8.out⟩
          case measure => simp [intOf]; omega
        · have ck : (0 : Int) < (k : Int) := by omega
          have hcat : ¬ 9223372036854775807 < T'.size + s.size := by omega
          have hsz : (T' ++ s).size = T'.size + 1 := by rw [ByteArray.size_append, hs1]
          replace hsz := hid hsz
          go_wp2
          go_round
          case rel => exact ⟨k - 1, T' ++ s, by first | rfl | (congr 1; omega), rfl, by omega, by rw [hsz.out]; omega⟩
          case measure => simp [intOf]; omega
theorem runsdrawn_any (a : Option Addr) (len cap : Nat) (w : World) (hc : CodeAt w w.heap.size a len) (hl : len ≤ 1048576) :
    Calls Tryd.prog 5 #[.slice a len cap] w fun e w' => (∃ s : ByteArray, e = .returned (.string s) ∧ s.size ≤ 1350) ∧ Below w.heap.size w w' := by
  have hS := hid (source_any a len cap w hc hl)
  go_enter Tryd.func5, Tryd.ntmps5
  go_wp2_with fail
  refine hS.out.mono ?_
  rintro e w1 ⟨rfl, hs1, hg1⟩
  have hB := hid (runs_any w.heap.size a len cap 0 w1 hs1 (by omega))
  have hz1 := hg1.size
  replace hg1 := hid hg1
  clear hS hs1
  go_wp2_with fail
  refine hB.out.mono ?_
  rintro e w2 ⟨⟨s, rfl, hs⟩, _, hg2⟩
  have hbel : Hid (Below w.heap.size w w2) := ⟨hg2.os.trans hg1.out.os, hg2.tape.trans hg1.out.tape, hg2.output.trans hg1.out.output, Nat.le_trans hz1 hg2.size, fun k hk => (hg2.block k (by omega) (by simp; omega)).trans (hg1.out.block k hk (by simp))⟩
  clear hg2 hB
  go_wp2
  go_ret
  exact ⟨⟨s, rfl, hs⟩, hbel.out⟩
end Go.Proofs.YthobggihlbcnmaaDoor
