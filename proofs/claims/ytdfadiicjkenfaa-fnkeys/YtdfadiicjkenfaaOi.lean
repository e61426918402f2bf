/- Ports that a law draws out of the bytes that came in. -/
import Derived.Test.YtdfadiicjkenfaaOh
import Derived.ChangeKeysEq
namespace Go.Proofs.Ytdfadiicjkenfaa
open Go.ChangeShapes Go.WideShapes Go.ChangeAt Go.RowKit
set_option linter.unusedVariables false
set_option linter.unusedSimpArgs false

set_option maxRecDepth 100000 in
theorem portsdrawn_any (a : Option Addr) (len cap : Nat) (w : World) (hc : CodeAt w w.heap.size a len) (hl : len ≤ 1048576) :
    Calls Try.prog 13 #[.slice a len cap] w fun e w' => ∃ c : Po, e = .returned (poV c) ∧ okP c = true ∧ Below w.heap.size w w' := by
  have hc1 : Hid (∀ o, CodeAt (w.alloc o) (w.alloc o).heap.size a len) := fun o => hc.below ((Below.refl _ _).alloc (Nat.le_refl _) o) (by simp)
  clear hc
  go_enter Try.func13, Try.ntmps13
  go_wp2_with fail
  refine (source_any a len cap _ (hc1.out _) hl).mono ?_
  rintro e w1 ⟨rfl, hs1, hg1⟩
  rw [World.size_alloc] at hs1 ⊢
  have q1 := (Blk.new w (poA zeP) 26).grown hg1 (by simp)
  have hB1 : Below w.heap.size w w1 := ((Below.refl _ _).alloc (Nat.le_refl _) _).grown hg1 (by simp) (fun k e => by cases e)
  have hl1 := hs1.lt
  replace hs1 := hid hs1
  replace q1 := hid q1
  replace hB1 := hid hB1
  clear hg1 hc1
  go_wp2_with fail
  refine (ports_any _ a len cap 0 _ hs1.out (by omega)).mono ?_
  rintro e w2 ⟨c, rfl, hok, _, hg2⟩
  have q2 := q1.out.grown hg2 (by simp)
  have hB2 := hid (hB1.out.grown hg2 (by omega) (fun k e => by cases e; omega))
  have x2 := q2.cell
  have f2 := q2.frozen
  have l2 := q2.lt
  replace hok := hid hok
  clear q1 q2 hg2 hs1 hB1
  go_wp2
  refine bodyPost_ret (v := poV c) (by simp [results, Try.results13, go_sem, x2]) rfl ⟨c, rfl, hok.out, ?_⟩
  iterate 12 refine Below.setCell ?_ (by first | omega | (simp; done) | (simp; omega)) _
  exact hB2.out
theorem land7 : ∀ v : Nat, v < 256 → Nat.land v 7 = v % 8 := by decide +kernel
theorem mic_div : ∀ v : Nat, v < 256 → micN v = Nat.beq (v / 8 % 2) 1 := by decide +kernel
theorem beep_div : ∀ v : Nat, v < 256 → beepN v = Nat.beq (v / 16 % 2) 1 := by decide +kernel
theorem kind_even : ∀ n : Nat, n < 256 → Nat.beq (kindN n) 0 = Nat.beq (n % 2) 0 := by decide +kernel
theorem beq_nat (a b : Nat) : ((a : Int) == (b : Int)) = Nat.beq a b := by
  rw [Bool.eq_iff_iff]
  simp
  omega
theorem partP_int {xs : Array Value} {i : Nat} {v : Value} (h : xs[i]? = some v) (w : World) : (part 3 xs i).run Try.prog w = .ok v w := by
  have hu := Try.underlying3
  simp [part, isAgg, go_sem, hu, h]
theorem eqP_int1 (d : Nat) (z : Int) (w : World) : (Op.equalIn (d + 1) 3 (.int .i64 z) (.int .i64 z)).run Try.prog w = .ok true w := by
  have hu := Try.underlying3
  simp [Op.equalIn, go_sem, hu]
theorem itemsP_self (d : Nat) (xs : Array Value) (w : World) : ∀ is : List Nat, (∀ i ∈ is, ∃ z, xs[i * 1]? = some (.int .i64 z)) → (Op.eqItems (d + 1) 3 1 xs xs is).run Try.prog w = .ok true w := by
  intro is
  induction is with
  | nil => intro _; rfl
  | cons i t ih =>
    intro h
    obtain ⟨z, hz⟩ := h i (by simp)
    simp only [Op.eqItems, Sem.run_bind, partP_int hz, Result.andThen_ok, eqP_int1, Bool.not_true, Bool.false_eq_true, if_false]
    exact ih (fun j hj => h j (by simp [hj]))
theorem eqP8 (d : Nat) (x0 x1 x2 x3 x4 x5 x6 x7 : Int) (w : World) : Sem.run Try.prog (Op.equalIn (d + 1 + 1) 24 (.agg #[.int .i64 x0, .int .i64 x1, .int .i64 x2, .int .i64 x3, .int .i64 x4, .int .i64 x5, .int .i64 x6, .int .i64 x7]) (.agg #[.int .i64 x0, .int .i64 x1, .int .i64 x2, .int .i64 x3, .int .i64 x4, .int .i64 x5, .int .i64 x6, .int .i64 x7])) w = .ok true w := by
  obtain ⟨i, hi⟩ : ∃ i, Try.prog.info? 3 = some i := Option.isSome_iff_exists.1 (by kernel_rfl)
  have c1 : Try.prog.cellsOf 3 = 1 := by kernel_rfl
  rw [run_equalIn_array (w := w) (d + 1) _ _ Try.underlying24 hi, c1]
  refine itemsP_self d _ w _ (fun i hi => ?_)
  have hi8 : i < 8 := List.mem_range.1 hi
  rcases (by omega : i = 0 ∨ i = 1 ∨ i = 2 ∨ i = 3 ∨ i = 4 ∨ i = 5 ∨ i = 6 ∨ i = 7) with rfl | rfl | rfl | rfl | rfl | rfl | rfl | rfl <;> exact ⟨_, rfl⟩
theorem eqP8a (x0 x1 x2 x3 x4 x5 x6 x7 : Int) (w : World) : Sem.run Try.prog (Op.equalIn 9999 24 (.agg #[.int .i64 x0, .int .i64 x1, .int .i64 x2, .int .i64 x3, .int .i64 x4, .int .i64 x5, .int .i64 x6, .int .i64 x7]) (.agg #[.int .i64 x0, .int .i64 x1, .int .i64 x2, .int .i64 x3, .int .i64 x4, .int .i64 x5, .int .i64 x6, .int .i64 x7])) w = .ok true w := eqP8 9997 _ _ _ _ _ _ _ _ w
theorem eqP8b (x0 x1 x2 x3 x4 x5 x6 x7 : Int) (w : World) : Sem.run Try.prog (Op.equalIn 10000 24 (.agg #[.int .i64 x0, .int .i64 x1, .int .i64 x2, .int .i64 x3, .int .i64 x4, .int .i64 x5, .int .i64 x6, .int .i64 x7]) (.agg #[.int .i64 x0, .int .i64 x1, .int .i64 x2, .int .i64 x3, .int .i64 x4, .int .i64 x5, .int .i64 x6, .int .i64 x7])) w = .ok true w := eqP8 9998 _ _ _ _ _ _ _ _ w
end Go.Proofs.Ytdfadiicjkenfaa
