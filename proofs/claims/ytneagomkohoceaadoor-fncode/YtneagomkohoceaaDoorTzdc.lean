/- A drawn instruction; what the law of code wants besides. -/
import Derived.Test.YtneagomkohoceaaDoorC31
import Derived.Test.YtneagomkohoceaaDoorSrcc
import Derived.Test.YtneagomkohoceaaDoorC16
import Derived.Test.YtneagomkohoceaaDoorKcc
import Derived.Lib.LaidTab
namespace Go.Proofs.YtneagomkohoceaaDoor
open Go.ChangeShapes Go.WideShapes Go.ChangeAt Go.RowKit
set_option linter.unusedVariables false
set_option linter.unusedSimpArgs false

theorem grown_twoZ {a b c : World} {p : Nat} (h : a.grownBy b (some p)) (k : b.grownBy c (some p)) : a.grownBy c (some p) :=
  ⟨k.os.trans h.os, k.tape.trans h.tape, k.output.trans h.output, Nat.le_trans h.size k.size, fun i hi hne => (k.block i (Nat.lt_of_lt_of_le hi h.size) hne).trans (h.block i hi hne)⟩
theorem grown_setZ {w W : World} {p b i : Nat} {u : Value} (h : w.grownBy W (some p)) (hb : w.heap.size ≤ b) : w.grownBy (W.setCell ⟨b, i, none⟩ u) (some p) :=
  ⟨h.os, h.tape, h.output, by have := h.size; simpa [World.setCell] using this, fun k hk hne => by
    rw [Below.heap_setCell _ _ _ _ (by simp; omega)]
    exact h.block k hk hne⟩
theorem instr_decZ (p : Nat) (a : Option Addr) (len cap n : Nat) (w : World) (hs : Src w p a len cap n) (hn : n + 6 ≤ 1000000000) :
    Calls Tryd.prog 27 #[.pointer (some ⟨p, 0, none⟩)] w fun e w' => (∃ x y : Int, (0 ≤ x ∧ x ≤ 255) ∧ (0 ≤ y ∧ y ≤ 255) ∧ e = .returned (dcdV x y)) ∧ w.grownBy w' (some p) := by
  have hp := hs.lt
  have hs1 : Hid (∀ o, Src (w.alloc o) p a len cap n) := fun o => hs.kept (r := none) (World.grownBy_alloc _ _ _) (by intro g e; cases e)
  clear hs
  go_enter Tryd.func27, Tryd.ntmps27
  go_wp2_with fail
  refine (next_any p a len cap n 256 _ (hs1.out _) (by omega)).mono ?_
  rintro e w2 ⟨⟨x, rfl, hx0, _, hx1⟩, ⟨n2, hn2, hs2⟩, hg2⟩
  have hx2 := hx1 (by omega)
  have q2 := (Blk.new w _ _).grown hg2 (by simp; omega)
  have hz2 := q2.lt
  have hgw : w.grownBy w2 (some p) := ⟨hg2.os, hg2.tape, hg2.output, by have := hg2.size; rw [World.size_alloc] at this; omega, fun k hk hne => (hg2.block k (by rw [World.size_alloc]; omega) hne).trans (Below.heap_alloc _ _ _ hk)⟩
  replace q2 := hid q2
  replace hgw := hid hgw
  replace hs2 := hid hs2
  clear hg2 hs1 hx1
  go_wp2_with fail
  refine (next_any p a len cap n2 256 _ hs2.out (by omega)).mono ?_
  rintro e w3 ⟨⟨y, rfl, hy0, _, hy1⟩, ⟨n3, hn3, hs3⟩, hg3⟩
  have hy2 := hy1 (by omega)
  have q3 := hid (q2.out.grown hg3 (by simp; omega))
  have hgw3 := hid (grown_twoZ hgw.out hg3)
  clear hg3 hs2 hy1 q2 hgw hs3
  go_wp2_with fail
  refine (dec0_spec x y _ hx0 (by omega) hy0 (by omega)).mono ?_
  rintro e w4 ⟨rfl, hb4⟩
  have q4 := q3.out.below hb4 q3.out.lt
  have x4 := q4.cell
  have f4 := q4.frozen
  have hb4' : w3.grownBy w4 (some p) := ⟨hb4.os, hb4.tape, hb4.output, hb4.size, fun b hb _ => hb4.block b hb⟩
  have hgw4 := hid (grown_twoZ hgw3.out hb4')
  have hR : Hid (∃ x' y' : Int, (0 ≤ x' ∧ x' ≤ 255) ∧ (0 ≤ y' ∧ y' ≤ 255) ∧ (Ending.returned (dcdV x y)) = .returned (dcdV x' y')) := ⟨x, y, ⟨hx0, by omega⟩, ⟨hy0, by omega⟩, rfl⟩
  unfold dcdV at hR ⊢
  generalize decO x = o at *
  generalize decA x = i at *
  generalize decB x y = j at *
  generalize decN x y = k at *
  generalize decL x = l at *
  clear q3 q4 hb4 hb4' hgw3
  go_wp2
  refine bodyPost_ret (v := insV o i j k l) (by simp [results, Tryd.results27, go_sem, x4]) rfl ⟨hR.out, ?_⟩
  iterate 5 refine grown_setZ ?_ (Nat.le_refl _)
  exact hgw4.out
theorem instrdrawn (a : Option Addr) (len cap : Nat) (w : World) (hc : CodeAt w w.heap.size a len) (hl : len ≤ 1048576) :
    Calls Tryd.prog 7 #[.slice a len cap] w fun e w' => ∃ x y : Int, (0 ≤ x ∧ x ≤ 255) ∧ (0 ≤ y ∧ y ≤ 255) ∧ e = .returned (dcdV x y) ∧ Below w.heap.size w w' := by
  have hc1 : Hid (∀ o, CodeAt (w.alloc o) (w.alloc o).heap.size a len) := fun o => hc.below ((Below.refl _ _).alloc (Nat.le_refl _) o) (by simp)
  clear hc
  go_enter Tryd.func7, Tryd.ntmps7
  go_wp2_with fail
  refine (source_any a len cap _ (hc1.out _) hl).mono ?_
  rintro e w1 ⟨rfl, hs1, hg1⟩
  rw [World.size_alloc] at hs1 ⊢
  have q1 := (Blk.new w zer5 24).grown hg1 (by simp)
  have hB1 : Below w.heap.size w w1 := ((Below.refl _ _).alloc (Nat.le_refl _) _).grown hg1 (by simp) (fun k e => by cases e)
  have hl1 := hs1.lt
  replace hs1 := hid hs1
  replace q1 := hid q1
  replace hB1 := hid hB1
  clear hg1 hc1
  go_wp2_with fail
  refine (instr_decZ _ a len cap 0 _ hs1.out (by omega)).mono ?_
  rintro e w2 ⟨⟨x, y, hx, hy, rfl⟩, hg2⟩
  have q2 := q1.out.grown hg2 (by simp)
  have hB2 := hid (hB1.out.grown hg2 (by omega) (fun k e => by cases e; omega))
  have x2 := q2.cell
  have f2 := q2.frozen
  have hR : Hid (∀ W, Below w.heap.size w W → ∃ x' y' : Int, (0 ≤ x' ∧ x' ≤ 255) ∧ (0 ≤ y' ∧ y' ≤ 255) ∧ (Ending.returned (dcdV x y)) = .returned (dcdV x' y') ∧ Below w.heap.size w W) := fun W h => ⟨x, y, hx, hy, rfl, h⟩
  unfold dcdV at hR ⊢
  generalize decO x = o at *
  generalize decA x = i at *
  generalize decB x y = j at *
  generalize decN x y = k at *
  generalize decL x = l at *
  clear q1 q2 hg2 hs1 hB1
  go_wp2
  refine bodyPost_ret (v := insV o i j k l) (by simp [results, Tryd.results7, go_sem, x2]) rfl (hR.out _ ?_)
  iterate 5 refine Below.setCell ?_ (by first | omega | (simp; done) | (simp; omega)) _
  exact hB2.out
theorem eqInsX (o a b n l : Int) (w : World) : Sem.run Tryd.prog (Op.equalIn 10000 24 (insV o a b n l) (insV o a b n l)) w = .ok true w := by
  go_simp
theorem sameX_yes (v v' : Value) (zs : List Int) (w : World) (h : RowR w v zs) (h' : RowR w v' zs) (hl : zs.length ≤ 1000000000) :
    Calls Tryd.prog 10 #[v, v'] w fun e w' => e = .returned (.bool true) ∧ ∃ n, w' = w.drewN n := by
  obtain ⟨a, cap, rfl, h⟩ := h
  obtain ⟨a', cap', rfl, h'⟩ := h'
  replace h : Hid (zs = [] ∨ ∃ b off, a = some ⟨b, off, none⟩ ∧ ∀ i, i < zs.length → w.cell? ⟨b, off + i, none⟩ = some (.int .i64 (zs.getD i 0))) := h
  replace h' : Hid (zs = [] ∨ ∃ b off, a' = some ⟨b, off, none⟩ ∧ ∀ i, i < zs.length → w.cell? ⟨b, off + i, none⟩ = some (.int .i64 (zs.getD i 0))) := h'
  go_enter Tryd.func10, Tryd.ntmps10
  go_wp2
  go_loopw [5] (fun i wr => ∃ k : Nat, k ≤ zs.length ∧ i = .int .i64 k ∧ ∃ n, wr = w.drewN n) (fun i _ => zs.length - (intOf i).toNat)
  case atStart => exact ⟨0, by omega, rfl, 0, rfl⟩
  case round =>
    obtain ⟨k, hk, rfl, n, rfl⟩ := hrel
    by_cases hlt : k < zs.length
    · obtain ⟨b, off, rfl, c1⟩ := row_some h.out hlt
      obtain ⟨b', off', rfl, c2⟩ := row_some h'.out hlt
      clear h h'
      generalize zs.getD k 0 = z at *
      go_wp2
      go_region
      go_wp2
      go_roundw
      case rel => exact ⟨k + 1, by omega, by go_num, n + 1, rfl⟩
      case measure => simp [intOf]; omega
    · obtain rfl : k = zs.length := by omega
      go_wp2
      go_ret
      exact ⟨rfl, n, rfl⟩
theorem code_laid {W : World} (h : laidMetH Tryd.prog Rows.fnCodeRow.laid W) : Kinds W ∧ PowT W := by
  rw [MakeChecks.laidMetH_plain _ _ _ (by kernel_rfl)] at h
  obtain ⟨ps, ⟨g0, t0, cs0, f0, p0, q0, hg0, ht0, hv0, hd0, ⟨g1, t1, cs1, f1, p1, q1, hg1, ht1, hv1, hd1, ⟨g2, t2, cs2, f2, p2, q2, hg2, ht2, hv2, hd2, ⟨g3, t3, cs3, f3, p3, q3, hg3, ht3, hv3, hd3, _⟩, _⟩, _⟩, _⟩, _⟩ := h
  obtain rfl := Option.some.inj (gKinds.symm.trans hg3)
  obtain rfl := Option.some.inj (tKinds.symm.trans ht3)
  obtain rfl := Option.some.inj (gPowT.symm.trans hg2)
  obtain rfl := Option.some.inj (tPowT.symm.trans ht2)
  refine ⟨kinds_reads hv3 hd3, ?_⟩
  unfold PowT Lib.TabIs
  rw [hv2]
  have hd2' : DataW.trod (fun _ => ()) Tryd.prog W 0 (fun _ => true) false f2 132 cs2.toList = some (Lib.tabData .u64 Lib.pow10Tab, p2) := hd2
  have := Lib.cells_of_tab Tryd.underlying132 Tryd.underlying127 (by kernel_rfl) (by kernel_rfl) hd2'
  rw [← this]
end Go.Proofs.YtneagomkohoceaaDoor
