/- Lists of blocks among the things of a law. -/
import Derived.Test.YtohnddjijedfkaaDoorDle
import Derived.Test.YtohnddjijedfkaaDoorZqe
import Derived.Test.YtohnddjijedfkaaDoorVme
import Derived.LaidMore
import Derived.Stop.Joined
namespace Go.Proofs.YtohnddjijedfkaaDoor
open Go.ChangeShapes Go.WideShapes Go.ChangeAt Go.RowKit
set_option linter.unusedVariables false
set_option linter.unusedSimpArgs false

abbrev tBko (g : Nat) (l : List (Int × ByteArray)) : Thing := ⟨fun x => x = g, fun W => BkO W g l⟩
theorem BkO.keptD {W W' : World} {g : Nat} {l : List (Int × ByteArray)} (h : BkO W g l) (e : W'.heap[g]? = W.heap[g]?) : BkO W' g l :=
  ⟨fun k hk => ⟨by rw [World.cell?_of_block (a := ⟨g, k * 2, none⟩) e]; exact (h.cell k hk).1, by rw [World.cell?_of_block (a := ⟨g, k * 2 + 1, none⟩) e]; exact (h.cell k hk).2⟩, fun k => by rw [World.frozen?_of_block (a := ⟨g, k, none⟩) e]; exact h.fro k, by
    have h1 := h.lt
    rw [Array.getElem?_eq_getElem h1] at e
    exact (Array.getElem?_eq_some_iff.1 e).1⟩
theorem sits_bko {W : World} {g : Nat} {l : List (Int × ByteArray)} (h : BkO W g l) : Sits W (tBko g l) :=
  ⟨h, fun b hb => by cases hb; exact h.lt, fun W' hk => h.keptD (hk g rfl)⟩
theorem StD.bko {w W W' : World} {L : List Thing} {l : List (Int × ByteArray)} (h : StD w W L) (hb : Below W.heap.size W W') (hr : BkO W' W.heap.size l) : StD w W' (tBko W.heap.size l :: L) :=
  ⟨h.sts.push hb (sits_bko hr) (fun b hd => by cases hd; exact Nat.le_refl _), new_trans h.bel hb, fun s hs b hd => by
    rcases List.mem_cons.1 hs with rfl | hs
    · cases hd; exact h.bel.size
    · exact h.far s hs b hd⟩
theorem StD.markb {w W W' : World} {L : List Thing} (h : StD w W L) (i : Nat) {g : Nat} {l l' : List (Int × ByteArray)} (e : L[i]? = some (tBko g l)) (hm : BkO W' g l') (hg : W.grownBy W' (some g)) : StD w W' (L.set i (tBko g l')) :=
  h.turn i e hg.size ⟨hg.os, hg.tape, hg.output⟩ (fun b hb hn => hg.block b hb (fun e2 => hn (by cases e2; rfl))) (sits_bko hm)
theorem StD.bkr {w W : World} {L : List Thing} (h : StD w W L) (i : Nat) {g : Nat} {l : List (Int × ByteArray)} (e : L[i]? = some (tBko g l)) : BkR W (some ⟨g, 0, none⟩) l := BkO.read (h.at i e)
end Go.Proofs.YtohnddjijedfkaaDoor

/- What the row's list of one variable gives: the times of bits. -/
namespace Go.Proofs.YtohnddjijedfkaaDoor
open Go.ChangeShapes Go.WideShapes Go.ChangeAt Go.RowKit
set_option linter.unusedVariables false
set_option linter.unusedSimpArgs false

theorem gn_bitTimes : Tryd.prog.globalNamed "loop.example/g00644/impl.bitTimes" = some 0 := by kernel_rfl
theorem gt_bitTimes : (Tryd.prog.globals[0]?).map (·.type) = some 82 := by kernel_rfl
theorem tim_of {W : World} (h : laidMetH Tryd.prog [("loop.example/g00644/impl.bitTimes", Rows.laid_loop_example_g00644_impl_bitTimes)] W) : Tim W := by
  rw [MakeChecks.laidMetH_plain _ _ _ (by kernel_rfl)] at h
  obtain ⟨ps, ⟨g0, t0, cs0, f0, p0, q0, hg0, ht0, hv0, hd0, _⟩, _⟩ := h
  obtain rfl := Option.some.inj (gn_bitTimes.symm.trans hg0)
  obtain rfl := Option.some.inj (gt_bitTimes.symm.trans ht0)
  obtain ⟨xs, m1, hx0, hx1, hlen, hn, hel⟩ := DataW.trod_array Tryd.underlying82 hd0
  have c1 : Tryd.prog.cellsOf 3 = 1 := by kernel_rfl
  have hd : xs.map (·.1) = [(.lit (.int .i64 20) : DataW Unit), .lit (.int .i64 40)] := by
    have := congrArg Prod.fst hx1
    simp only [Rows.laid_loop_example_g00644_impl_bitTimes, DataW.agg.injEq] at this
    exact this.symm
  have key : ∀ i (hi : i < 2) (z : Int), (xs.map (·.1))[i]? = some (DataW.lit (.int .i64 z) : DataW Unit) → W.cell? ⟨0, i, none⟩ = some (.int .i64 z) := by
    intro i hi z hz
    have h0 := hel i hi
    rw [c1, Nat.mul_one] at h0
    have hxi : xs[i]? = some xs[i] := List.getElem?_eq_getElem (by omega)
    rw [hxi] at h0
    obtain ⟨n, e1, e2, _⟩ := DataW.trod_int Tryd.underlying3 h0
    have hcs : cs0[i]? = some (.int .i64 n) := by
      have := congrArg (·[0]?) e1
      simpa [List.getElem?_take, List.getElem?_drop] using this
    rw [World.var?_cell hg0 hv0 i, hcs]
    rw [List.getElem?_map, hxi, e2] at hz
    simp at hz
    rw [hz]
  have hTim : Tim W := ⟨key 0 (by omega) _ (by rw [hd]; rfl), key 1 (by omega) _ (by rw [hd]; rfl)⟩
  exact hTim
end Go.Proofs.YtohnddjijedfkaaDoor
