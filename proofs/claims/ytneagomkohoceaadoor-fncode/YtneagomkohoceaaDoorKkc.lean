/- An instruction's text, or the code of one that is none, as the specification gives it; what the row's list of variables gives. -/
import Derived.Test.YtneagomkohoceaaDoorKjc
import Derived.Test.YtneagomkohoceaaDoorKcc
import Derived.Lib.LaidTab
namespace Go.Proofs.YtneagomkohoceaaDoor
open Go.ChangeShapes Go.WideShapes Go.ChangeAt Go.RowKit
set_option linter.unusedVariables false
set_option linter.unusedSimpArgs false

theorem text_spec (o a b n l : Int) (w : World) :
    Calls Tryd.prog 15 #[insV o a b n l] w fun e w' => e = .returned (text2 o a b n l) ∧ Below w.heap.size w w' := by
  have hb0 := hid ((Below.refl w.heap.size w).alloc (Nat.le_refl _) (.cells (insA o a b n l) 24))
  have hq0 := hid (Blk.new w (insA o a b n l) 24)
  cases hok : okI o a b n l
  · have e : text2 o a b n l = .tuple #[.string ⟨#[]⟩, .int .i64 1] := by unfold text2; rw [hok]; rfl
    rw [e]
    clear e
    go_enter Tryd.func15, Tryd.ntmps15
    go_wp2_with fail
    refine (insok_spec _ _ _ _ _ _).mono ?_
    rintro e w1 ⟨rfl, hb⟩
    rw [hok]
    have hb1 := hid (new_trans hb0.out hb)
    clear hb hb0 hq0
    go_wp2
    go_ret2
    exact ⟨rfl, hb1.out⟩
  obtain ⟨h1, h2, h3, h4, h5⟩ := okI_bd hok
  obtain ⟨k, rfl⟩ : ∃ X : Nat, o = (X : Int) := ⟨o.toNat, by omega⟩
  obtain ⟨A, rfl⟩ : ∃ X : Nat, a = (X : Int) := ⟨a.toNat, by omega⟩
  obtain ⟨B, rfl⟩ : ∃ X : Nat, b = (X : Int) := ⟨b.toNat, by omega⟩
  obtain ⟨N, rfl⟩ : ∃ X : Nat, n = (X : Int) := ⟨n.toNat, by omega⟩
  have e : text2 k A B N l = .tuple #[.string (textB k A B N), .int .i64 0] := by unfold text2; rw [hok]; rfl
  rw [e]
  clear e
  go_enter Tryd.func15, Tryd.ntmps15
  go_wp2_with fail
  refine (insok_spec _ _ _ _ _ _).mono ?_
  rintro e w1 ⟨rfl, hb⟩
  rw [hok]
  have hb1 := hid (new_trans hb0.out hb)
  have hq1 := hid (hq0.out.below hb hq0.out.lt)
  clear hb hb0 hq0
  have x1 := hq1.out.cell
  go_wp2_with fail
  refine (text0_spec k A B N l _ (by omega) (by omega) (by omega) (by omega)).mono ?_
  rintro e w2 ⟨rfl, hb⟩
  have hb2 := hid (new_trans hb1.out hb)
  clear hb hb1 hq1 x1
  go_wp2
  go_ret2
  exact ⟨rfl, hb2.out⟩
theorem text_laid {W : World} (h : laidMetH Tryd.prog Rows.fnExactInstrTextRow.laid W) : Kinds W ∧ PowT W := by
  rw [MakeChecks.laidMetH_plain _ _ _ (by kernel_rfl)] at h
  obtain ⟨ps, ⟨g0, t0, cs0, f0, p0, q0, hg0, ht0, hv0, hd0, ⟨g1, t1, cs1, f1, p1, q1, hg1, ht1, hv1, hd1, ⟨g2, t2, cs2, f2, p2, q2, hg2, ht2, hv2, hd2, ⟨g3, t3, cs3, f3, p3, q3, hg3, ht3, hv3, hd3, _⟩, _⟩, _⟩, _⟩, _⟩ := h
  obtain rfl := Option.some.inj (gKinds.symm.trans hg3)
  obtain rfl := Option.some.inj (tKinds.symm.trans ht3)
  obtain rfl := Option.some.inj (gPowT.symm.trans hg2)
  obtain rfl := Option.some.inj (tPowT.symm.trans ht2)
  refine ⟨kinds_reads hv3 hd3, ?_⟩
  unfold PowT Lib.TabIs
  rw [hv2]
  have hd2' : DataW.trod (fun _ => ()) Tryd.prog W 0 (fun _ => true) false f2 132 cs2.toList = some (Lib.tabData .u64 Lib.pow10Tab, p2) := hd2
  have := Lib.cells_of_tab Tryd.underlying132 Tryd.underlying127 (by kernel_rfl) (by kernel_rfl) hd2'
  rw [← this]
end Go.Proofs.YtneagomkohoceaaDoor
