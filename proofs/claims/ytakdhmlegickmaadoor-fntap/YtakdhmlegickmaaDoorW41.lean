/- The list of the blocks of a text, and ReadTap: the program. -/
import Derived.Test.YtakdhmlegickmaaDoorZmw
import Derived.Deep.Onto
import Derived.Test.YtakdhmlegickmaaDoorUaw
namespace Go.Proofs.YtakdhmlegickmaaDoor
open Go.ChangeShapes Go.WideShapes Go.ChangeAt Go.RowKit Go.Shelf
attribute [local go_sem] Oper.semAt_some
set_option linter.unusedVariables false
set_option linter.unusedSimpArgs false

theorem blocksOf_impl (t : ByteArray) (w : World) : Calls Tryd.prog 37 #[.string t] w fun e w' => e = .returned (.func (.func 59) #[] #[.pointer (some ⟨w.heap.size, 0, none⟩)]) ∧ w' = w.alloc (.cells #[.string t] 9) := by
  go_enter Tryd.func37, Tryd.ntmps37
  go_wp2
  go_ret
  exact ⟨rfl, rfl⟩
theorem list_impl (t : ByteArray) (e0 e1 e2 e3 e4 e5 : Addr) (w : World) (ht : t.size ≤ 65536) (hE : Err6 w e0 e1 e2 e3 e4 e5) (BT : Nat) (hq : Blk w BT #[.string t]) :
    Calls Tryd.prog 36 #[.func (.func 59) #[] #[.pointer (some ⟨BT, 0, none⟩)]] w fun e w' => ∃ v, e = .returned (.tuple #[v, errV6 e0 e1 e2 e3 e4 e5 (rdL t (t.size + 1) 0 []).2]) ∧ w'.ownsRow w.heap.size 33 2 v (rdL t (t.size + 1) 0 []).1.length (bkL (rdL t (t.size + 1) 0 []).1) ∧ Below w.heap.size w w' :=
  list_of _ _ _ e5 w hE.c5 (fun p W hpw h1 h2 h3 hR => it_impl p t e0 e1 e2 e3 e4 e5 (by rw [hpw]; exact hE) h1 h2 h3 W hR ht BT (by rw [hpw]; exact hq))
set_option maxRecDepth 100000 in
set_option maxHeartbeats 2000000 in
theorem readtap_impl (t : ByteArray) (e0 e1 e2 e3 e4 e5 : Addr) (w : World) (ht : t.size ≤ maxLen) (hE : Err6 w e0 e1 e2 e3 e4 e5) : Calls Tryd.prog 9 #[.string t] w fun e w' => ∃ v, e = .returned (.tuple #[v, .int .i64 (rd2 t).2]) ∧ w'.ownsRow w.heap.size 33 2 v (rd2 t).1.length (bkL (rd2 t).1) ∧ Below w.heap.size w w' := by
  unfold maxLen at ht
  by_cases h1 : 65536 < t.size
  · have e : rd2 t = ([], 2) := if_pos h1
    rw [e]
    go_enter Tryd.func9, Tryd.ntmps9
    go_wp2
    go_ret2
    exact ⟨_, rfl, World.ownsRow_nil _ _ _ _, Below.refl _ _⟩
  · have e : rd2 t = rdL t (t.size + 1) 0 [] := if_neg h1
    rw [e]
    clear e
    have hBO := hid (fun W => blocksOf_impl t W)
    have hL := hid (fun W BT (hq : Blk W BT #[.string t]) (h : Err6 W e0 e1 e2 e3 e4 e5) => list_impl t e0 e1 e2 e3 e4 e5 W (by omega) h BT hq)
    have hc := rdL_code t (t.size + 1) 0 []
    obtain ⟨Z, hZ⟩ : ∃ Z, rdL t (t.size + 1) 0 [] = Z := ⟨_, rfl⟩
    rw [hZ] at hL hc ⊢
    clear hZ
    have hBC := hid (fun W (h : Err6 W e0 e1 e2 e3 e4 e5) => blockCode_any e0 e1 e2 e3 e4 e5 Z.2 W h hc)
    obtain ⟨E, hEE⟩ : ∃ E, errV6 e0 e1 e2 e3 e4 e5 Z.2 = E := ⟨_, rfl⟩
    rw [hEE] at hL hBC
    clear hEE hc
    replace hE := hid hE
    go_enter Tryd.func9, Tryd.ntmps9
    go_wp2_with fail
    refine (hBO.out _).mono ?_
    rintro e w0 ⟨rfl, hw0⟩
    have hb0 : Below w.heap.size w w0 := by rw [hw0]; exact (Below.refl _ _).alloc (Nat.le_refl _) _
    have hq0 : Hid (Blk w0 w.heap.size #[.string t]) := by rw [hw0]; exact Blk.new w _ _
    have hE0 := hid (hE.out.below hb0)
    replace hb0 := hid hb0
    clear hw0 hBO
    go_wp2_with fail
    refine (hL.out _ _ hq0.out hE0.out).mono ?_
    rintro e w1 ⟨v, rfl, ho0, hb1⟩
    have ho := ho0.mono hb0.out.size
    have hb := hb0.out.trans (hb1.mono hb0.out.size)
    have hE1 := hid (hE.out.below hb)
    clear ho0 hb1
    replace ho := hid ho
    replace hb := hid hb
    clear hL
    go_wp2_with fail
    refine (hBC.out _ hE1.out).mono ?_
    rintro e w2 ⟨rfl, hww⟩
    obtain rfl := hww.symm
    clear hBC hE1
    go_wp2_with fail
    go_ret2
    exact ⟨_, rfl, ho.out, hb.out⟩
end Go.Proofs.YtakdhmlegickmaaDoor

/- What the exact laws' helpers over blocks answer. -/
namespace Go.Proofs.YtakdhmlegickmaaDoor
open Go.ChangeShapes Go.WideShapes Go.ChangeAt Go.RowKit
set_option linter.unusedVariables false
set_option linter.unusedSimpArgs false

def szB (s : ByteArray) (l : Int) : Int := if l - (s.size : Int) < 0 then -1 else l - (s.size : Int)
theorem eqbk (f : Int) (s : ByteArray) (w : World) :
    Calls Tryd.prog 51 #[bkV f s, bkV f s] w fun e w' => e = .returned (.bool true) ∧ Below w.heap.size w w' := by
  go_enter Tryd.func51, Tryd.ntmps51
  go_wp2
  go_ret
  exact ⟨rfl, ((Below.refl _ _).alloc (Nat.le_refl _) _).alloc (by simp) _⟩
end Go.Proofs.YtakdhmlegickmaaDoor
