/- Where an instruction's numbers stand, as the program gathers pointers to them. -/
import Derived.Test.YtneagomkohoceaaDoorKac
import Derived.Test.YtneagomkohoceaaDoorKec
import Derived.Deep.AppendLies
import Derived.Deep.Onto
import Derived.OwnWalk
namespace Go.Proofs.YtneagomkohoceaaDoor
open Go.ChangeShapes Go.WideShapes Go.ChangeAt Go.RowKit
set_option linter.unusedVariables false
set_option linter.unusedSimpArgs false

theorem own_below {W W' : World} {lo n : Nat} {e : TypeId} {v : Value} {xs : List Value} (h : W.ownsRow lo e 1 v n xs) (hb : Below W.heap.size W W') : W'.ownsRow lo e 1 v n xs :=
  h.kept (row := none) ⟨hb.os, hb.tape, hb.output, hb.size, fun k hk _ => hb.block k hk⟩ (by cases v.ownBlock <;> simp)
/-- a slice is being gathered; block B holds C -/
structure LSt (w W : World) (B : Nat) (C : Array Value) (e : TypeId) (v : Value) (n : Nat) (xs : List Value) : Prop where
  q : Blk W B C
  own : W.ownsRow (B + 1) e 1 v n xs
  bel : Below w.heap.size w W
  far : w.heap.size ≤ B
theorem LSt.below {w W W' : World} {B : Nat} {C : Array Value} {e : TypeId} {v : Value} {n : Nat} {xs : List Value} (h : LSt w W B C e v n xs) (hb : Below W.heap.size W W') : LSt w W' B C e v n xs :=
  ⟨h.q.below hb h.q.lt, own_below h.own hb, h.bel.trans (hb.mono h.bel.size), h.far⟩
theorem LSt.step {w W w2 : World} {B : Nat} {C : Array Value} {e : TypeId} {v u : Value} {n : Nat} {xs ys : List Value} {o : Obj} (h : LSt w W B C e v n xs) (ho : w2.ownsRow (B + 1) e 1 u (n + 1) ys) (hg : (W.alloc o).grownBy w2 v.ownBlock) : LSt w w2 B C e u (n + 1) ys := by
  have hlt : ∀ k, v.ownBlock = some k → B + 1 ≤ k := fun k hk => (h.own.lt k hk).1
  refine ⟨(h.q.alloc o).grown hg (fun e => ?_), ho, (h.bel.alloc h.bel.size o).grown hg (by have := h.bel.size; simp; omega) (fun k hk => by have := hlt k hk; have := h.far; omega), h.far⟩
  have := hlt B e.symm
  omega
def offsK (n : Int) : List Nat := (if hasM n 1 = true then [1] else []) ++ (if hasM n 2 = true then [2] else []) ++ (if hasM n 12 = true then [3] else [])
def ptrV (X o : Nat) : Value := .pointer (some ⟨X, o, none⟩)
theorem kd_offs : ∀ k, k < 24 → (hasM (kdN k) 1 = false ∧ hasM (kdN k) 2 = false ∧ hasM (kdN k) 12 = false) ∨ (hasM (kdN k) 1 = true ∧ hasM (kdN k) 2 = true ∧ hasM (kdN k) 12 = false) ∨ (hasM (kdN k) 1 = true ∧ hasM (kdN k) 2 = false ∧ hasM (kdN k) 12 = true) ∨ (hasM (kdN k) 1 = false ∧ hasM (kdN k) 2 = false ∧ hasM (kdN k) 12 = true) ∨ (hasM (kdN k) 1 = true ∧ hasM (kdN k) 2 = false ∧ hasM (kdN k) 12 = false) := by decide +kernel
theorem infoP : (Tryd.prog.info? 95).map (fun i => (i.zero, i.size, i.bytes)) = some (some (.pointer none), 1, 8) := by kernel_rfl
set_option maxRecDepth 100000 in
set_option maxHeartbeats 1000000 in
theorem places_impl (k X : Nat) (w : World) (hk : k < 24) :
    Calls Tryd.prog 38 #[kinV (kdW k) (kdN k) (kdA k) (kdB k) (kdT k), .pointer (some ⟨X, 0, none⟩)] w fun e w' => ∃ v, e = .returned v ∧ w'.ownsRow (w.heap.size + 1) 95 1 v (offsK (kdN k)).length ((offsK (kdN k)).map (ptrV X)) ∧ Below w.heap.size w w' := by
  obtain ⟨i0, hi0, hz0, hz1, hz2⟩ := info_parts infoP
  have S0 : Hid (LSt w (w.alloc (.cells (kinK k) 62)) w.heap.size (kinK k) 95 (.slice none 0 0) 0 []) := ⟨Blk.new w _ _, World.ownsRow_nil _ _ _ _, (Below.refl _ _).alloc (Nat.le_refl _) _, Nat.le_refl _⟩
  rcases kd_offs k hk with ⟨g1, g2, g3⟩ | ⟨g1, g2, g3⟩ | ⟨g1, g2, g3⟩ | ⟨g1, g2, g3⟩ | ⟨g1, g2, g3⟩
  · skip
    have e : offsK (kdN k) = [] := by unfold offsK; rw [g1, g2, g3]; rfl
    rw [e]
    clear e
    replace g1 := hid g1
    replace g2 := hid g2
    replace g3 := hid g3
    go_enter Tryd.func38, Tryd.ntmps38
    go_wp2_with fail
    refine (has_impl _ _ _ _ _ _ _).mono ?_
    rintro e v0 ⟨rfl, hb⟩
    rw [g1.out]
    have S1 := hid (S0.out.below hb)
    clear hb S0
    have x1 := S1.out.q.cell
    go_wp2_with fail
    clear x1
    refine (has_impl _ _ _ _ _ _ _).mono ?_
    rintro e v1 ⟨rfl, hb⟩
    rw [g2.out]
    have S2 := hid (S1.out.below hb)
    clear hb S1
    have x2 := S2.out.q.cell
    go_wp2_with fail
    clear x2
    refine (has_impl _ _ _ _ _ _ _).mono ?_
    rintro e v2 ⟨rfl, hb⟩
    rw [g3.out]
    have S3 := hid (S2.out.below hb)
    clear hb S2
    go_wp2
    go_ret
    exact ⟨_, rfl, S3.out.own, S3.out.bel⟩
  · skip
    have e : offsK (kdN k) = [1, 2] := by unfold offsK; rw [g1, g2, g3]; rfl
    rw [e]
    clear e
    replace g1 := hid g1
    replace g2 := hid g2
    replace g3 := hid g3
    go_enter Tryd.func38, Tryd.ntmps38
    go_wp2_with fail
    refine (has_impl _ _ _ _ _ _ _).mono ?_
    rintro e v0 ⟨rfl, hb⟩
    rw [g1.out]
    have S1 := hid (S0.out.below hb)
    clear hb S0
    go_wp2_with (at_builtin; refine wpList_append_lies _ rfl _ _ 71 rfl (w.heap.size + 1) 95 i0 _ 1 8 Tryd.underlying71 hi0 hz0 hz1 hz2 rfl (by omega) _ 0 [] rfl (S1.out.own.alloc _) ⟨_, 0, none⟩ 1 1 [ptrV X 1] rfl rfl (World.news_of_block (cs := #[ptrV X 1]) (t := 95) (fr := (0, 0)) (heap_alloc_new _ _)) (by simp [Value.oneCell', ptrV]) (by omega) (by unfold maxLen; omega) (by omega) (by have := S1.out.q.lt; simp; omega) _ rfl ?_; intro a1 c1 w1 ho hg hat hlt; have S2 := hid (S1.out.step ho hg); clear ho hg hat hlt S1; have x2 := S2.out.q.cell; have z2 := S2.out.q.lt)
    clear x2 z2
    refine (has_impl _ _ _ _ _ _ _).mono ?_
    rintro e v2 ⟨rfl, hb⟩
    rw [g2.out]
    have S3 := hid (S2.out.below hb)
    clear hb S2
    go_wp2_with (at_builtin; refine wpList_append_lies _ rfl _ _ 71 rfl (w.heap.size + 1) 95 i0 _ 1 8 Tryd.underlying71 hi0 hz0 hz1 hz2 rfl (by omega) _ 1 [ptrV X 1] rfl (S3.out.own.alloc _) ⟨_, 0, none⟩ 1 1 [ptrV X 2] rfl rfl (World.news_of_block (cs := #[ptrV X 2]) (t := 95) (fr := (0, 0)) (heap_alloc_new _ _)) (by simp [Value.oneCell', ptrV]) (by omega) (by unfold maxLen; omega) (by omega) (by have := S3.out.q.lt; simp; omega) _ rfl ?_; intro a3 c3 w3 ho hg hat hlt; have S4 := hid (S3.out.step ho hg); clear ho hg hat hlt S3; have x4 := S4.out.q.cell; have z4 := S4.out.q.lt)
    clear x4 z4
    refine (has_impl _ _ _ _ _ _ _).mono ?_
    rintro e v4 ⟨rfl, hb⟩
    rw [g3.out]
    have S5 := hid (S4.out.below hb)
    clear hb S4
    go_wp2
    go_ret
    exact ⟨_, rfl, S5.out.own, S5.out.bel⟩
  · skip
    have e : offsK (kdN k) = [1, 3] := by unfold offsK; rw [g1, g2, g3]; rfl
    rw [e]
    clear e
    replace g1 := hid g1
    replace g2 := hid g2
    replace g3 := hid g3
    go_enter Tryd.func38, Tryd.ntmps38
    go_wp2_with fail
    refine (has_impl _ _ _ _ _ _ _).mono ?_
    rintro e v0 ⟨rfl, hb⟩
    rw [g1.out]
    have S1 := hid (S0.out.below hb)
    clear hb S0
    go_wp2_with (at_builtin; refine wpList_append_lies _ rfl _ _ 71 rfl (w.heap.size + 1) 95 i0 _ 1 8 Tryd.underlying71 hi0 hz0 hz1 hz2 rfl (by omega) _ 0 [] rfl (S1.out.own.alloc _) ⟨_, 0, none⟩ 1 1 [ptrV X 1] rfl rfl (World.news_of_block (cs := #[ptrV X 1]) (t := 95) (fr := (0, 0)) (heap_alloc_new _ _)) (by simp [Value.oneCell', ptrV]) (by omega) (by unfold maxLen; omega) (by omega) (by have := S1.out.q.lt; simp; omega) _ rfl ?_; intro a1 c1 w1 ho hg hat hlt; have S2 := hid (S1.out.step ho hg); clear ho hg hat hlt S1; have x2 := S2.out.q.cell; have z2 := S2.out.q.lt)
    clear x2 z2
    refine (has_impl _ _ _ _ _ _ _).mono ?_
    rintro e v2 ⟨rfl, hb⟩
    rw [g2.out]
    have S3 := hid (S2.out.below hb)
    clear hb S2
    have x3 := S3.out.q.cell
    go_wp2_with fail
    clear x3
    refine (has_impl _ _ _ _ _ _ _).mono ?_
    rintro e v3 ⟨rfl, hb⟩
    rw [g3.out]
    have S4 := hid (S3.out.below hb)
    clear hb S3
    go_wp2_with (at_builtin; refine wpList_append_lies _ rfl _ _ 71 rfl (w.heap.size + 1) 95 i0 _ 1 8 Tryd.underlying71 hi0 hz0 hz1 hz2 rfl (by omega) _ 1 [ptrV X 1] rfl (S4.out.own.alloc _) ⟨_, 0, none⟩ 1 1 [ptrV X 3] rfl rfl (World.news_of_block (cs := #[ptrV X 3]) (t := 95) (fr := (0, 0)) (heap_alloc_new _ _)) (by simp [Value.oneCell', ptrV]) (by omega) (by unfold maxLen; omega) (by omega) (by have := S4.out.q.lt; simp; omega) _ rfl ?_; intro a4 c4 w4 ho hg hat hlt; have S5 := hid (S4.out.step ho hg); clear ho hg hat hlt S4; have x5 := S5.out.q.cell; have z5 := S5.out.q.lt)
    go_ret
    exact ⟨_, rfl, S5.out.own, S5.out.bel⟩
  · skip
    have e : offsK (kdN k) = [3] := by unfold offsK; rw [g1, g2, g3]; rfl
    rw [e]
    clear e
    replace g1 := hid g1
    replace g2 := hid g2
    replace g3 := hid g3
    go_enter Tryd.func38, Tryd.ntmps38
    go_wp2_with fail
    refine (has_impl _ _ _ _ _ _ _).mono ?_
    rintro e v0 ⟨rfl, hb⟩
    rw [g1.out]
    have S1 := hid (S0.out.below hb)
    clear hb S0
    have x1 := S1.out.q.cell
    go_wp2_with fail
    clear x1
    refine (has_impl _ _ _ _ _ _ _).mono ?_
    rintro e v1 ⟨rfl, hb⟩
    rw [g2.out]
    have S2 := hid (S1.out.below hb)
    clear hb S1
    have x2 := S2.out.q.cell
    go_wp2_with fail
    clear x2
    refine (has_impl _ _ _ _ _ _ _).mono ?_
    rintro e v2 ⟨rfl, hb⟩
    rw [g3.out]
    have S3 := hid (S2.out.below hb)
    clear hb S2
    go_wp2_with (at_builtin; refine wpList_append_lies _ rfl _ _ 71 rfl (w.heap.size + 1) 95 i0 _ 1 8 Tryd.underlying71 hi0 hz0 hz1 hz2 rfl (by omega) _ 0 [] rfl (S3.out.own.alloc _) ⟨_, 0, none⟩ 1 1 [ptrV X 3] rfl rfl (World.news_of_block (cs := #[ptrV X 3]) (t := 95) (fr := (0, 0)) (heap_alloc_new _ _)) (by simp [Value.oneCell', ptrV]) (by omega) (by unfold maxLen; omega) (by omega) (by have := S3.out.q.lt; simp; omega) _ rfl ?_; intro a3 c3 w3 ho hg hat hlt; have S4 := hid (S3.out.step ho hg); clear ho hg hat hlt S3; have x4 := S4.out.q.cell; have z4 := S4.out.q.lt)
    go_ret
    exact ⟨_, rfl, S4.out.own, S4.out.bel⟩
  · skip
    have e : offsK (kdN k) = [1] := by unfold offsK; rw [g1, g2, g3]; rfl
    rw [e]
    clear e
    replace g1 := hid g1
    replace g2 := hid g2
    replace g3 := hid g3
    go_enter Tryd.func38, Tryd.ntmps38
    go_wp2_with fail
    refine (has_impl _ _ _ _ _ _ _).mono ?_
    rintro e v0 ⟨rfl, hb⟩
    rw [g1.out]
    have S1 := hid (S0.out.below hb)
    clear hb S0
    go_wp2_with (at_builtin; refine wpList_append_lies _ rfl _ _ 71 rfl (w.heap.size + 1) 95 i0 _ 1 8 Tryd.underlying71 hi0 hz0 hz1 hz2 rfl (by omega) _ 0 [] rfl (S1.out.own.alloc _) ⟨_, 0, none⟩ 1 1 [ptrV X 1] rfl rfl (World.news_of_block (cs := #[ptrV X 1]) (t := 95) (fr := (0, 0)) (heap_alloc_new _ _)) (by simp [Value.oneCell', ptrV]) (by omega) (by unfold maxLen; omega) (by omega) (by have := S1.out.q.lt; simp; omega) _ rfl ?_; intro a1 c1 w1 ho hg hat hlt; have S2 := hid (S1.out.step ho hg); clear ho hg hat hlt S1; have x2 := S2.out.q.cell; have z2 := S2.out.q.lt)
    clear x2 z2
    refine (has_impl _ _ _ _ _ _ _).mono ?_
    rintro e v2 ⟨rfl, hb⟩
    rw [g2.out]
    have S3 := hid (S2.out.below hb)
    clear hb S2
    have x3 := S3.out.q.cell
    go_wp2_with fail
    clear x3
    refine (has_impl _ _ _ _ _ _ _).mono ?_
    rintro e v3 ⟨rfl, hb⟩
    rw [g3.out]
    have S4 := hid (S3.out.below hb)
    clear hb S3
    go_wp2
    go_ret
    exact ⟨_, rfl, S4.out.own, S4.out.bel⟩
end Go.Proofs.YtneagomkohoceaaDoor
