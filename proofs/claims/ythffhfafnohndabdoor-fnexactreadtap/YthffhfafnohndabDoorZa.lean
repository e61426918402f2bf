/- The program's blocks: right or not, their sum, their text. -/
import Derived.Test.YthffhfafnohndabDoorUb
import Derived.Lib.AppendStr
import Derived.Deep.AppendLies
namespace Go.Proofs.YthffhfafnohndabDoor
open Go.ChangeShapes Go.WideShapes Go.ChangeAt Go.RowKit
set_option linter.unusedVariables false
set_option linter.unusedSimpArgs false

theorem sumP_impl (f : Int) (s : ByteArray) (w : World) (hs : s.size ≤ 40) : Calls Tryd.prog 35 #[bkV f s] w fun e w' => e = .returned (.int .i64 (sumB f s)) ∧ Below w.heap.size w w' := by
  have hB := hid ((Below.refl w.heap.size w).alloc (Nat.le_refl _) (.cells (bkA f s) 27))
  have q := Blk.new w (bkA f s) 27
  have x0 : (w.alloc (.cells (bkA f s) 27)).cell? ⟨w.heap.size, 0, none⟩ = some (.int .i64 f) := q.cell 0
  have x1 : (w.alloc (.cells (bkA f s) 27)).cell? ⟨w.heap.size, 1, none⟩ = some (.string s) := q.cell 1
  have hX := hid (fun w1 => xor_impl s w1 (by unfold maxLen; omega))
  have e0 : xorV s = xorN s s.size := if_neg (by omega)
  rw [e0] at hX
  have e : sumB f s = bits .xor .i64 f (xorN s s.size) := rfl
  rw [e]
  generalize xorN s s.size = X at *
  clear q e e0
  go_enter Tryd.func35, Tryd.ntmps35
  go_upto_region 1 with fail
  obtain ⟨V, hV⟩ : ∃ V, w.alloc (.cells (bkA f s) 27) = V := ⟨_, rfl⟩
  rw [hV] at hB x0 x1 ⊢
  clear hV
  go_quiet ((go_at_call 40; exact Calls.quiet_of_same (hX.out _)))
  go_wp2
  go_ret
  exact ⟨rfl, hB.out.trans ⟨rfl, rfl, rfl, Nat.le_refl _, fun _ _ => rfl⟩⟩
def numS (s : ByteArray) : List Int := s.data.toList.map fun b => (b.toNat : Int)
theorem numS_cells (s : ByteArray) : Lib.strCells s = (numS s).map (Value.int .u8) := by
  unfold Lib.strCells numS
  rw [List.map_map]
  rfl
theorem numS_len (s : ByteArray) : (numS s).length = s.size := by
  unfold numS
  rw [List.length_map, Array.length_toList]
  rfl
theorem strOfNums_app (a b : List Int) : strOfNums (a ++ b) = strOfNums a ++ strOfNums b := by
  apply ByteArray.ext
  rw [ByteArray.data_append]
  unfold strOfNums
  simp
theorem strOfNums_numS (s : ByteArray) : strOfNums (numS s) = s := by
  apply ByteArray.ext
  unfold strOfNums numS
  simp [Function.comp_def]
theorem bytB_nums (f : Int) (s : ByteArray) : strOfNums ([f] ++ numS s ++ [sumB f s]) = bytB f s := by
  rw [strOfNums_app, strOfNums_app, strOfNums_numS]
  rfl
theorem putV_small (v : Int) (h0 : 0 ≤ v) (h1 : v ≤ 65535) : putV ⟨#[]⟩ v = .tuple #[.string (strOfNums [v % 256, v / 256]), .int .i64 0] := by
  unfold putV
  rw [if_neg (by decide), if_neg (by omega), if_neg (by decide)]
  have : (⟨#[]⟩ : ByteArray) ++ strOfNums [v % 256, v / 256] = strOfNums [v % 256, v / 256] := by
    apply ByteArray.ext
    rw [ByteArray.data_append]
    simp
  rw [this]
/-- while a text is written: the block's box, the bytes so far -/
structure TxS (w W : World) (f : Int) (s : ByteArray) (v : Value) (xs : List Int) : Prop where
  box : Blk W w.heap.size (bkA f s)
  own : W.ownsRow (w.heap.size + 1) 5 1 v xs.length (xs.map (Value.int .u8))
  sz : w.heap.size + 1 ≤ W.heap.size
  bel : Below w.heap.size w W
theorem TxS.start (w : World) (f : Int) (s : ByteArray) : Blk (w.alloc (.cells (bkA f s) 27)) w.heap.size (bkA f s) ∧ Below w.heap.size w (w.alloc (.cells (bkA f s) 27)) ∧ w.heap.size + 1 ≤ (w.alloc (.cells (bkA f s) 27)).heap.size :=
  ⟨Blk.new w _ _, (Below.refl _ _).alloc (Nat.le_refl _) _, by simp⟩
theorem TxS.make {w V W : World} {f : Int} {s : ByteArray} {v : Value} (h : Blk V w.heap.size (bkA f s) ∧ Below w.heap.size w V ∧ w.heap.size + 1 ≤ V.heap.size) (hg : V.grownBy W none) (ho : W.ownsRow (w.heap.size + 1) 5 1 v 0 []) : TxS w W f s v [] :=
  ⟨h.1.grown hg (by simp), ho, Nat.le_trans h.2.2 hg.size, h.2.1.grown hg (by omega) (fun g e => by cases e)⟩
theorem TxS.app {w W W' : World} {f : Int} {s : ByteArray} {v v' : Value} {xs ys : List Int} {o : Obj} {n : Nat} {zs : List Value} (h : TxS w W f s v xs) (hg : (W.alloc o).grownBy W' v.ownBlock) (ho : W'.ownsRow (w.heap.size + 1) 5 1 v' n zs) (hn : n = (xs ++ ys).length := by simp) (hz : zs = (xs ++ ys).map (Value.int .u8) := by simp) : TxS w W' f s v' (xs ++ ys) := by
  subst hn
  subst hz
  have hne : v.ownBlock ≠ some w.heap.size := fun e => by have := (h.own.lt _ e).1; omega
  have h1 : w.heap.size ≤ (W.alloc o).heap.size := by have := h.sz; simp; omega
  refine ⟨(h.box.alloc o).grown hg (fun e => hne e.symm), ho, ?_, (h.bel.alloc (by have := h.sz; omega) o).grown hg h1 (fun g e => by have := (h.own.lt g e).1; omega)⟩
  have := hg.size
  have := h.sz
  simp at *
  omega
theorem TxS.apps {w W W' : World} {f : Int} {s : ByteArray} {v v' : Value} {xs ys : List Int} {n : Nat} {zs : List Value} (h : TxS w W f s v xs) (hg : W.grownBy W' v.ownBlock) (ho : W'.ownsRow (w.heap.size + 1) 5 1 v' n zs) (hn : n = (xs ++ ys).length) (hz : zs = (xs ++ ys).map (Value.int .u8)) : TxS w W' f s v' (xs ++ ys) := by
  subst hn
  subst hz
  have hne : v.ownBlock ≠ some w.heap.size := fun e => by have := (h.own.lt _ e).1; omega
  have h1 : w.heap.size ≤ W.heap.size := by have := h.sz; omega
  exact ⟨h.box.grown hg (fun e => hne e.symm), ho, Nat.le_trans h.sz hg.size, h.bel.grown hg h1 (fun g e => by have := (h.own.lt g e).1; omega)⟩
theorem TxS.below {w W W' : World} {f : Int} {s : ByteArray} {v : Value} {xs : List Int} (h : TxS w W f s v xs) (hb : Below W.heap.size W W') : TxS w W' f s v xs :=
  ⟨h.box.below hb h.box.lt, h.own.kept (row := none) ⟨hb.os, hb.tape, hb.output, hb.size, fun k hk _ => hb.block k hk⟩ (by cases h1 : v.ownBlock; exact .inl rfl; exact .inr (by simp)), Nat.le_trans h.sz hb.size, h.bel.trans (hb.mono (by have := h.sz; omega))⟩
end Go.Proofs.YthffhfafnohndabDoor
