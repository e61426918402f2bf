/- The state of an exact law over a memory that is handed in and one that is answered: three memories in blocks of their own, each with the box behind it. -/
import Derived.Test.YtpdngjjbhcfplalMe
import Derived.Test.YtpdngjjbhcfplalMk
import Derived.Test.YtpdngjjbhcfplalMj
import Derived.Test.YtpdngjjbhcfplalMn
namespace Go.Proofs.Ytpdngjjbhcfplal
open Go.ChangeShapes Go.WideShapes Go.ChangeAt Go.RowKit
set_option linter.unusedVariables false

structure PSt (w W : World) (A0 A8 A10 A11 : Array Value) (l8 b8 l10 b10 l11 b11 : Nat) (V8 V10 V11 : Value) (M8 Mx Mg : Mem) : Prop where
  ord : w.heap.size < l8 ∧ l8 ≤ b8 ∧ b8 < l10 ∧ l10 ≤ b10 ∧ b10 < l11 ∧ l11 ≤ b11 ∧ b11 < W.heap.size
  q0 : Blk W w.heap.size A0
  q8 : Blk W b8 A8
  q10 : Blk W b10 A10
  q11 : Blk W b11 A11
  m8 : MemO W l8 b8 V8 M8
  m10 : MemO W l10 b10 V10 Mx
  m11 : MemO W l11 b11 V11 Mg
  bel : Below w.heap.size w W
theorem Blk.touch {w w' : World} {b lo hi : Nat} {cs : Array Value} (h : Blk w b cs) (ht : Touch lo hi w w') (hd : b < lo ∨ hi ≤ b) : Blk w' b cs := by
  have hl := h.lt
  obtain ⟨t, h⟩ := h
  exact ⟨t, (ht.block b hl hd).trans h⟩
theorem PSt.below {w W W' : World} {A0 A8 A10 A11 : Array Value} {l8 b8 l10 b10 l11 b11 : Nat} {V8 V10 V11 : Value} {M8 Mx Mg : Mem} (h : PSt w W A0 A8 A10 A11 l8 b8 l10 b10 l11 b11 V8 V10 V11 M8 Mx Mg) (hb : Below W.heap.size W W') :
    PSt w W' A0 A8 A10 A11 l8 b8 l10 b10 l11 b11 V8 V10 V11 M8 Mx Mg := by
  obtain ⟨⟨o1, o2, o3, o4, o5, o6, o7⟩, q0, q8, q10, q11, m8, m10, m11, bel⟩ := h
  have hz := hb.size
  exact ⟨⟨o1, o2, o3, o4, o5, o6, by omega⟩, q0.below hb (by omega), q8.below hb (by omega), q10.below hb (by omega), q11.below hb (by omega), m8.below hb (by omega), m10.below hb (by omega), m11.below hb (by omega), bel.trans (hb.mono bel.size)⟩
theorem PSt.markX {w W W' : World} {A0 A8 A10 A11 : Array Value} {l8 b8 l10 b10 l11 b11 : Nat} {V8 V10 V11 : Value} {M8 Mx Mg Mx' : Mem} (h : PSt w W A0 A8 A10 A11 l8 b8 l10 b10 l11 b11 V8 V10 V11 M8 Mx Mg) (ht : Touch l10 b10 W W') (hm : MemO W' l10 b10 V10 Mx') :
    PSt w W' A0 A8 A10 A11 l8 b8 l10 b10 l11 b11 V8 V10 V11 M8 Mx' Mg := by
  obtain ⟨⟨o1, o2, o3, o4, o5, o6, o7⟩, q0, q8, q10, q11, m8, m10, m11, bel⟩ := h
  have hz := ht.size
  have hw := bel.size
  exact ⟨⟨o1, o2, o3, o4, o5, o6, by omega⟩, q0.touch ht (by omega), q8.touch ht (by omega), q10.touch ht (by omega), q11.touch ht (by omega), m8.touch ht (by omega) (by omega), hm, m11.touch ht (by omega) (by omega), ht.below bel (by omega) hw⟩
theorem PSt.markG {w W W' : World} {A0 A8 A10 A11 : Array Value} {l8 b8 l10 b10 l11 b11 : Nat} {V8 V10 V11 : Value} {M8 Mx Mg Mg' : Mem} (h : PSt w W A0 A8 A10 A11 l8 b8 l10 b10 l11 b11 V8 V10 V11 M8 Mx Mg) (ht : Touch l11 b11 W W') (hm : MemO W' l11 b11 V11 Mg') :
    PSt w W' A0 A8 A10 A11 l8 b8 l10 b10 l11 b11 V8 V10 V11 M8 Mx Mg' := by
  obtain ⟨⟨o1, o2, o3, o4, o5, o6, o7⟩, q0, q8, q10, q11, m8, m10, m11, bel⟩ := h
  have hz := ht.size
  have hw := bel.size
  exact ⟨⟨o1, o2, o3, o4, o5, o6, by omega⟩, q0.touch ht (by omega), q8.touch ht (by omega), q10.touch ht (by omega), q11.touch ht (by omega), m8.touch ht (by omega) (by omega), m10.touch ht (by omega) (by omega), hm, ht.below bel (by omega) hw⟩
/-- the same for an answer that hangs on no memory -/
structure NSt (w W : World) (A8 A11 : Array Value) (b8 l11 b11 : Nat) (V8 V11 : Value) (M8 Mg : Mem) : Prop where
  ord : w.heap.size ≤ b8 ∧ b8 < l11 ∧ l11 ≤ b11 ∧ b11 < W.heap.size
  q8 : Blk W b8 A8
  q11 : Blk W b11 A11
  m8 : MemO W w.heap.size b8 V8 M8
  m11 : MemO W l11 b11 V11 Mg
  bel : Below w.heap.size w W
theorem NSt.below {w W W' : World} {A8 A11 : Array Value} {b8 l11 b11 : Nat} {V8 V11 : Value} {M8 Mg : Mem} (h : NSt w W A8 A11 b8 l11 b11 V8 V11 M8 Mg) (hb : Below W.heap.size W W') : NSt w W' A8 A11 b8 l11 b11 V8 V11 M8 Mg := by
  obtain ⟨⟨o1, o2, o3, o4⟩, q8, q11, m8, m11, bel⟩ := h
  have hz := hb.size
  exact ⟨⟨o1, o2, o3, by omega⟩, q8.below hb (by omega), q11.below hb (by omega), m8.below hb (by omega), m11.below hb (by omega), bel.trans (hb.mono bel.size)⟩
theorem NSt.markG {w W W' : World} {A8 A11 : Array Value} {b8 l11 b11 : Nat} {V8 V11 : Value} {M8 Mg Mg' : Mem} (h : NSt w W A8 A11 b8 l11 b11 V8 V11 M8 Mg) (ht : Touch l11 b11 W W') (hm : MemO W' l11 b11 V11 Mg') : NSt w W' A8 A11 b8 l11 b11 V8 V11 M8 Mg' := by
  obtain ⟨⟨o1, o2, o3, o4⟩, q8, q11, m8, m11, bel⟩ := h
  have hz := ht.size
  have hw := bel.size
  exact ⟨⟨o1, o2, o3, by omega⟩, q8.touch ht (by omega), q11.touch ht (by omega), m8.touch ht (by omega) (by omega), hm, ht.below bel (by omega) hw⟩
theorem mem0_small : Small mem0 := ⟨Nat.zero_le _, Nat.zero_le _, Nat.zero_le _⟩
theorem pre_set (zss : List (List Int)) (j : Nat) (zs : List Int) (h : zs.length = (zss.getD j []).length) (i : Nat) : pre (zss.set j zs) i = pre zss i := by
  unfold pre
  rw [List.map_take, List.map_take, List.map_set]
  congr 2
  apply List.ext_getElem?
  intro k
  by_cases e : j = k
  · subst e
    by_cases hj : j < zss.length
    · rw [List.getElem?_set_self (by simpa using hj), List.getElem?_map, List.getElem?_eq_getElem hj, h, List.getD_eq_getElem?_getD, List.getElem?_eq_getElem hj]
      rfl
    · rw [List.getElem?_eq_none (by simp; omega), List.getElem?_eq_none (by simp; omega)]
  · rw [List.getElem?_set_ne e]
theorem poke_small {M : Mem} (h : Small M) (a v : Int) : Small (pokeR M a v) := by
  unfold pokeR
  split
  · unfold pokeM
    split
    · exact h
    · refine ⟨h.1, by rw [List.length_set]; exact h.2.1, ?_⟩
      show pre (M.ram.set _ _) (M.ram.set _ _).length ≤ _
      rw [pre_set _ _ _ (by rw [List.length_set]), List.length_set]
      exact h.2.2
  · exact mem0_small
theorem page_small {M : Mem} (h : Small M) (v : Int) : Small (pageR M v) := by
  unfold pageR
  split
  · split
    · exact h
    · exact h
  · exact mem0_small
theorem new_small (s : ByteArray) : Small (newM s) := by
  unfold newM
  split
  · rename_i h
    refine ⟨by show (romL s).length ≤ _; rw [romL_len]; omega, by show (List.replicate 4 (List.replicate 64 (0 : Int))).length ≤ _; decide, by show pre (List.replicate 4 (List.replicate 64 (0 : Int))) (List.replicate 4 (List.replicate 64 (0 : Int))).length ≤ _; decide +kernel⟩
  · exact mem0_small
end Go.Proofs.Ytpdngjjbhcfplal
