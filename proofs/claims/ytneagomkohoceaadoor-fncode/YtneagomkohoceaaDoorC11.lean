/- What the exact laws' helpers over rows of ints answer: equal rows are told equal, marks are held, a copy owns its block, a size is taken off. -/
import Derived.Test.YtneagomkohoceaaDoorC03
import Derived.Deep.DrawnRows
import Derived.Deep.QuietTactic
import Derived.Test.YtneagomkohoceaaDoorTxbc
import Derived.Test.YtneagomkohoceaaDoorHxc
namespace Go.Proofs.YtneagomkohoceaaDoor
open Go.ChangeShapes Go.WideShapes Go.ChangeAt Go.RowKit
set_option linter.unusedVariables false

theorem RowR.drewN {w : World} {v : Value} {zs : List Int} (h : RowR w v zs) (n : Nat) : RowR (w.drewN n) v zs := h
theorem Below.drewN (w : World) (n B : Nat) : Below B w (w.drewN n) := ⟨rfl, rfl, rfl, Nat.le_refl _, fun _ _ => rfl⟩
/-- n numbers from m on -/
def markL (m : Int) (n : Nat) : List Int := (List.range n).map fun (i : Nat) => m + (i : Int)
theorem markL_len (m : Int) (n : Nat) : (markL m n).length = n := by simp [markL]
theorem markL_at (m : Int) (n i : Nat) (h : i < n) : (markL m n).getD i 0 = m + (i : Int) := by
  simp [markL, List.getD_eq_getElem?_getD, List.getElem?_range h]

theorem row_some {w : World} {a : Option Addr} {zs : List Int} (h : zs = [] ∨ ∃ b off, a = some ⟨b, off, none⟩ ∧ ∀ i, i < zs.length → w.cell? ⟨b, off + i, none⟩ = some (.int .i64 (zs.getD i 0))) {k : Nat} (hk : k < zs.length) :
    ∃ b off, a = some ⟨b, off, none⟩ ∧ w.cell? ⟨b, off + k, none⟩ = some (.int .i64 (zs.getD k 0)) := by
  rcases h with h | ⟨b, off, h1, h2⟩
  · rw [h] at hk
    simp at hk
  · exact ⟨b, off, h1, h2 k hk⟩
theorem grown_set1 {w w' : World} {p off : Nat} {u : Value} (h : w.grownBy w' (some p)) : w.grownBy (w'.setCell ⟨p, off, none⟩ u) (some p) :=
  ⟨h.os, h.tape, h.output, by have := h.size; simpa [World.setCell] using this, fun k hk hne => by
    rw [Below.heap_setCell _ _ _ _ (fun e => hne (by rw [e]))]
    exact h.block k hk hne⟩
/-- the first k of the numbers are marked -/
def mkL (zs : List Int) (m : Int) (k : Nat) : List Int := (List.range zs.length).map fun (i : Nat) => if i < k then m + (i : Int) else zs.getD i 0
theorem mkL_len (zs : List Int) (m : Int) (k : Nat) : (mkL zs m k).length = zs.length := by simp [mkL]
theorem mkL_at (zs : List Int) (m : Int) (k i : Nat) (h : i < zs.length) : (mkL zs m k).getD i 0 = if i < k then m + (i : Int) else zs.getD i 0 := by
  simp [mkL, List.getD_eq_getElem?_getD, List.getElem?_range h]
theorem getD_ext {a b : List Int} (hl : a.length = b.length) (h : ∀ i, i < a.length → a.getD i 0 = b.getD i 0) : a = b := by
  apply List.ext_getElem hl
  intro i h1 h2
  have := h i h1
  simpa [List.getD_eq_getElem?_getD, List.getElem?_eq_getElem h1, List.getElem?_eq_getElem h2] using this
theorem mkL_zero (zs : List Int) (m : Int) : mkL zs m 0 = zs := getD_ext (mkL_len _ _ _) (fun i hi => by rw [mkL_len] at hi; rw [mkL_at _ _ _ _ hi, if_neg (by omega)])
theorem mkL_all (zs : List Int) (m : Int) : mkL zs m zs.length = markL m zs.length :=
  getD_ext (by rw [mkL_len, markL_len]) (fun i hi => by rw [mkL_len] at hi; rw [mkL_at _ _ _ _ hi, if_pos hi, markL_at _ _ _ hi])
theorem mkL_succ (zs : List Int) (m : Int) (k : Nat) (hk : k < zs.length) : (mkL zs m k).set k (m + (k : Int)) = mkL zs m (k + 1) := by
  refine getD_ext (by rw [List.length_set, mkL_len, mkL_len]) (fun i hi => ?_)
  rw [List.length_set, mkL_len] at hi
  rw [mkL_at _ _ _ _ hi, List.getD_eq_getElem?_getD]
  by_cases e : k = i
  · subst e
    rw [List.getElem?_set_self (by rw [mkL_len]; exact hi), if_pos (by omega)]
    rfl
  · rw [List.getElem?_set_ne e, ← List.getD_eq_getElem?_getD, mkL_at _ _ _ _ hi]
    by_cases h : i < k
    · rw [if_pos h, if_pos (by omega)]
    · rw [if_neg h, if_neg (by omega)]
theorem infoM : (Tryd.prog.info? 3).map (fun i => (i.zero, i.size, i.bytes)) = some (some (.int .i64 0), 1, 8) := by kernel_rfl
/-- the first k of the numbers are copied, the others are 0 -/
def cpL (zs : List Int) (k : Nat) : List Int := (List.range zs.length).map fun (i : Nat) => if i < k then zs.getD i 0 else 0
theorem cpL_len (zs : List Int) (k : Nat) : (cpL zs k).length = zs.length := by simp [cpL]
theorem cpL_at (zs : List Int) (k i : Nat) (h : i < zs.length) : (cpL zs k).getD i 0 = if i < k then zs.getD i 0 else 0 := by
  simp [cpL, List.getD_eq_getElem?_getD, List.getElem?_range h]
theorem cpL_all (zs : List Int) : cpL zs zs.length = zs := getD_ext (cpL_len _ _) (fun i hi => by rw [cpL_len] at hi; rw [cpL_at _ _ _ hi, if_pos hi])
theorem cpL_succ (zs : List Int) (k : Nat) (hk : k < zs.length) : (cpL zs k).set k (zs.getD k 0) = cpL zs (k + 1) := by
  refine getD_ext (by rw [List.length_set, cpL_len, cpL_len]) (fun i hi => ?_)
  rw [List.length_set, cpL_len] at hi
  rw [cpL_at _ _ _ hi, List.getD_eq_getElem?_getD]
  by_cases e : k = i
  · subst e
    rw [List.getElem?_set_self (by rw [cpL_len]; exact hi), if_pos (by omega)]
    rfl
  · rw [List.getElem?_set_ne e, ← List.getD_eq_getElem?_getD, cpL_at _ _ _ hi]
    by_cases h : i < k
    · rw [if_pos h, if_pos (by omega)]
    · rw [if_neg h, if_neg (by omega)]
theorem cpL_made (w : World) (zs : List Int) (t : TypeId) : RowO (w.alloc (.cells (madeCells #[.int .i64 0] zs.length) t)) w.heap.size (.slice (some ⟨w.heap.size, 0, none⟩) zs.length zs.length) (cpL zs 0) := by
  refine ⟨zs.length, madeCells #[.int .i64 0] zs.length, t, by rw [cpL_len], heap_alloc_new w _, fun i hi => ?_⟩
  rw [cpL_len] at hi
  rw [cpL_at _ _ _ hi, if_neg (by omega), ← Array.getElem?_toList, toList_madeCells_one, List.getElem?_replicate, if_pos hi]
end Go.Proofs.YtneagomkohoceaaDoor

/- A byte's two hexadecimal digits as a text: both sides. -/
namespace Go.Proofs.YtneagomkohoceaaDoor
open Go.ChangeShapes Go.WideShapes Go.ChangeAt Go.RowKit
set_option linter.unusedVariables false
set_option linter.unusedSimpArgs false

def hxB (v : Int) : ByteArray := strOfNums (hexN (strOfNums [v]) (strOfNums [v]).size)
theorem hxB_size (v : Int) : (hxB v).size = 2 := by
  unfold hxB
  rw [strOfNums_size, hexN_length, strOfNums_size]
  rfl
theorem hxB_V (v : Int) : hexV (strOfNums [v]) = hxB v := by
  unfold hexV hxB
  rw [if_neg (by rw [strOfNums_size]; simp)]
theorem hexb_spec (v : Int) (w : World) (h0 : 0 ≤ v) (h1 : v ≤ 255) : Calls Tryd.prog 77 #[.int .i64 v] w fun e w' => e = .returned (.string (hxB v)) ∧ Below w.heap.size w w' := by
  have hc := fun W g (h : World.cell? W ⟨g, 0, none⟩ = some (.int .u8 v)) => convIg W g v h
  have hH := hid (fun W => hex_spec (strOfNums [v]) W (by rw [strOfNums_size]; simp))
  have hwr : IntKind.u8.wrap v = v := by rw [IntKind.wrap_u8]; omega
  have hE : Hid (strOfNums (hexN (strOfNums [v]) (strOfNums [v]).size) = hxB v) := rfl
  rw [hE.out] at hH
  go_enter Tryd.func77, Tryd.ntmps77
  go_wp2_with fail
  refine (hH.out _).mono ?_
  rintro e w1 ⟨rfl, hb⟩
  have hb1 := hid (new_trans ((Below.refl w.heap.size w).alloc (Nat.le_refl _) _) hb)
  clear hb
  go_wp2
  go_ret
  exact ⟨rfl, hb1.out⟩
def b8X (L : List Int) : Array Value := (L.map (Value.int .u8)).toArray
theorem b8_setX (L : List Int) (k : Nat) (z : Int) : (b8X L).setIfInBounds k (.int .u8 z) = b8X (L.set k z) := by
  unfold b8X
  rw [List.setIfInBounds_toArray, List.map_set]
theorem b8_madeX (n : Nat) : madeCells #[.int .u8 0] n = b8X (List.replicate n 0) := by
  apply Array.ext'
  rw [toList_madeCells_one]
  unfold b8X
  simp
theorem b8_atX (L : List Int) {k : Nat} (h : k < L.length) : (b8X L)[k]? = some (.int .u8 (L.getD k 0)) := by
  unfold b8X
  simp [List.getElem?_eq_getElem h]
theorem b8_stringX {W : World} {g : Nat} {L : List Int} (h : Blk W g (b8X L)) (cap : Nat) : (convert 22 9 (.slice (some ⟨g, 0, none⟩) L.length cap)).run Tryd.prog W = .ok (.string (strOfNums L)) W :=
  run_convert_bytes_arg _ 22 5 Tryd.underlying22 Tryd.underlying5 g 0 L.length cap L rfl (fun i hi => by
    rw [Nat.zero_add, h.cell i]
    exact b8_atX L (by simpa using hi)) 9 Tryd.underlying9
set_option maxRecDepth 100000 in
set_option maxHeartbeats 1000000 in
theorem textof_implX (a : Option Addr) (cap : Nat) (zs : List Int) (w : World) (h : RowR w (.slice a zs.length cap) zs) (hz : ∀ z ∈ zs, 0 ≤ z ∧ z ≤ 255) (hl : zs.length ≤ 1000000000) :
    Calls Tryd.prog 85 #[.slice a zs.length cap] w fun e w' => e = .returned (.string (strOfNums zs)) ∧ Below w.heap.size w w' := by
  have h' : zs = [] ∨ ∃ b off, a = some ⟨b, off, none⟩ ∧ ∀ i, i < zs.length → w.cell? ⟨b, off + i, none⟩ = some (.int .i64 (zs.getD i 0)) := by
    obtain ⟨a', c', e, h⟩ := h
    injection e with e1 e2 e3
    subst e1
    exact h
  replace h := hid h'
  clear h'
  have hmk := fun W => run_make_row' (P := Tryd.prog) 22 5 (.int .u8 0) 1 Tryd.underlying22 infoU8 rfl .i64 .i64 zs.length (by omega) (by omega) W
  have h0 : Hid (Blk (w.alloc (.cells (madeCells #[.int .u8 0] zs.length) 5)) w.heap.size (b8X (cpL zs 0))) := by
    have := Blk.new w (madeCells #[.int .u8 0] zs.length) 5
    rw [b8_madeX] at this
    rw [b8_madeX]
    have e : cpL zs 0 = List.replicate zs.length 0 := List.eq_replicate_iff.2 ⟨cpL_len _ _, fun b hb => by
      unfold cpL at hb
      obtain ⟨i, _, rfl⟩ := List.mem_map.1 hb
      rfl⟩
    rw [e]
    exact this
  have hall : Hid (cpL zs zs.length = zs) := cpL_all zs
  have hz2 : Hid (∀ k, k < zs.length → 0 ≤ zs.getD k 0 ∧ zs.getD k 0 ≤ 255) := fun k hk => by
    rw [List.getD_eq_getElem?_getD, List.getElem?_eq_getElem hk]
    exact hz _ (List.getElem_mem hk)
  clear hz
  generalize madeCells #[.int .u8 0] zs.length = MC at *
  go_enter Tryd.func85, Tryd.ntmps85
  go_wp2
  clear hmk
  go_loopw [11] (fun i wr => ∃ k : Nat, k ≤ zs.length ∧ i = .int .i64 k ∧ Blk wr w.heap.size (b8X (cpL zs k)) ∧ Below w.heap.size w wr) (fun i _ => zs.length - (intOf i).toNat)
  case atStart => exact ⟨0, by omega, rfl, h0.out, (Below.refl _ _).alloc (Nat.le_refl _) _⟩
  case round =>
    obtain ⟨k, hk, rfl, hM, hB⟩ := hrel
    clear h0
    by_cases hlt : k < zs.length
    · obtain ⟨b, off, rfl, c1⟩ := row_some h.out hlt
      have hb := World.block_lt_of_cell? w _ c1
      have c2 : wr.cell? ⟨b, off + k, none⟩ = some (.int .i64 (zs.getD k 0)) := by rw [hB.cell (p := ⟨b, off + k, none⟩) hb]; exact c1
      have hx : wr.cell? ⟨w.heap.size, k, none⟩ = some (.int .u8 ((cpL zs k).getD k 0)) := by rw [hM.cell k]; exact b8_atX _ (by rw [cpL_len]; exact hlt)
      have hfr := hM.frozen k
      obtain ⟨z0, z1⟩ := hz2.out k hlt
      have hwr : IntKind.u8.wrap (zs.getD k 0) = zs.getD k 0 := by rw [IntKind.wrap_u8]; omega
      generalize (cpL zs k).getD k 0 = x at hx
      have hM2 : Hid (Blk (wr.setCell ⟨w.heap.size, k, none⟩ (.int .u8 (zs.getD k 0))) w.heap.size (b8X (cpL zs (k + 1))) ∧ Below w.heap.size w (wr.setCell ⟨w.heap.size, k, none⟩ (.int .u8 (zs.getD k 0)))) :=
        ⟨by rw [← cpL_succ zs k hlt, ← b8_setX]; exact hM.set k _, hB.setCell (p := ⟨w.heap.size, k, none⟩) (Nat.le_refl _) _⟩
      clear hM hB c1 hb h hz2
      generalize zs.getD k 0 = z at *
      go_wp2
      go_roundw
      case rel => exact ⟨k + 1, by omega, by go_num, hM2.out⟩
      case measure => simp [intOf]; omega
    · obtain rfl : k = zs.length := by omega
      rw [hall.out] at hM
      have hcv := b8_stringX hM zs.length
      replace hB := hid hB
      clear hM hz2
      go_wp2
      go_ret
      exact ⟨rfl, hB.out⟩
theorem hexb_impl (v : Int) (w : World) (h0 : 0 ≤ v) (h1 : v ≤ 255) : Calls Tryd.prog 72 #[.int .i64 v] w fun e w' => e = .returned (.string (hxB v)) ∧ Below w.heap.size w w' := by
  have hb0 := hid ((Below.refl w.heap.size w).alloc (Nat.le_refl _) (.cells #[.int .i64 v] 3))
  have hR : RowR (w.alloc (.cells #[.int .i64 v] 3)) (.slice (some ⟨w.heap.size, 0, none⟩) [v].length 1) [v] := ⟨_, _, rfl, .inr ⟨w.heap.size, 0, rfl, fun i hi => by
    match i, hi with
    | 0, _ => exact (Blk.new w #[.int .i64 v] 3).cell 0⟩⟩
  have hT := hid (textof_implX (some ⟨w.heap.size, 0, none⟩) 1 [v] (w.alloc (.cells #[.int .i64 v] 3)) hR (by intro z hz; rw [List.mem_singleton] at hz; subst hz; exact ⟨h0, h1⟩) (by simp))
  have hH := hid (fun W => hex_impl (strOfNums [v]) W (by rw [strOfNums_size]; simp [maxLen]))
  rw [hxB_V] at hH
  clear hR
  go_enter Tryd.func72, Tryd.ntmps72
  go_wp2_with fail
  refine hT.out.mono ?_
  rintro e w1 ⟨rfl, hb⟩
  have hb1 := hid (new_trans hb0.out hb)
  clear hb hb0 hT
  go_wp2_with fail
  refine (hH.out _).mono ?_
  rintro e w2 ⟨rfl, hb⟩
  have hb2 := hid (new_trans hb1.out hb)
  clear hb hb1 hH
  go_wp2
  go_ret
  exact ⟨rfl, hb2.out⟩
end Go.Proofs.YtneagomkohoceaaDoor
