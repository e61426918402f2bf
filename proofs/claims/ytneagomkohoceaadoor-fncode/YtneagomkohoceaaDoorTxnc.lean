/- A byte's two hexadecimal digits as a text: both sides. -/
import Derived.Test.YtneagomkohoceaaDoorTxbc
import Derived.Test.YtneagomkohoceaaDoorHxc
import Derived.Test.YtneagomkohoceaaDoorC16
namespace Go.Proofs.YtneagomkohoceaaDoor
open Go.ChangeShapes Go.WideShapes Go.ChangeAt Go.RowKit
set_option linter.unusedVariables false
set_option linter.unusedSimpArgs false

def hxB (v : Int) : ByteArray := strOfNums (hexN (strOfNums [v]) (strOfNums [v]).size)
theorem hxB_size (v : Int) : (hxB v).size = 2 := by
  unfold hxB
  rw [strOfNums_size, hexN_length, strOfNums_size]
  rfl
theorem hxB_V (v : Int) : hexV (strOfNums [v]) = hxB v := by
  unfold hexV hxB
  rw [if_neg (by rw [strOfNums_size]; simp)]
theorem hexb_spec (v : Int) (w : World) (h0 : 0 ≤ v) (h1 : v ≤ 255) : Calls Tryd.prog 77 #[.int .i64 v] w fun e w' => e = .returned (.string (hxB v)) ∧ Below w.heap.size w w' := by
  have hc := fun W g (h : World.cell? W ⟨g, 0, none⟩ = some (.int .u8 v)) => convIg W g v h
  have hH := hid (fun W => hex_spec (strOfNums [v]) W (by rw [strOfNums_size]; simp))
  have hwr : IntKind.u8.wrap v = v := by rw [IntKind.wrap_u8]; omega
  have hE : Hid (strOfNums (hexN (strOfNums [v]) (strOfNums [v]).size) = hxB v) := rfl
  rw [hE.out] at hH
  go_enter Tryd.func77, Tryd.ntmps77
  go_wp2_with fail
  refine (hH.out _).mono ?_
  rintro e w1 ⟨rfl, hb⟩
  have hb1 := hid (new_trans ((Below.refl w.heap.size w).alloc (Nat.le_refl _) _) hb)
  clear hb
  go_wp2
  go_ret
  exact ⟨rfl, hb1.out⟩
def b8X (L : List Int) : Array Value := (L.map (Value.int .u8)).toArray
theorem b8_setX (L : List Int) (k : Nat) (z : Int) : (b8X L).setIfInBounds k (.int .u8 z) = b8X (L.set k z) := by
  unfold b8X
  rw [List.setIfInBounds_toArray, List.map_set]
theorem b8_madeX (n : Nat) : madeCells #[.int .u8 0] n = b8X (List.replicate n 0) := by
  apply Array.ext'
  rw [toList_madeCells_one]
  unfold b8X
  simp
theorem b8_atX (L : List Int) {k : Nat} (h : k < L.length) : (b8X L)[k]? = some (.int .u8 (L.getD k 0)) := by
  unfold b8X
  simp [List.getElem?_eq_getElem h]
theorem b8_stringX {W : World} {g : Nat} {L : List Int} (h : Blk W g (b8X L)) (cap : Nat) : (convert 22 9 (.slice (some ⟨g, 0, none⟩) L.length cap)).run Tryd.prog W = .ok (.string (strOfNums L)) W :=
  run_convert_bytes_arg _ 22 5 Tryd.underlying22 Tryd.underlying5 g 0 L.length cap L rfl (fun i hi => by
    rw [Nat.zero_add, h.cell i]
    exact b8_atX L (by simpa using hi)) 9 Tryd.underlying9
set_option maxRecDepth 100000 in
set_option maxHeartbeats 1000000 in
theorem textof_implX (a : Option Addr) (cap : Nat) (zs : List Int) (w : World) (h : RowR w (.slice a zs.length cap) zs) (hz : ∀ z ∈ zs, 0 ≤ z ∧ z ≤ 255) (hl : zs.length ≤ 1000000000) :
    Calls Tryd.prog 85 #[.slice a zs.length cap] w fun e w' => e = .returned (.string (strOfNums zs)) ∧ Below w.heap.size w w' := by
  have h' : zs = [] ∨ ∃ b off, a = some ⟨b, off, none⟩ ∧ ∀ i, i < zs.length → w.cell? ⟨b, off + i, none⟩ = some (.int .i64 (zs.getD i 0)) := by
    obtain ⟨a', c', e, h⟩ := h
    injection e with e1 e2 e3
    subst e1
    exact h
  replace h := hid h'
  clear h'
  have hmk := fun W => run_make_row' (P := Tryd.prog) 22 5 (.int .u8 0) 1 Tryd.underlying22 infoU8 rfl .i64 .i64 zs.length (by omega) (by omega) W
  have h0 : Hid (Blk (w.alloc (.cells (madeCells #[.int .u8 0] zs.length) 5)) w.heap.size (b8X (cpL zs 0))) := by
    have := Blk.new w (madeCells #[.int .u8 0] zs.length) 5
    rw [b8_madeX] at this
    rw [b8_madeX]
    have e : cpL zs 0 = List.replicate zs.length 0 := List.eq_replicate_iff.2 ⟨cpL_len _ _, fun b hb => by
      unfold cpL at hb
      obtain ⟨i, _, rfl⟩ := List.mem_map.1 hb
      rfl⟩
    rw [e]
    exact this
  have hall : Hid (cpL zs zs.length = zs) := cpL_all zs
  have hz2 : Hid (∀ k, k < zs.length → 0 ≤ zs.getD k 0 ∧ zs.getD k 0 ≤ 255) := fun k hk => by
    rw [List.getD_eq_getElem?_getD, List.getElem?_eq_getElem hk]
    exact hz _ (List.getElem_mem hk)
  clear hz
  generalize madeCells #[.int .u8 0] zs.length = MC at *
  go_enter Tryd.func85, Tryd.ntmps85
  go_wp2
  clear hmk
  go_loopw [11] (fun i wr => ∃ k : Nat, k ≤ zs.length ∧ i = .int .i64 k ∧ Blk wr w.heap.size (b8X (cpL zs k)) ∧ Below w.heap.size w wr) (fun i _ => zs.length - (intOf i).toNat)
  case atStart => exact ⟨0, by omega, rfl, h0.out, (Below.refl _ _).alloc (Nat.le_refl _) _⟩
  case round =>
    obtain ⟨k, hk, rfl, hM, hB⟩ := hrel
    clear h0
    by_cases hlt : k < zs.length
    · obtain ⟨b, off, rfl, c1⟩ := row_some h.out hlt
      have hb := World.block_lt_of_cell? w _ c1
      have c2 : wr.cell? ⟨b, off + k, none⟩ = some (.int .i64 (zs.getD k 0)) := by rw [hB.cell (p := ⟨b, off + k, none⟩) hb]; exact c1
      have hx : wr.cell? ⟨w.heap.size, k, none⟩ = some (.int .u8 ((cpL zs k).getD k 0)) := by rw [hM.cell k]; exact b8_atX _ (by rw [cpL_len]; exact hlt)
      have hfr := hM.frozen k
      obtain ⟨z0, z1⟩ := hz2.out k hlt
      have hwr : IntKind.u8.wrap (zs.getD k 0) = zs.getD k 0 := by rw [IntKind.wrap_u8]; omega
      generalize (cpL zs k).getD k 0 = x at hx
      have hM2 : Hid (Blk (wr.setCell ⟨w.heap.size, k, none⟩ (.int .u8 (zs.getD k 0))) w.heap.size (b8X (cpL zs (k + 1))) ∧ Below w.heap.size w (wr.setCell ⟨w.heap.size, k, none⟩ (.int .u8 (zs.getD k 0)))) :=
        ⟨by rw [← cpL_succ zs k hlt, ← b8_setX]; exact hM.set k _, hB.setCell (p := ⟨w.heap.size, k, none⟩) (Nat.le_refl _) _⟩
      clear hM hB c1 hb h hz2
      generalize zs.getD k 0 = z at *
      go_wp2
      go_roundw
      case rel => exact ⟨k + 1, by omega, by go_num, hM2.out⟩
      case measure => simp [intOf]; omega
    · obtain rfl : k = zs.length := by omega
      rw [hall.out] at hM
      have hcv := b8_stringX hM zs.length
      replace hB := hid hB
      clear hM hz2
      go_wp2
      go_ret
      exact ⟨rfl, hB.out⟩
theorem hexb_impl (v : Int) (w : World) (h0 : 0 ≤ v) (h1 : v ≤ 255) : Calls Tryd.prog 72 #[.int .i64 v] w fun e w' => e = .returned (.string (hxB v)) ∧ Below w.heap.size w w' := by
  have hb0 := hid ((Below.refl w.heap.size w).alloc (Nat.le_refl _) (.cells #[.int .i64 v] 3))
  have hR : RowR (w.alloc (.cells #[.int .i64 v] 3)) (.slice (some ⟨w.heap.size, 0, none⟩) [v].length 1) [v] := ⟨_, _, rfl, .inr ⟨w.heap.size, 0, rfl, fun i hi => by
    match i, hi with
    | 0, _ => exact (Blk.new w #[.int .i64 v] 3).cell 0⟩⟩
  have hT := hid (textof_implX (some ⟨w.heap.size, 0, none⟩) 1 [v] (w.alloc (.cells #[.int .i64 v] 3)) hR (by intro z hz; rw [List.mem_singleton] at hz; subst hz; exact ⟨h0, h1⟩) (by simp))
  have hH := hid (fun W => hex_impl (strOfNums [v]) W (by rw [strOfNums_size]; simp [maxLen]))
  rw [hxB_V] at hH
  clear hR
  go_enter Tryd.func72, Tryd.ntmps72
  go_wp2_with fail
  refine hT.out.mono ?_
  rintro e w1 ⟨rfl, hb⟩
  have hb1 := hid (new_trans hb0.out hb)
  clear hb hb0 hT
  go_wp2_with fail
  refine (hH.out _).mono ?_
  rintro e w2 ⟨rfl, hb⟩
  have hb2 := hid (new_trans hb1.out hb)
  clear hb hb1 hH
  go_wp2
  go_ret
  exact ⟨rfl, hb2.out⟩
end Go.Proofs.YtneagomkohoceaaDoor
