/- Blocks out of pulses: the specification's DecodePulses; rows that are copied whole. -/
import Derived.Test.YtakdhmlegickmabDoorXsv
import Derived.Test.YtakdhmlegickmabDoorMbv
namespace Go.Proofs.YtakdhmlegickmabDoor
open Go.ChangeShapes Go.WideShapes Go.ChangeAt Go.RowKit
set_option linter.unusedVariables false
set_option linter.unusedSimpArgs false

set_option maxRecDepth 100000 in
set_option maxHeartbeats 2000000 in
theorem decode_spec (a : Option Addr) (cap : Nat) (P : List Int) (w : World) (h : RowR w (.slice a P.length cap) P) (hl : P.length ≤ 1048576) :
    Calls Tryd.prog 19 #[.slice a P.length cap] w fun e w' => ∃ v, e = .returned (.tuple #[v, .int .i64 (dec2 P).2]) ∧ Hs w w' v (dec2 P).1 := by
  by_cases h1 : 4096 < P.length
  · have e : dec2 P = ([], 2) := if_pos h1
    rw [e]
    have hO := hid (Hs.nil (w := w) (Below.refl w.heap.size w))
    go_enter Tryd.func19, Tryd.ntmps19
    go_wp2
    go_ret2
    exact ⟨_, rfl, hO.out⟩
  have hOk := hid (pok_specV a cap P w h (by omega))
  have h9 : decide ((4096 : Int) < (P.length : Int)) = false := decide_eq_false (by omega)
  cases hc : allP P
  · have e : dec2 P = ([], 4) := by unfold dec2; rw [if_neg h1, hc]; rfl
    rw [e]
    rw [hc] at hOk
    have hO := hid (Hs.nil (w := w) (Below.refl w.heap.size w))
    go_enter Tryd.func19, Tryd.ntmps19
    go_wp2_with (go_at_call 32; refine hOk.out.mono ?_; rintro e w' ⟨rfl, hww⟩; obtain rfl := hww.symm)
    go_ret2
    exact ⟨_, rfl, hO.out⟩
  · have e : dec2 P = decL (P.length + 1) P [] := by unfold dec2; rw [if_neg h1, hc]; rfl
    rw [e]
    have hH := hid (hear_spec a cap P w h (by omega) hc)
    rw [hc] at hOk
    obtain ⟨Z, hZ⟩ : ∃ Z, decL (P.length + 1) P [] = Z := ⟨_, rfl⟩
    rw [hZ] at hH ⊢
    clear hZ e hc
    replace h := hid h
    go_enter Tryd.func19, Tryd.ntmps19
    go_wp2_with fail
    refine hOk.out.mono ?_
    rintro e w1 ⟨rfl, hww⟩
    obtain rfl := hww.symm
    go_wp2_with fail
    refine hH.out.mono ?_
    rintro e w2 ⟨v2, rfl, hS⟩
    obtain ⟨oa, ocap, rfl⟩ := hS.form
    replace hS := hid hS
    go_wp2_with fail
    go_ret2
    exact ⟨_, rfl, hS.out⟩
set_option maxRecDepth 100000 in
theorem torC (v : Value) (zs : List Int) (w : World) (h : RowR w v zs) (hl : zs.length ≤ 1000000000) :
    Calls Tryd.prog 20 #[v] w fun e w' => ∃ u, e = .returned u ∧ u = .slice (some ⟨w.heap.size, 0, none⟩) zs.length zs.length ∧ RowO w' w.heap.size u zs ∧ Below w.heap.size w w' := by
  obtain ⟨a, cap, rfl, h⟩ := h
  have hmk := fun W => run_make_row' (P := Tryd.prog) 25 3 (.int .i64 0) 8 Tryd.underlying25 infoM rfl .i64 .i64 zs.length (by omega) (by omega) W
  have h0 : Hid (RowO (w.alloc (.cells (madeCells #[.int .i64 0] zs.length) 3)) w.heap.size (.slice (some ⟨w.heap.size, 0, none⟩) zs.length zs.length) (cpL zs 0)) := cpL_made w zs _
  have hall : Hid (cpL zs zs.length = zs) := cpL_all zs
  replace h : Hid (zs = [] ∨ ∃ b off, a = some ⟨b, off, none⟩ ∧ ∀ i, i < zs.length → w.cell? ⟨b, off + i, none⟩ = some (.int .i64 (zs.getD i 0))) := h
  generalize madeCells #[.int .i64 0] zs.length = MC at *
  go_enter Tryd.func20, Tryd.ntmps20
  go_wp2
  clear hmk
  go_loopw [4] (fun i wr => ∃ k : Nat, k ≤ zs.length ∧ i = .int .i64 k ∧ RowO wr w.heap.size (.slice (some ⟨w.heap.size, 0, none⟩) zs.length zs.length) (cpL zs k) ∧ Below w.heap.size w wr) (fun i _ => zs.length - (intOf i).toNat)
  case atStart => exact ⟨0, by omega, rfl, h0.out, (Below.refl _ _).alloc (Nat.le_refl _) _⟩
  case round =>
    obtain ⟨k, hk, rfl, hM, hB⟩ := hrel
    by_cases hlt : k < zs.length
    · obtain ⟨b, off, rfl, c1⟩ := row_some h.out hlt
      have hb := World.block_lt_of_cell? w _ c1
      have c2 : wr.cell? ⟨b, off + k, none⟩ = some (.int .i64 (zs.getD k 0)) := by rw [hB.cell (p := ⟨b, off + k, none⟩) hb]; exact c1
      have hx := hM.cell k (by rw [cpL_len]; exact hlt)
      have hfr := hM.frozen k
      generalize (cpL zs k).getD k 0 = x at hx
      have hM2 : Hid (RowO (wr.setCell ⟨w.heap.size, k, none⟩ (.int .i64 (zs.getD k 0))) w.heap.size (.slice (some ⟨w.heap.size, 0, none⟩) zs.length zs.length) (cpL zs (k + 1)) ∧ Below w.heap.size w (wr.setCell ⟨w.heap.size, k, none⟩ (.int .i64 (zs.getD k 0)))) :=
        ⟨by rw [← cpL_succ zs k hlt]; exact hM.set k _, hB.setCell (p := ⟨w.heap.size, k, none⟩) (Nat.le_refl _) _⟩
      clear hM hB c1 hb h
      generalize zs.getD k 0 = z at *
      go_wp2
      go_roundw
      case rel => exact ⟨k + 1, by omega, by go_num, hM2.out.1, hM2.out.2⟩
      case measure => simp [intOf]; omega
    · obtain rfl : k = zs.length := by omega
      go_wp2
      go_ret
      exact ⟨_, rfl, rfl, by rw [hall.out] at hM; exact hM, hB⟩
end Go.Proofs.YtakdhmlegickmabDoor
