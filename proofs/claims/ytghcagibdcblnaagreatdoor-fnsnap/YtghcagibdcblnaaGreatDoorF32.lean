/- Numbers as a text, a bank packed: the program. -/
import Derived.Test.YtghcagibdcblnaaGreatDoorF25
import Derived.Test.YtghcagibdcblnaaGreatDoorF31
import Derived.Test.YtghcagibdcblnaaGreatDoorF12
import Derived.Test.YtghcagibdcblnaaGreatDoorF00
import Derived.BigQuiet
namespace Go.Proofs.YtghcagibdcblnaaGreatDoor
open Go.ChangeShapes Go.WideShapes Go.ChangeAt Go.RowKit
set_option linter.unusedVariables false
set_option linter.unusedSimpArgs false

theorem putV_smallN (v : Int) (h0 : 0 ≤ v) (h1 : v ≤ 65535) : putV ⟨#[]⟩ v = .tuple #[.string (strOfNums [v % 256, v / 256]), .int .i64 0] := by
  unfold putV
  rw [if_neg (by decide), if_neg (by omega), if_neg (by decide)]
  have : (⟨#[]⟩ : ByteArray) ++ strOfNums [v % 256, v / 256] = strOfNums [v % 256, v / 256] := by
    apply ByteArray.ext
    rw [ByteArray.data_append]
    simp
  rw [this]
def b8 (L : List Int) : Array Value := (L.map (Value.int .u8)).toArray
theorem b8_set (L : List Int) (k : Nat) (z : Int) : (b8 L).setIfInBounds k (.int .u8 z) = b8 (L.set k z) := by
  unfold b8
  rw [List.setIfInBounds_toArray, List.map_set]
theorem b8_made (n : Nat) : madeCells #[.int .u8 0] n = b8 (List.replicate n 0) := by
  apply Array.ext'
  rw [toList_madeCells_one]
  unfold b8
  simp
theorem b8_at (L : List Int) {k : Nat} (h : k < L.length) : (b8 L)[k]? = some (.int .u8 (L.getD k 0)) := by
  unfold b8
  simp [List.getElem?_eq_getElem h]
theorem b8_string {W : World} {g : Nat} {L : List Int} (h : Blk W g (b8 L)) (cap : Nat) : (convert 22 9 (.slice (some ⟨g, 0, none⟩) L.length cap)).run Tryz.prog W = .ok (.string (strOfNums L)) W :=
  run_convert_bytes_arg _ 22 5 Tryz.underlying22 Tryz.underlying5 g 0 L.length cap L rfl (fun i hi => by
    rw [Nat.zero_add, h.cell i]
    exact b8_at L (by simpa using hi)) 9 Tryz.underlying9
set_option maxRecDepth 100000 in
set_option maxHeartbeats 1000000 in
theorem textof_impl (a : Option Addr) (cap : Nat) (zs : List Int) (w : World) (h : RowR w (.slice a zs.length cap) zs) (hz : ∀ z ∈ zs, 0 ≤ z ∧ z ≤ 255) (hl : zs.length ≤ 1000000000) :
    Calls Tryz.prog 61 #[.slice a zs.length cap] w fun e w' => e = .returned (.string (strOfNums zs)) ∧ Below w.heap.size w w' := by
  replace h := hid h.disj
  have hmk := fun W => run_make_row' (P := Tryz.prog) 22 5 (.int .u8 0) 1 Tryz.underlying22 infoU8 rfl .i64 .i64 zs.length (by omega) (by omega) W
  have h0 : Hid (Blk (w.alloc (.cells (madeCells #[.int .u8 0] zs.length) 5)) w.heap.size (b8 (cpL zs 0))) := by
    have := Blk.new w (madeCells #[.int .u8 0] zs.length) 5
    rw [b8_made] at this
    rw [b8_made]
    have e : cpL zs 0 = List.replicate zs.length 0 := List.eq_replicate_iff.2 ⟨cpL_len _ _, fun b hb => by
      unfold cpL at hb
      obtain ⟨i, _, rfl⟩ := List.mem_map.1 hb
      rfl⟩
    rw [e]
    exact this
  have hall : Hid (cpL zs zs.length = zs) := cpL_all zs
  have hz2 : Hid (∀ k, k < zs.length → 0 ≤ zs.getD k 0 ∧ zs.getD k 0 ≤ 255) := fun k hk => by
    rw [List.getD_eq_getElem?_getD, List.getElem?_eq_getElem hk]
    exact hz _ (List.getElem_mem hk)
  clear hz
  generalize madeCells #[.int .u8 0] zs.length = MC at *
  go_enter Tryz.func61, Tryz.ntmps61
  go_wp2
  clear hmk
  go_loopw [11] (fun i wr => ∃ k : Nat, k ≤ zs.length ∧ i = .int .i64 k ∧ Blk wr w.heap.size (b8 (cpL zs k)) ∧ Below w.heap.size w wr) (fun i _ => zs.length - (intOf i).toNat)
  case atStart => exact ⟨0, by omega, rfl, h0.out, (Below.refl _ _).alloc (Nat.le_refl _) _⟩
  case round =>
    obtain ⟨k, hk, rfl, hM, hB⟩ := hrel
    clear h0
    by_cases hlt : k < zs.length
    · obtain ⟨b, off, rfl, c1⟩ := row_some h.out hlt
      have hb := World.block_lt_of_cell? w _ c1
      have c2 : wr.cell? ⟨b, off + k, none⟩ = some (.int .i64 (zs.getD k 0)) := by rw [hB.cell (p := ⟨b, off + k, none⟩) hb]; exact c1
      have hx : wr.cell? ⟨w.heap.size, k, none⟩ = some (.int .u8 ((cpL zs k).getD k 0)) := by rw [hM.cell k]; exact b8_at _ (by rw [cpL_len]; exact hlt)
      have hfr := hM.frozen k
      obtain ⟨z0, z1⟩ := hz2.out k hlt
      have hwr : IntKind.u8.wrap (zs.getD k 0) = zs.getD k 0 := by rw [IntKind.wrap_u8]; omega
      generalize (cpL zs k).getD k 0 = x at hx
      have hM2 : Hid (Blk (wr.setCell ⟨w.heap.size, k, none⟩ (.int .u8 (zs.getD k 0))) w.heap.size (b8 (cpL zs (k + 1))) ∧ Below w.heap.size w (wr.setCell ⟨w.heap.size, k, none⟩ (.int .u8 (zs.getD k 0)))) :=
        ⟨by rw [← cpL_succ zs k hlt, ← b8_set]; exact hM.set k _, hB.setCell (p := ⟨w.heap.size, k, none⟩) (Nat.le_refl _) _⟩
      clear hM hB c1 hb h hz2
      generalize zs.getD k 0 = z at *
      go_wp2
      go_roundw
      case rel => exact ⟨k + 1, by omega, by go_num, hM2.out⟩
      case measure => simp [intOf]; omega
    · obtain rfl : k = zs.length := by omega
      rw [hall.out] at hM
      have hcv := b8_string hM zs.length
      replace hB := hid hB
      clear hM hz2
      go_wp2
      go_ret
      exact ⟨rfl, hB.out⟩
set_option maxRecDepth 100000 in
set_option maxHeartbeats 1000000 in
theorem bpacked_impl (a : Option Addr) (cap : Nat) (zs : List Int) (w : World) (h : RowR w (.slice a zs.length cap) zs) (hz : ∀ z ∈ zs, 0 ≤ z ∧ z ≤ 255) (hl : zs.length = 64) :
    Calls Tryz.prog 32 #[.slice a zs.length cap] w fun e w' => e = .returned (.string (strOfNums (bnkL zs))) ∧ Below w.heap.size w w' := by
  have hT := hid (fun W (hW : RowR W (.slice a zs.length cap) zs) => textof_impl a cap zs W hW hz (by omega))
  have hsz : (strOfNums zs).size = 64 := by rw [strOfNums_size, hl]
  have hbl := cmpE_len zs
  rw [hl] at hbl
  have hc2 : cmp2 (strOfNums zs) = (strOfNums (cmpE zs), 0) := by
    unfold cmp2
    rw [if_neg (by omega), if_neg (by omega), bts_str hz]
  have hC := hid (fun W => cmp_impl (strOfNums zs) W (by unfold maxLen; omega))
  rw [hc2] at hC
  have hP := hid (fun W => put_impl ⟨#[]⟩ ((cmpE zs).length : Int) W (by unfold maxLen; decide))
  rw [putV_smallN _ (by omega) (by omega)] at hP
  have hszX : (strOfNums (cmpE zs)).size = (cmpE zs).length := strOfNums_size _
  have hszY : (strOfNums [((cmpE zs).length : Int) % 256, ((cmpE zs).length : Int) / 256]).size = 2 := strOfNums_size _
  have hE : Hid (strOfNums [((cmpE zs).length : Int) % 256, ((cmpE zs).length : Int) / 256] ++ strOfNums (cmpE zs) = strOfNums (bnkL zs)) := by
    unfold bnkL Hid
    rw [sN_app]
  rw [← hszX] at hP hbl hE hszY
  generalize strOfNums (bnkL zs) = R at *
  generalize strOfNums (cmpE zs) = X at *
  generalize strOfNums zs = Y at *
  generalize strOfNums [(X.size : Int) % 256, (X.size : Int) / 256] = Z at *
  have hov : ¬ 9223372036854775807 < Z.size + X.size := by omega
  replace h := hid h
  replace hl := hid hl
  replace hsz := hid hsz
  clear hc2 hszX hz
  go_enter Tryz.func32, Tryz.ntmps32
  go_wp2_with fail
  refine (hT.out _ h.out).mono ?_
  rintro e w1 ⟨rfl, hb⟩
  replace hb := hid hb
  go_wp2_with fail
  refine (hC.out _).mono ?_
  rintro e w2 ⟨rfl, hb2⟩
  have hb3 := hid (new_trans hb.out hb2)
  clear hb hb2
  go_wp2_with fail
  refine (hP.out _).mono ?_
  rintro e w4 ⟨rfl, hb4⟩
  have hb5 := hid (new_trans hb3.out hb4)
  clear hb3 hb4
  go_wp2_with fail
  rw [hE.out]
  go_ret
  exact ⟨rfl, hb5.out⟩
end Go.Proofs.YtghcagibdcblnaaGreatDoor

/- What the program's 'when' answers. -/
namespace Go.Proofs.YtghcagibdcblnaaGreatDoor
open Go.ChangeShapes Go.WideShapes Go.ChangeAt Go.RowKit
set_option linter.unusedVariables false
set_option linter.unusedSimpArgs false

def whS (p : Bool) (x : Int) : Int := cond p x 0
theorem below_drewN {b : Nat} {w V : World} (h : Below b w V) (n : Nat) : Below b w (V.drewN n) := ⟨h.os, h.tape, h.output, h.size, h.block⟩
theorem whenS_impl (p : Bool) (x : Int) (w : World) : Calls Tryz.prog 77 #[.bool p, .int .i64 x] w fun e w' => e = .returned (.int .i64 (whS p x)) ∧ w' = w := by
  cases p
  all_goals
    go_enter Tryz.func77, Tryz.ntmps77
    go_wp2
    go_ret
    exact ⟨rfl, rfl⟩
end Go.Proofs.YtghcagibdcblnaaGreatDoor

/- The switches and the border of a snapshot as numbers: the program. -/
namespace Go.Proofs.YtghcagibdcblnaaGreatDoor
open Go.ChangeShapes Go.WideShapes Go.ChangeAt Go.RowKit
set_option linter.unusedVariables false
set_option linter.unusedSimpArgs false

theorem sw_or (a b c d e : Bool) : bits .or .i64 (bits .or .i64 (bits .or .i64 (bits .or .i64 (whS a 1) (whS b 2)) (whS c 4)) (whS d 8)) (whS e 16) = b1 a + 2 * b1 b + 4 * b1 c + 8 * b1 d + 16 * b1 e := by
  cases a <;> cases b <;> cases c <;> cases d <;> cases e <;> decide
theorem bo_or (n : Int) (a b : Bool) (h0 : 0 ≤ n) (h1 : n ≤ 7) : bits .or .i64 (bits .or .i64 n (whS a 8)) (whS b 16) = n + 8 * b1 a + 16 * b1 b := by
  rcases (by omega : n = 0 ∨ n = 1 ∨ n = 2 ∨ n = 3 ∨ n = 4 ∨ n = 5 ∨ n = 6 ∨ n = 7) with rfl | rfl | rfl | rfl | rfl | rfl | rfl | rfl
  all_goals (cases a <;> cases b <;> decide)
set_option maxRecDepth 100000 in
set_option maxHeartbeats 1000000 in
theorem switches_impl (s : Sn) (vr vm : Value) (w : World) :
    Calls Tryz.prog 59 #[.agg (snA s vr vm)] w fun e w' => e = .returned (.int .i64 (bitsS s.c s.m)) ∧ Below w.heap.size w w' := by
  have hB := hid ((Below.refl w.heap.size w).alloc (Nat.le_refl _) (.cells (snA s vr vm) 33))
  have q := Blk.new w (snA s vr vm) 33
  have hE : Hid (bits .or .i64 (bits .or .i64 (bits .or .i64 (bits .or .i64 (whS s.c.iff 1) (whS s.c.ei 2)) (whS s.c.halt 4)) (whS s.m.locked 8)) (whS (s.m.screen == 3) 16) = bitsS s.c s.m) := sw_or s.c.iff s.c.ei s.c.halt s.m.locked (decide (s.m.screen = 3))
  have hW := hid (fun p x W => whenS_impl p x W)
  go_enter Tryz.func59, Tryz.ntmps59
  go_upto_region 1 with fail
  obtain ⟨V, hV⟩ : ∃ V, w.alloc (Obj.cells (snA s vr vm) 33) = V := ⟨_, rfl⟩
  rw [hV] at hB q ⊢
  clear hV
  have c11 := q.cell 11
  have c12 := q.cell 12
  have c13 := q.cell 13
  have c18 := q.cell 18
  have c17 := q.cell 17
  simp only [List.getElem?_toArray, List.getElem?_cons_succ, List.getElem?_cons_zero] at c11 c12 c13 c17 c18
  clear q
  go_quiet ((go_at_call 77; exact Calls.quiet_of_same (hW.out _ _ _)))
  go_wp2
  rw [hE.out]
  go_ret
  exact ⟨rfl, below_drewN hB.out nq⟩
set_option maxRecDepth 100000 in
set_option maxHeartbeats 1000000 in
theorem border_impl (s : Sn) (vr vm : Value) (w : World) (h0 : 0 ≤ s.p.border) (h1 : s.p.border ≤ 7) :
    Calls Tryz.prog 60 #[.agg (snA s vr vm)] w fun e w' => e = .returned (.int .i64 (ulaS s.p)) ∧ Below w.heap.size w w' := by
  have hB := hid ((Below.refl w.heap.size w).alloc (Nat.le_refl _) (.cells (snA s vr vm) 33))
  have q := Blk.new w (snA s vr vm) 33
  have hE : Hid (bits .or .i64 (bits .or .i64 s.p.border (whS s.p.mic 8)) (whS s.p.beep 16) = ulaS s.p) := bo_or _ _ _ h0 h1
  have hW := hid (fun p x W => whenS_impl p x W)
  clear h0 h1
  go_enter Tryz.func60, Tryz.ntmps60
  go_upto_region 1 with fail
  obtain ⟨V, hV⟩ : ∃ V, w.alloc (Obj.cells (snA s vr vm) 33) = V := ⟨_, rfl⟩
  rw [hV] at hB q ⊢
  clear hV
  have c28 := q.cell 28
  have c29 := q.cell 29
  have c30 := q.cell 30
  simp only [List.getElem?_toArray, List.getElem?_cons_succ, List.getElem?_cons_zero] at c28 c29 c30
  clear q
  go_quiet ((go_at_call 77; exact Calls.quiet_of_same (hW.out _ _ _)))
  go_wp2
  rw [hE.out]
  go_ret
  exact ⟨rfl, below_drewN hB.out nq⟩
end Go.Proofs.YtghcagibdcblnaaGreatDoor
