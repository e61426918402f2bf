/- What the specification says of a sound chip that is right, of a new one, and of its registers' numbers. -/
import Derived.Test.YtjdgfbaioafjcaaDoorYa
import Derived.Test.YtjdgfbaioafjcaaDoorMf
import Derived.BigRegion
import Derived.Deep.RegionWith
namespace Go.Proofs.YtjdgfbaioafjcaaDoor
open Go.ChangeShapes Go.WideShapes Go.ChangeAt Go.RowKit
set_option linter.unusedVariables false
set_option linter.unusedSimpArgs false

/-- an answer of a struct in a cell of its own, and of a number -/
theorem results_cell_tmp {P : Program} {fn : Func} {p q : Tmp} {ty : TypeId} (h : fn.results = #[.cell p ty, .tmp q]) (tmps : Array Value) (w : World) (g : Nat) (t : TypeId) (cs : Array Value) (fr : Nat × Nat) (d : TypeDesc) (v : Value)
    (hp : tmps.getD p undef = .pointer (some ⟨g, 0, none⟩)) (hq : tmps.getD q undef = v) (hg : w.heap[g]? = some (.cells cs t fr))
    (hu : P.underlying ty = some d) (hd : (match d with | .struct _ | .array _ _ => true | _ => false) = true) (hi : (P.info? ty).map (·.size) = some cs.size) :
    (results fn tmps).run P w = .ok (.tuple #[.agg cs, v]) w := by
  have hp' : tmps[p]?.getD undef = .pointer (some ⟨g, 0, none⟩) := by simpa using hp
  have hq' : tmps[q]?.getD undef = v := by simpa using hq
  simp [results, h, hp', hq', asAddr, run_loadVar_row w g t ty cs fr d hg hu hd hi]
theorem mask_spec (r : Nat) (hr : r < 8) (w : World) : Calls Tryd.prog 42 #[.int .i64 (r : Int)] w fun e w' => e = .returned (.int .i64 (maskN r : Nat)) ∧ Below w.heap.size w w' := by
  have q := (Blk.new w #[.int .i64 255, .int .i64 255, .int .i64 31, .int .i64 15, .int .i64 31, .int .i64 31, .int .i64 255, .int .i64 3] 3).cell r
  have e : (#[.int .i64 255, .int .i64 255, .int .i64 31, .int .i64 15, .int .i64 31, .int .i64 31, .int .i64 255, .int .i64 3] : Array Value)[r]? = some (.int .i64 (maskN r : Nat)) := by
    rcases eight hr with rfl | rfl | rfl | rfl | rfl | rfl | rfl | rfl <;> rfl
  rw [e] at q
  have hB := hid ((Below.refl w.heap.size w).alloc (Nat.le_refl _) (.cells #[.int .i64 255, .int .i64 255, .int .i64 31, .int .i64 15, .int .i64 31, .int .i64 31, .int .i64 255, .int .i64 3] 3))
  generalize maskN r = m at *
  clear e
  go_enter Tryd.func42, Tryd.ntmps42
  obtain ⟨V, hV⟩ : ∃ V, w.alloc (.cells #[.int .i64 255, .int .i64 255, .int .i64 31, .int .i64 15, .int .i64 31, .int .i64 31, .int .i64 255, .int .i64 3] 3) = V := ⟨_, rfl⟩
  rw [hV] at q hB
  go_wp2
  go_ret
  exact ⟨rfl, by first | exact hB.out | (rw [hV]; exact hB.out)⟩
set_option maxRecDepth 100000 in
set_option maxHeartbeats 4000000 in
theorem sok_spec (c : Sg) (w : World) : Calls Tryd.prog 23 #[sgV c] w fun e w' => e = .returned (.bool (okS c)) ∧ Below w.heap.size w w' := by
  have hno : Hid (∀ k, k < 8 → inB (c.reg k) 0 (maskN k : Nat) = false → okS c = false) := fun k hk => sreg_no hk
  have hall : Hid ((∀ i, i < 8 → inB (c.reg i) 0 (maskN i : Nat) = true) → okS c = (inB c.sel 0 7 && inB c.c0 0 255 && inB c.c1 0 255 && inB c.noise 0 31 && inB c.shift 1 131071 && inB c.env 0 31 && inB c.ec 0 255)) := fun h => by unfold okS; rw [sreg_all h, Bool.true_and]
  have hB := hid ((Below.refl w.heap.size w).alloc (Nat.le_refl _) (.cells (sgA c) 27))
  have q1 := hid (Blk.new w (sgA c) 27)
  have hix := hid (sgA_at c)
  obtain ⟨Q, hQ⟩ : ∃ Q, okS c = Q := ⟨_, rfl⟩
  rw [hQ] at hno hall ⊢
  clear hQ
  go_enter Tryd.func23, Tryd.ntmps23
  go_upto_region 1 with fail
  obtain ⟨V, hV⟩ : ∃ V, w.alloc (Obj.cells (sgA c) 27) = V := ⟨_, rfl⟩
  rw [hV] at hB q1 ⊢
  clear hV
  go_wp2
  go_loopw [3] (fun i wr => ∃ k : Nat, k ≤ 8 ∧ i = .int .i64 k ∧ (∀ j, j < k → inB (c.reg j) 0 (maskN j : Nat) = true) ∧ Blk wr w.heap.size (sgA c) ∧ Below w.heap.size w wr) (fun i _ => 8 - (intOf i).toNat)
  case atStart => exact ⟨0, by omega, rfl, fun j hj => by omega, q1.out, hB.out⟩
  case round =>
    obtain ⟨k, hk, rfl, hj, hq, hW⟩ := hrel
    clear q1 hB
    by_cases hlt : k < 8
    · have x1 := hq.cell k
      rw [hix.out k hlt] at x1
      have hm := hid (fun w1 => mask_spec k hlt w1)
      have hq2 : Hid (∀ W', Below wr.heap.size wr W' → W'.cell? ⟨w.heap.size, k, none⟩ = some (.int .i64 (c.reg k)) ∧ Blk W' w.heap.size (sgA c) ∧ Below w.heap.size w W') := fun W' hb => ⟨by rw [(hq.below hb hq.lt).cell k, hix.out k hlt], hq.below hb hq.lt, new_trans hW hb⟩
      have hD : Hid (Below wr.heap.size wr wr.drew) := (Below.refl _ _).drew
      clear hq hW
      cases hb : inB (c.reg k) 0 (maskN k : Nat)
      · have hE := hid (hno.out k hlt hb)
        clear hj hno hall hk
        generalize c.reg k = y at *
        generalize maskN k = m at *
        go_wp2
        go_region_with (first | (go_at_call 42; refine (hm.out _).mono ?_; rintro e w2 ⟨rfl, hb2⟩; have hB2 := hid (new_trans hD.out hb2); have x2 := (hq2.out _ hB2.out).1; clear hb2) | (go_at_call 35; refine (in_spec _ _ _ _).mono ?_; rintro e w' ⟨rfl, hww⟩; obtain rfl := hww.symm; rw [hb]))
        all_goals
          go_wp2
          go_ret
          exact ⟨ret_bool hE.out.symm, (hq2.out _ hB2.out).2.2⟩
      · have hj2 : Hid (∀ j, j < k + 1 → inB (c.reg j) 0 (maskN j : Nat) = true) := fun j hj1 => by
          by_cases e : j = k
          · rw [e]; exact hb
          · exact hj j (by omega)
        clear hj hno hall hk
        generalize c.reg k = y at *
        generalize maskN k = m at *
        go_wp2
        go_region_with (first | (go_at_call 42; refine (hm.out _).mono ?_; rintro e w2 ⟨rfl, hb2⟩; have hB2 := hid (new_trans hD.out hb2); have x2 := (hq2.out _ hB2.out).1; clear hb2) | (go_at_call 35; refine (in_spec _ _ _ _).mono ?_; rintro e w' ⟨rfl, hww⟩; obtain rfl := hww.symm; rw [hb]))
        all_goals
          go_wp2
          go_roundw
          case rel => exact ⟨k + 1, by omega, by go_num, hj2.out, (hq2.out _ hB2.out).2.1, (hq2.out _ hB2.out).2.2⟩
          case measure => simp [intOf]; omega
    · obtain rfl : k = 8 := by omega
      have hE := hall.out hj
      have x1 := hq.cell
      replace hW := hid hW
      replace hE := hid hE
      clear hj hno hall hk hlt hix hq
      go_wp2_with (first | (go_at_call 35; refine (in_spec _ _ _ _).mono ?_; rintro e w' ⟨rfl, hww⟩; obtain rfl := hww.symm) | (go_at_call 29; refine (byteM_spec _ _).mono ?_; rintro e w' ⟨rfl, hww⟩; obtain rfl := hww.symm))
      all_goals go_ret
      all_goals exact ⟨ret_bool (by rw [hE.out]; simp_all), hW.out⟩
end Go.Proofs.YtjdgfbaioafjcaaDoor
