/- Ports as plain numbers; what the laws do with them; ports that come in. -/
import Derived.Test.YtifcdojaocndhaaDoorM03
import Derived.Deep.Matrix
import Derived.Lib.SmallJoins
import Derived.Test.YtifcdojaocndhaaDoorM02
namespace Go.Proofs.YtifcdojaocndhaaDoor
open Go.ChangeShapes Go.WideShapes Go.ChangeAt Go.RowKit Go.Joins Go.Deep
set_option linter.unusedVariables false
set_option linter.unusedSimpArgs false

/-- ports as they come in: any numbers -/
structure Po where
  k0 : Int
  k1 : Int
  k2 : Int
  k3 : Int
  k4 : Int
  k5 : Int
  k6 : Int
  k7 : Int
  joy : Int
  border : Int
  mic : Bool
  beep : Bool
abbrev poA (p : Po) : Array Value := #[.int .i64 p.k0, .int .i64 p.k1, .int .i64 p.k2, .int .i64 p.k3, .int .i64 p.k4, .int .i64 p.k5, .int .i64 p.k6, .int .i64 p.k7, .int .i64 p.joy, .int .i64 p.border, .bool p.mic, .bool p.beep]
abbrev poV (p : Po) : Value := .agg (poA p)
def Po.key (p : Po) : Nat → Int
  | 0 => p.k0
  | 1 => p.k1
  | 2 => p.k2
  | 3 => p.k3
  | 4 => p.k4
  | 5 => p.k5
  | 6 => p.k6
  | _ => p.k7
def Po.put (p : Po) (v : Int) : Nat → Po
  | 0 => { p with k0 := v }
  | 1 => { p with k1 := v }
  | 2 => { p with k2 := v }
  | 3 => { p with k3 := v }
  | 4 => { p with k4 := v }
  | 5 => { p with k5 := v }
  | 6 => { p with k6 := v }
  | _ => { p with k7 := v }
abbrev zeP : Po := ⟨0, 0, 0, 0, 0, 0, 0, 0, 0, 0, false, false⟩
/-- their keys, as registers -/
abbrev Po.cu (p : Po) : Cu := ⟨p.k0, p.k1, p.k2, p.k3, p.k4, p.k5, p.k6, p.k7, 0, 0, 0, false, false, false⟩
theorem poA_put (p : Po) (k : Nat) (v : Int) (hk : k < 8) : (poA p).setIfInBounds k (.int .i64 v) = poA (p.put v k) := by
  rcases eight hk with rfl | rfl | rfl | rfl | rfl | rfl | rfl | rfl <;> rfl
theorem poA_at (p : Po) (k : Nat) (hk : k < 8) : (poA p)[k]? = some (.int .i64 (p.key k)) := by
  rcases eight hk with rfl | rfl | rfl | rfl | rfl | rfl | rfl | rfl <;> rfl
def keysB (p : Po) : Bool := (List.range 8).all (fun i => inB (p.key i) 0 31)
def okPo (p : Po) : Bool := keysB p && inB p.joy 0 31 && inB p.border 0 7
theorem keys_no {p : Po} {k : Nat} (hk : k < 8) (h : inB (p.key k) 0 31 = false) : okPo p = false := by
  have : keysB p = false := by
    unfold keysB
    rw [List.all_eq_false]
    exact ⟨k, List.mem_range.2 hk, by simp [h]⟩
  simp [okPo, this]
theorem keys_all {p : Po} (h : ∀ i, i < 8 → inB (p.key i) 0 31 = true) : keysB p = true := by
  unfold keysB
  rw [List.all_eq_true]
  exact fun i hi => h i (List.mem_range.1 hi)
theorem okPo_key {p : Po} (h : okPo p = true) (k : Nat) (hk : k < 8) : ∃ x : Nat, p.key k = x ∧ x < 32 := by
  unfold okPo at h
  simp only [Bool.and_eq_true] at h
  have := List.all_eq_true.1 h.1.1 k (List.mem_range.2 hk)
  simp [inB] at this
  exact ⟨(p.key k).toNat, by omega, by omega⟩
set_option maxRecDepth 100000 in
set_option maxHeartbeats 1000000 in
theorem topo (c : Po) (w : World) : Calls Tryd.prog 57 #[poV c] w fun e w' => e = .returned (poV c) ∧ Below w.heap.size w w' := by
  have hs := hid (Tri.start w (poA c) (poA zeP) (poA zeP) 53 32 32)
  have x0 := hs.out.q0.cell
  go_enter Tryd.func57, Tryd.ntmps57
  go_upto_region 2 with fail
  obtain ⟨V, hV⟩ : ∃ V, (((w.alloc (.cells (poA c) 53)).alloc (.cells (poA zeP) 32)).alloc (.cells (poA zeP) 32)) = V := ⟨_, rfl⟩
  rw [hV] at hs x0 ⊢
  clear hV
  go_wp2_with fail
  refine (toa c.cu V).mono ?_
  rintro e w1 ⟨rfl, hb⟩
  have h1 := hid (hs.out.below hb)
  have y0 := h1.out.q0.cell
  have y1 := h1.out.q1.cell
  have y2 := h1.out.q2.cell
  have g1 := h1.out.q1.frozen
  have g2 := h1.out.q2.frozen
  have l1 := h1.out.q1.lt
  have l2 := h1.out.q2.lt
  have hB := hid h1.out.bel
  clear hs x0 hb h1
  go_wp2
  refine bodyPost_ret (v := poV c) (by simp [results, Tryd.results57, go_sem, y1, y2]) rfl ⟨rfl, ?_⟩
  repeat refine Below.setCell ?_ (by first | omega | (simp; done) | (simp; omega)) _
  exact hB.out
set_option maxRecDepth 100000 in
set_option maxHeartbeats 1000000 in
theorem eqp_yes (c : Po) (w : World) : Calls Tryd.prog 37 #[poV c, poV c] w fun e w' => e = .returned (.bool true) ∧ Below w.heap.size w w' := by
  have hs := hid (two_in (w := w) (poA c) (poA c) 32 32)
  have x0 := hs.out.1.cell
  have x1 := hs.out.2.1.cell
  go_enter Tryd.func37, Tryd.ntmps37
  go_upto_region 1 with fail
  obtain ⟨V, hV⟩ : ∃ V, ((w.alloc (.cells (poA c) 32)).alloc (.cells (poA c) 32)) = V := ⟨_, rfl⟩
  rw [hV] at hs x0 x1 ⊢
  clear hV
  go_wp2_with fail
  refine (eqa_yes c.cu V).mono ?_
  rintro e w1 ⟨rfl, hb⟩
  have y0 := (hs.out.1.below hb hs.out.1.lt).cell
  have y1 := (hs.out.2.1.below hb hs.out.2.1.lt).cell
  have hB := hid (hs.out.2.2.trans (hb.mono hs.out.2.2.size))
  clear hs x0 x1 hb
  go_wp2
  go_ret
  exact ⟨rfl, hB.out⟩
theorem arr12 {α : Type} {cs : Array α} (h : cs.size = 12) : ∃ c0 c1 c2 c3 c4 c5 c6 c7 c8 c9 c10 c11, cs = #[c0, c1, c2, c3, c4, c5, c6, c7, c8, c9, c10, c11] := by
  obtain ⟨l⟩ := cs
  match l, h with
  | [c0, c1, c2, c3, c4, c5, c6, c7, c8, c9, c10, c11], _ => exact ⟨c0, c1, c2, c3, c4, c5, c6, c7, c8, c9, c10, c11, rfl⟩
set_option maxRecDepth 100000 in
set_option maxHeartbeats 1000000 in
theorem ports_in {H : Type} {enc : TypeId × Value → H} {W : World} {base b0 : Nat} {spare : Nat → Bool} {held : Bool} {r : Reach} {v : Value} {d : DataW H} {p : List MemPlace}
    (hv : Value.okWide Tryd.prog W r b0 53 v) (h : DataW.Trod enc Tryd.prog W base spare held 53 v d p) : ∃ c : Po, v = poV c := by
  obtain ⟨cs, rfl, hsz⟩ := okWide_struct Tryd.underlying53 hv
  have c12 : Tryd.prog.cellsOf 53 = 12 := by kernel_rfl
  have ci : Tryd.prog.cellsOf 3 = 1 := by kernel_rfl
  have cb : Tryd.prog.cellsOf 4 = 1 := by kernel_rfl
  have c8 : Tryd.prog.cellsOf 24 = 8 := by kernel_rfl
  obtain ⟨v0, v1, v2, v3, v4, v5, v6, v7, v8, v9, v10, v11, rfl⟩ := arr12 (hsz.trans c12)
  obtain ⟨fuel, hf⟩ := h
  obtain ⟨xs, n, _, _, hl, hlen, hfl⟩ := DataW.trod_struct Tryd.underlying53 hf
  have k0 : DataW.trod enc Tryd.prog W base spare held n 24 (([v0, v1, v2, v3, v4, v5, v6, v7, v8, v9, v10, v11].drop 0).take (Tryd.prog.cellsOf 24)) = xs[0]? := hfl 0 _ rfl
  have k1 : DataW.trod enc Tryd.prog W base spare held n 3 (([v0, v1, v2, v3, v4, v5, v6, v7, v8, v9, v10, v11].drop 8).take (Tryd.prog.cellsOf 3)) = xs[1]? := hfl 1 _ rfl
  have k2 : DataW.trod enc Tryd.prog W base spare held n 3 (([v0, v1, v2, v3, v4, v5, v6, v7, v8, v9, v10, v11].drop 9).take (Tryd.prog.cellsOf 3)) = xs[2]? := hfl 2 _ rfl
  have k3 : DataW.trod enc Tryd.prog W base spare held n 4 (([v0, v1, v2, v3, v4, v5, v6, v7, v8, v9, v10, v11].drop 10).take (Tryd.prog.cellsOf 4)) = xs[3]? := hfl 3 _ rfl
  have k4 : DataW.trod enc Tryd.prog W base spare held n 4 (([v0, v1, v2, v3, v4, v5, v6, v7, v8, v9, v10, v11].drop 11).take (Tryd.prog.cellsOf 4)) = xs[4]? := hfl 4 _ rfl
  rw [ci] at k1 k2
  rw [cb] at k3 k4
  rw [c8] at k0
  simp only [List.drop_succ_cons, List.drop_zero, List.take_succ_cons, List.take_zero] at k0 k1 k2 k3 k4
  match xs, hlen with
  | [y0, y1, y2, y3, y4], _ =>
    simp only [List.getElem?_cons_zero, List.getElem?_cons_succ] at k0 k1 k2 k3 k4
    obtain ⟨zs, m, hz1, hz2, hz3, hz4, hel⟩ := DataW.trod_array Tryd.underlying24 k0
    obtain ⟨f, i1, _, _⟩ := DataW.trod_int Tryd.underlying3 k1
    obtain ⟨sp, i2, _, _⟩ := DataW.trod_int Tryd.underlying3 k2
    obtain ⟨b1, i3, _⟩ := DataW.trod_bool Tryd.underlying4 k3
    obtain ⟨b2, i4, _⟩ := DataW.trod_bool Tryd.underlying4 k4
    have key : ∀ i (hi : i < 8), ∃ z : Int, [v0, v1, v2, v3, v4, v5, v6, v7][i]? = some (.int .i64 z) := by
      intro i hi
      have h0 := hel i hi
      rw [ci, Nat.mul_one] at h0
      have hxi : zs[i]? = some zs[i] := List.getElem?_eq_getElem (by omega)
      rw [hxi] at h0
      obtain ⟨z, e1, _, _⟩ := DataW.trod_int Tryd.underlying3 h0
      refine ⟨z, ?_⟩
      have := congrArg (·[0]?) e1
      simpa [List.getElem?_take, List.getElem?_drop] using this
    obtain ⟨r0, e0⟩ := key 0 (by omega)
    obtain ⟨r1, e1⟩ := key 1 (by omega)
    obtain ⟨r2, e2⟩ := key 2 (by omega)
    obtain ⟨r3, e3⟩ := key 3 (by omega)
    obtain ⟨r4, e4⟩ := key 4 (by omega)
    obtain ⟨r5, e5⟩ := key 5 (by omega)
    obtain ⟨r6, e6⟩ := key 6 (by omega)
    obtain ⟨r7, e7⟩ := key 7 (by omega)
    simp only [List.getElem?_cons_zero, List.getElem?_cons_succ, Option.some.injEq] at e0 e1 e2 e3 e4 e5 e6 e7
    simp only [List.cons.injEq, and_true] at i1 i2 i3 i4
    exact ⟨⟨r0, r1, r2, r3, r4, r5, r6, r7, f, sp, b1, b2⟩, by rw [e0, e1, e2, e3, e4, e5, e6, e7, i1, i2, i3, i4]⟩
end Go.Proofs.YtifcdojaocndhaaDoor

/- What the specification and the program say of ports that are right, and of new ones. -/
namespace Go.Proofs.YtifcdojaocndhaaDoor
open Go.ChangeShapes Go.WideShapes Go.ChangeAt Go.RowKit
set_option linter.unusedVariables false
set_option linter.unusedSimpArgs false

theorem iswP_impl (n a b : Int) (w : World) : Calls Tryd.prog 114 #[.int .i64 n, .int .i64 a, .int .i64 b] w fun e w' => e = .returned (.bool (inB n a b)) ∧ w' = w := by
  go_enter Tryd.func114, Tryd.ntmps114
  go_wp2
  all_goals go_ret
  all_goals exact ⟨ret_bool (by rw [Bool.eq_iff_iff]; simp [inB]; try omega), rfl⟩
theorem isbP_impl (n : Int) (w : World) : Calls Tryd.prog 68 #[.int .i64 n] w fun e w' => e = .returned (.bool (inB n 0 255)) ∧ w' = w := by
  go_enter Tryd.func68, Tryd.ntmps68
  go_wp2
  all_goals go_ret
  all_goals exact ⟨ret_bool (by rw [Bool.eq_iff_iff]; simp [inB]; try omega), rfl⟩
set_option maxRecDepth 100000 in
set_option maxHeartbeats 1000000 in
theorem pok_spec (c : Po) (w : World) : Calls Tryd.prog 96 #[poV c] w fun e w' => e = .returned (.bool (okPo c)) ∧ Below w.heap.size w w' := by
  have hno : Hid (∀ k, k < 8 → inB (c.key k) 0 31 = false → okPo c = false) := fun k hk => keys_no hk
  have hall : Hid ((∀ i, i < 8 → inB (c.key i) 0 31 = true) → okPo c = (inB c.joy 0 31 && inB c.border 0 7)) := fun h => by unfold okPo; rw [keys_all h, Bool.true_and]
  have hB := hid ((Below.refl w.heap.size w).alloc (Nat.le_refl _) (.cells (poA c) 32))
  have q1 := (Blk.new w (poA c) 32).cell
  have hix := hid (poA_at c)
  obtain ⟨Q, hQ⟩ : ∃ Q, okPo c = Q := ⟨_, rfl⟩
  rw [hQ] at hno hall ⊢
  clear hQ
  go_enter Tryd.func96, Tryd.ntmps96
  go_upto_region 1 with fail
  obtain ⟨V, hV⟩ : ∃ V, w.alloc (Obj.cells (poA c) 32) = V := ⟨_, rfl⟩
  rw [hV] at hB q1 ⊢
  clear hV
  go_wp2
  go_loop [3] (fun i => ∃ k : Nat, k ≤ 8 ∧ i = .int .i64 k ∧ ∀ j, j < k → inB (c.key j) 0 31 = true) (fun i => 8 - (intOf i).toNat)
  case atStart => exact ⟨0, by omega, rfl, fun j hj => by omega⟩
  case round =>
    obtain ⟨k, hk, rfl, hj⟩ := hrel
    by_cases hlt : k < 8
    · have x1 := q1 k
      rw [hix.out k hlt] at x1
      cases hb : inB (c.key k) 0 31
      · have hE := hid (hno.out k hlt hb)
        clear hj hno hall hk q1
        generalize c.key k = y at *
        go_wp2_with (go_at_call 99; refine (in_spec _ _ _ _).mono ?_; rintro e w' ⟨rfl, rfl⟩; rw [hb])
        go_ret
        exact ⟨ret_bool hE.out.symm, hB.out⟩
      · have hj2 : Hid (∀ j, j < k + 1 → inB (c.key j) 0 31 = true) := fun j hj1 => by
          by_cases e : j = k
          · rw [e]; exact hb
          · exact hj j (by omega)
        clear hj hno hall hk q1
        generalize c.key k = y at *
        go_wp2_with (go_at_call 99; refine (in_spec _ _ _ _).mono ?_; rintro e w' ⟨rfl, rfl⟩; rw [hb])
        go_round
        case rel => exact ⟨k + 1, by omega, by go_num, hj2.out⟩
        case measure => simp [intOf]; omega
    · obtain rfl : k = 8 := by omega
      have hE := hall.out hj
      clear hj hno hall hk hlt hix
      cases h1 : inB c.joy 0 31
      · rw [h1] at hE
        replace hE := hid hE
        go_wp2_with (go_at_call 99; refine (in_spec _ _ _ _).mono ?_; rintro e w' ⟨rfl, rfl⟩; rw [h1])
        go_ret
        exact ⟨ret_bool (by rw [hE.out]; rfl), hB.out⟩
      · rw [h1] at hE
        replace hE := hid hE
        go_wp2_with (go_at_call 99; refine (in_spec _ _ _ _).mono ?_; rintro e w' ⟨rfl, rfl⟩; try rw [h1])
        go_ret
        exact ⟨ret_bool (by rw [hE.out]; simp), hB.out⟩
theorem kyP_at (c : Po) (k : Nat) (hk : k < 8) (w : World) : (Instr.index 24 (.agg #[.int .i64 c.k0, .int .i64 c.k1, .int .i64 c.k2, .int .i64 c.k3, .int .i64 c.k4, .int .i64 c.k5, .int .i64 c.k6, .int .i64 c.k7]) (.int .i64 (k : Int))).run Tryd.prog w = .ok (.int .i64 (c.key k)) w := by
  rcases (by omega : k = 0 ∨ k = 1 ∨ k = 2 ∨ k = 3 ∨ k = 4 ∨ k = 5 ∨ k = 6 ∨ k = 7) with rfl | rfl | rfl | rfl | rfl | rfl | rfl | rfl <;> kernel_rfl
set_option maxRecDepth 100000 in
set_option maxHeartbeats 1000000 in
theorem pok_impl (c : Po) (w : World) : Calls Tryd.prog 142 #[poV c] w fun e w' => e = .returned (.bool (okPo c)) ∧ Below w.heap.size w w' := by
  have hno : Hid (∀ k, k < 8 → inB (c.key k) 0 31 = false → okPo c = false) := fun k hk => keys_no hk
  have hall : Hid ((∀ i, i < 8 → inB (c.key i) 0 31 = true) → okPo c = (inB c.joy 0 31 && inB c.border 0 7)) := fun h => by unfold okPo; rw [keys_all h, Bool.true_and]
  have hB := hid ((Below.refl w.heap.size w).alloc (Nat.le_refl _) (.cells (poA c) 32))
  have q1 := (Blk.new w (poA c) 32).cell
  have hix := hid (kyP_at c)
  obtain ⟨Q, hQ⟩ : ∃ Q, okPo c = Q := ⟨_, rfl⟩
  rw [hQ] at hno hall ⊢
  clear hQ
  go_enter Tryd.func142, Tryd.ntmps142
  go_upto_region 1 with fail
  obtain ⟨V, hV⟩ : ∃ V, w.alloc (Obj.cells (poA c) 32) = V := ⟨_, rfl⟩
  rw [hV] at hB q1 ⊢
  clear hV
  go_wp2
  go_loop [7] (fun i => ∃ k : Nat, k ≤ 8 ∧ i = .int .i64 k ∧ ∀ j, j < k → inB (c.key j) 0 31 = true) (fun i => 8 - (intOf i).toNat)
  case atStart => exact ⟨0, by omega, rfl, fun j hj => by omega⟩
  case round =>
    obtain ⟨k, hk, rfl, hj⟩ := hrel
    by_cases hlt : k < 8
    · have i1 := hix.out k hlt
      cases hb : inB (c.key k) 0 31
      · have hE := hid (hno.out k hlt hb)
        clear hj hno hall hk
        generalize c.key k = y at *
        go_wp2_with (go_at_call 114; refine (iswP_impl _ _ _ _).mono ?_; rintro e w' ⟨rfl, rfl⟩; rw [hb])
        go_ret
        exact ⟨ret_bool hE.out.symm, hB.out⟩
      · have hj2 : Hid (∀ j, j < k + 1 → inB (c.key j) 0 31 = true) := fun j hj1 => by
          by_cases e : j = k
          · rw [e]; exact hb
          · exact hj j (by omega)
        clear hj hno hall hk
        generalize c.key k = y at *
        go_wp2_with (go_at_call 114; refine (iswP_impl _ _ _ _).mono ?_; rintro e w' ⟨rfl, rfl⟩; rw [hb])
        go_round
        case rel => exact ⟨k + 1, by omega, by go_num, hj2.out⟩
        case measure => simp [intOf]; omega
    · obtain rfl : k = 8 := by omega
      have hE := hall.out hj
      clear hj hno hall hk hlt hix
      cases h1 : inB c.joy 0 31
      · rw [h1] at hE
        replace hE := hid hE
        go_wp2_with (go_at_call 114; refine (iswP_impl _ _ _ _).mono ?_; rintro e w' ⟨rfl, rfl⟩; rw [h1])
        go_ret
        exact ⟨ret_bool (by rw [hE.out]; rfl), hB.out⟩
      · rw [h1] at hE
        replace hE := hid hE
        go_wp2_with (go_at_call 114; refine (iswP_impl _ _ _ _).mono ?_; rintro e w' ⟨rfl, rfl⟩; try rw [h1])
        go_ret
        exact ⟨ret_bool (by rw [hE.out]; simp), hB.out⟩
/-- new ports -/
abbrev neP : Po := ⟨31, 31, 31, 31, 31, 31, 31, 31, 0, 7, false, false⟩
/-- new ports while the first k rows are laid -/
def nkZ (k i : Nat) : Value := .int .i64 (if i < k then 31 else 0)
def nkA (k : Nat) : Array Value := #[nkZ k 0, nkZ k 1, nkZ k 2, nkZ k 3, nkZ k 4, nkZ k 5, nkZ k 6, nkZ k 7, .int .i64 0, .int .i64 7, .bool false, .bool false]
theorem nkA_all : nkA 8 = poA neP := rfl
theorem nkA_succ (k : Nat) (hk : k < 8) : (nkA k).setIfInBounds k (.int .i64 31) = nkA (k + 1) := by
  rcases eight hk with rfl | rfl | rfl | rfl | rfl | rfl | rfl | rfl <;> rfl
theorem nkA_at (k : Nat) (hk : k < 8) : (nkA k)[k]? = some (.int .i64 0) := by
  rcases eight hk with rfl | rfl | rfl | rfl | rfl | rfl | rfl | rfl <;> rfl
set_option maxRecDepth 100000 in
set_option maxHeartbeats 1000000 in
theorem newpo_spec (w : World) : Calls Tryd.prog 76 #[] w fun e w' => e = .returned (poV neP) ∧ Below w.heap.size w w' := by
  have hs := hid (two_in (w := w) (poA zeP) (nkA 0) 32 32)
  go_enter Tryd.func76, Tryd.ntmps76
  go_wp2
  go_loopw [2] (fun i wr => ∃ k : Nat, k ≤ 8 ∧ i = .int .i64 k ∧ Blk wr w.heap.size (poA zeP) ∧ Blk wr (w.heap.size + 1) (nkA k) ∧ Below w.heap.size w wr) (fun i _ => 8 - (intOf i).toNat)
  case atStart => exact ⟨0, by omega, rfl, hs.out⟩
  case round =>
    obtain ⟨k, hk, rfl, q0, q1, hB⟩ := hrel
    clear hs
    by_cases hlt : k < 8
    · have x1 := q1.cell k
      rw [nkA_at k hlt] at x1
      have f1 := q1.frozen k
      have q2 := q1.set k (.int .i64 31)
      rw [nkA_succ k hlt] at q2
      have hn : Hid (Blk (wr.setCell ⟨w.heap.size + 1, k, none⟩ (.int .i64 31)) w.heap.size (poA zeP) ∧ Blk (wr.setCell ⟨w.heap.size + 1, k, none⟩ (.int .i64 31)) (w.heap.size + 1) (nkA (k + 1)) ∧ Below w.heap.size w (wr.setCell ⟨w.heap.size + 1, k, none⟩ (.int .i64 31))) := ⟨q0.other (by simp) _, q2, hB.setCell (p := ⟨w.heap.size + 1, k, none⟩) (by simp only []; omega) _⟩
      clear q0 q1 hB q2
      go_wp2
      go_roundw
      case rel => exact ⟨k + 1, by omega, by go_num, hn.out⟩
      case measure => simp [intOf]; omega
    · obtain rfl : k = 8 := by omega
      rw [nkA_all] at q1
      have x0 := q0.cell
      have f0 := q0.frozen
      have l0 := q0.lt
      have x1 := q1.cell
      replace hB := hid hB
      clear q0 q1
      go_wp2
      refine bodyPost_ret (v := poV neP) (by simp [results, Tryd.results76, go_sem, x0]) rfl ⟨rfl, ?_⟩
      repeat refine Below.setCell ?_ (by first | omega | (simp; done) | (simp; omega)) _
      exact hB.out
set_option maxRecDepth 100000 in
set_option maxHeartbeats 1000000 in
theorem newpo_impl (w : World) : Calls Tryd.prog 33 #[] w fun e w' => e = .returned (poV neP) ∧ Below w.heap.size w w' := by
  have hs := hid (two_in (w := w) (poA zeP) (nkA 0) 32 32)
  go_enter Tryd.func33, Tryd.ntmps33
  go_wp2
  go_loopw [4] (fun i wr => ∃ k : Nat, k ≤ 8 ∧ i = .int .i64 k ∧ Blk wr w.heap.size (poA zeP) ∧ Blk wr (w.heap.size + 1) (nkA k) ∧ Below w.heap.size w wr) (fun i _ => 8 - (intOf i).toNat)
  case atStart => exact ⟨0, by omega, rfl, hs.out⟩
  case round =>
    obtain ⟨k, hk, rfl, q0, q1, hB⟩ := hrel
    clear hs
    by_cases hlt : k < 8
    · have x1 := q1.cell k
      rw [nkA_at k hlt] at x1
      have f1 := q1.frozen k
      have q2 := q1.set k (.int .i64 31)
      rw [nkA_succ k hlt] at q2
      have hn : Hid (Blk (wr.setCell ⟨w.heap.size + 1, k, none⟩ (.int .i64 31)) w.heap.size (poA zeP) ∧ Blk (wr.setCell ⟨w.heap.size + 1, k, none⟩ (.int .i64 31)) (w.heap.size + 1) (nkA (k + 1)) ∧ Below w.heap.size w (wr.setCell ⟨w.heap.size + 1, k, none⟩ (.int .i64 31))) := ⟨q0.other (by simp) _, q2, hB.setCell (p := ⟨w.heap.size + 1, k, none⟩) (by simp only []; omega) _⟩
      clear q0 q1 hB q2
      go_wp2
      go_roundw
      case rel => exact ⟨k + 1, by omega, by go_num, hn.out⟩
      case measure => simp [intOf]; omega
    · obtain rfl : k = 8 := by omega
      rw [nkA_all] at q1
      have x0 := q0.cell
      have f0 := q0.frozen
      have l0 := q0.lt
      have x1 := q1.cell
      replace hB := hid hB
      clear q0 q1
      go_wp2
      refine bodyPost_ret (v := poV neP) (by simp [results, Tryd.results33, go_sem, x0]) rfl ⟨rfl, ?_⟩
      repeat refine Below.setCell ?_ (by first | omega | (simp; done) | (simp; omega)) _
      exact hB.out
end Go.Proofs.YtifcdojaocndhaaDoor

/- A key that is pressed or let go: what the specification and the program answer. -/
namespace Go.Proofs.YtifcdojaocndhaaDoor
open Go.ChangeShapes Go.WideShapes Go.ChangeAt Go.RowKit
set_option linter.unusedVariables false
set_option linter.unusedSimpArgs false

def upN (x k : Nat) : Nat := Nat.lor x (Nat.pow 2 k)
def dnN (x k : Nat) : Nat := Nat.sub x (Nat.land x (Nat.pow 2 k))
def keyN (x k : Nat) (down : Bool) : Nat := cond down (dnN x k) (upN x k)
def press2 (p : Po) (row key : Int) (down : Bool) : Po × Int := if okPo p = true then (if (inB row 0 7 && inB key 0 4) = true then (p.put (keyN (p.key row.toNat).toNat key.toNat down : Nat) row.toNat, 0) else (zeP, 4)) else (zeP, 1)
abbrev ans2 (r : Po × Int) : Value := .tuple #[poV r.1, .int .i64 r.2]
def allE (p : Nat → Nat → Bool) : Bool := allB 32 fun x => p x 0 && p x 1 && p x 2 && p x 3 && p x 4
theorem upN_lt : ∀ x : Nat, x < 32 → ∀ k : Nat, k < 5 → upN x k < 32 := by decide +kernel
theorem dnN_lt : ∀ x : Nat, x < 32 → ∀ k : Nat, k < 5 → dnN x k < 32 := by decide +kernel
theorem dn_0 : ∀ x : Nat, x < 32 → bits .andNot .i64 (x : Int) 1 = (dnN x 0 : Nat) ∧ dnN (upN x 0) 0 = dnN x 0 := by decide +kernel
theorem dn_1 : ∀ x : Nat, x < 32 → bits .andNot .i64 (x : Int) 2 = (dnN x 1 : Nat) ∧ dnN (upN x 1) 1 = dnN x 1 := by decide +kernel
theorem dn_2 : ∀ x : Nat, x < 32 → bits .andNot .i64 (x : Int) 4 = (dnN x 2 : Nat) ∧ dnN (upN x 2) 2 = dnN x 2 := by decide +kernel
theorem dn_3 : ∀ x : Nat, x < 32 → bits .andNot .i64 (x : Int) 8 = (dnN x 3 : Nat) ∧ dnN (upN x 3) 3 = dnN x 3 := by decide +kernel
theorem dn_4 : ∀ x : Nat, x < 32 → bits .andNot .i64 (x : Int) 16 = (dnN x 4 : Nat) ∧ dnN (upN x 4) 4 = dnN x 4 := by decide +kernel
/-- ports in a block, and room for an answer behind it -/
structure PSp (w W : World) (A : Array Value) : Prop where
  q0 : Blk W w.heap.size A
  q1 : Blk W (w.heap.size + 1) (poA zeP)
  bel : Below w.heap.size w W
theorem PSp.start (w : World) (c : Po) (t t1 : TypeId) : PSp w ((w.alloc (.cells (poA c) t)).alloc (.cells (poA zeP) t1)) (poA c) := by
  obtain ⟨q0, q1, hB⟩ := two_in (w := w) (poA c) (poA zeP) t t1
  exact ⟨q0, q1, hB⟩
theorem PSp.below {w W W' : World} {A : Array Value} (h : PSp w W A) (hb : Below W.heap.size W W') : PSp w W' A :=
  ⟨h.q0.below hb h.q0.lt, h.q1.below hb h.q1.lt, h.bel.trans (hb.mono h.bel.size)⟩
theorem PSp.drew {w W : World} {A : Array Value} (h : PSp w W A) : PSp w W.drew A := h.below ⟨rfl, rfl, rfl, Nat.le_refl _, fun _ _ => rfl⟩
theorem PSp.set {w W : World} {A : Array Value} (h : PSp w W A) (i : Nat) (u : Value) : PSp w (W.setCell ⟨w.heap.size, i, none⟩ u) (A.setIfInBounds i u) :=
  ⟨h.q0.set i u, h.q1.other (by simp) u, h.bel.setCell (p := ⟨w.heap.size, i, none⟩) (Nat.le_refl _) u⟩
theorem poA_put_at (c : Po) (k : Nat) (v : Int) (hk : k < 8) : (poA (c.put v k))[k]? = some (.int .i64 v) := by
  rcases eight hk with rfl | rfl | rfl | rfl | rfl | rfl | rfl | rfl <;> rfl
theorem put_put (c : Po) (k : Nat) (u v : Int) (hk : k < 8) : (c.put u k).put v k = c.put v k := by
  rcases eight hk with rfl | rfl | rfl | rfl | rfl | rfl | rfl | rfl <;> rfl
def pfN (c : Po) (b : Bool) : Int := if okPo c = true then (if b = true then 0 else 4) else 1
set_option maxRecDepth 100000 in
theorem pfault_impl (c : Po) (b : Bool) (w : World) : Calls Tryd.prog 155 #[poV c, .bool b] w fun e w' => e = .returned (.int .i64 (pfN c b)) ∧ Below w.heap.size w w' := by
  have hB := hid ((Below.refl w.heap.size w).alloc (Nat.le_refl _) (.cells (poA c) 32))
  have x0 := (Blk.new w (poA c) 32).cell
  have hok := hid (fun w1 => pok_impl c w1)
  have e : pfN c b = if okPo c = true then (if b = true then 0 else 4) else 1 := rfl
  rw [e]
  clear e
  generalize okPo c = Q at *
  go_enter Tryd.func155, Tryd.ntmps155
  go_upto_region 1 with fail
  obtain ⟨V, hV⟩ : ∃ V, w.alloc (Obj.cells (poA c) 32) = V := ⟨_, rfl⟩
  rw [hV] at hB x0 ⊢
  clear hV
  go_wp2_with fail
  refine (hok.out _).mono ?_
  rintro e w1 ⟨rfl, hb⟩
  have hb1 := hid (new_trans hB.out hb)
  clear hb hB x0
  cases Q
  · go_wp2
    go_ret
    exact ⟨rfl, hb1.out⟩
  · cases b
    · go_wp2
      go_ret
      exact ⟨rfl, hb1.out⟩
    · go_wp2
      go_ret
      exact ⟨rfl, hb1.out⟩
end Go.Proofs.YtifcdojaocndhaaDoor
