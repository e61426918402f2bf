/- Ports as plain numbers; what the laws do with them; ports that come in. -/
import Derived.Test.YtghcagibdcblnaaS09
import Derived.Deep.Matrix
import Derived.Lib.SmallJoins
namespace Go.Proofs.Ytghcagibdcblnaa
open Go.ChangeShapes Go.WideShapes Go.ChangeAt Go.RowKit Go.Joins Go.Deep
set_option linter.unusedVariables false
set_option linter.unusedSimpArgs false

/-- ports as they come in: any numbers -/
structure Po where
  k0 : Int
  k1 : Int
  k2 : Int
  k3 : Int
  k4 : Int
  k5 : Int
  k6 : Int
  k7 : Int
  joy : Int
  border : Int
  mic : Bool
  beep : Bool
abbrev poA (p : Po) : Array Value := #[.int .i64 p.k0, .int .i64 p.k1, .int .i64 p.k2, .int .i64 p.k3, .int .i64 p.k4, .int .i64 p.k5, .int .i64 p.k6, .int .i64 p.k7, .int .i64 p.joy, .int .i64 p.border, .bool p.mic, .bool p.beep]
abbrev poV (p : Po) : Value := .agg (poA p)
def Po.key (p : Po) : Nat → Int
  | 0 => p.k0
  | 1 => p.k1
  | 2 => p.k2
  | 3 => p.k3
  | 4 => p.k4
  | 5 => p.k5
  | 6 => p.k6
  | _ => p.k7
def Po.put (p : Po) (v : Int) : Nat → Po
  | 0 => { p with k0 := v }
  | 1 => { p with k1 := v }
  | 2 => { p with k2 := v }
  | 3 => { p with k3 := v }
  | 4 => { p with k4 := v }
  | 5 => { p with k5 := v }
  | 6 => { p with k6 := v }
  | _ => { p with k7 := v }
abbrev zeP : Po := ⟨0, 0, 0, 0, 0, 0, 0, 0, 0, 0, false, false⟩
/-- their keys, as registers -/
abbrev Po.cu (p : Po) : Cu := ⟨p.k0, p.k1, p.k2, p.k3, p.k4, p.k5, p.k6, p.k7, 0, 0, 0, false, false, false⟩
theorem poA_put (p : Po) (k : Nat) (v : Int) (hk : k < 8) : (poA p).setIfInBounds k (.int .i64 v) = poA (p.put v k) := by
  rcases eight hk with rfl | rfl | rfl | rfl | rfl | rfl | rfl | rfl <;> rfl
theorem poA_at (p : Po) (k : Nat) (hk : k < 8) : (poA p)[k]? = some (.int .i64 (p.key k)) := by
  rcases eight hk with rfl | rfl | rfl | rfl | rfl | rfl | rfl | rfl <;> rfl
def keysB (p : Po) : Bool := (List.range 8).all (fun i => inB (p.key i) 0 31)
def okPo (p : Po) : Bool := keysB p && inB p.joy 0 31 && inB p.border 0 7
theorem keys_no {p : Po} {k : Nat} (hk : k < 8) (h : inB (p.key k) 0 31 = false) : okPo p = false := by
  have : keysB p = false := by
    unfold keysB
    rw [List.all_eq_false]
    exact ⟨k, List.mem_range.2 hk, by simp [h]⟩
  simp [okPo, this]
theorem keys_all {p : Po} (h : ∀ i, i < 8 → inB (p.key i) 0 31 = true) : keysB p = true := by
  unfold keysB
  rw [List.all_eq_true]
  exact fun i hi => h i (List.mem_range.1 hi)
theorem okPo_key {p : Po} (h : okPo p = true) (k : Nat) (hk : k < 8) : ∃ x : Nat, p.key k = x ∧ x < 32 := by
  unfold okPo at h
  simp only [Bool.and_eq_true] at h
  have := List.all_eq_true.1 h.1.1 k (List.mem_range.2 hk)
  simp [inB] at this
  exact ⟨(p.key k).toNat, by omega, by omega⟩
set_option maxRecDepth 100000 in
set_option maxHeartbeats 1000000 in
theorem topo (c : Po) (w : World) : Calls Try.prog 21 #[poV c] w fun e w' => e = .returned (poV c) ∧ Below w.heap.size w w' := by
  have hs := hid (Tri.start w (poA c) (poA zeP) (poA zeP) 30 37 37)
  have x0 := hs.out.q0.cell
  go_enter Try.func21, Try.ntmps21
  go_upto_region 2 with fail
  obtain ⟨V, hV⟩ : ∃ V, (((w.alloc (.cells (poA c) 30)).alloc (.cells (poA zeP) 37)).alloc (.cells (poA zeP) 37)) = V := ⟨_, rfl⟩
  rw [hV] at hs x0 ⊢
  clear hV
  go_wp2_with fail
  refine (toa c.cu V).mono ?_
  rintro e w1 ⟨rfl, hb⟩
  have h1 := hid (hs.out.below hb)
  have y0 := h1.out.q0.cell
  have y1 := h1.out.q1.cell
  have y2 := h1.out.q2.cell
  have g1 := h1.out.q1.frozen
  have g2 := h1.out.q2.frozen
  have l1 := h1.out.q1.lt
  have l2 := h1.out.q2.lt
  have hB := hid h1.out.bel
  clear hs x0 hb h1
  go_wp2
  refine bodyPost_ret (v := poV c) (by simp [results, Try.results21, go_sem, y1, y2]) rfl ⟨rfl, ?_⟩
  repeat refine Below.setCell ?_ (by first | omega | (simp; done) | (simp; omega)) _
  exact hB.out
set_option maxRecDepth 100000 in
set_option maxHeartbeats 1000000 in
theorem eqp_yes (c : Po) (w : World) : Calls Try.prog 25 #[poV c, poV c] w fun e w' => e = .returned (.bool true) ∧ Below w.heap.size w w' := by
  have hs := hid (two_in (w := w) (poA c) (poA c) 37 37)
  have x0 := hs.out.1.cell
  have x1 := hs.out.2.1.cell
  go_enter Try.func25, Try.ntmps25
  go_upto_region 1 with fail
  obtain ⟨V, hV⟩ : ∃ V, ((w.alloc (.cells (poA c) 37)).alloc (.cells (poA c) 37)) = V := ⟨_, rfl⟩
  rw [hV] at hs x0 x1 ⊢
  clear hV
  go_wp2_with fail
  refine (eqa_yes c.cu V).mono ?_
  rintro e w1 ⟨rfl, hb⟩
  have y0 := (hs.out.1.below hb hs.out.1.lt).cell
  have y1 := (hs.out.2.1.below hb hs.out.2.1.lt).cell
  have hB := hid (hs.out.2.2.trans (hb.mono hs.out.2.2.size))
  clear hs x0 x1 hb
  go_wp2
  go_ret
  exact ⟨rfl, hB.out⟩
theorem arr12 {α : Type} {cs : Array α} (h : cs.size = 12) : ∃ c0 c1 c2 c3 c4 c5 c6 c7 c8 c9 c10 c11, cs = #[c0, c1, c2, c3, c4, c5, c6, c7, c8, c9, c10, c11] := by
  obtain ⟨l⟩ := cs
  match l, h with
  | [c0, c1, c2, c3, c4, c5, c6, c7, c8, c9, c10, c11], _ => exact ⟨c0, c1, c2, c3, c4, c5, c6, c7, c8, c9, c10, c11, rfl⟩
set_option maxRecDepth 100000 in
set_option maxHeartbeats 1000000 in
theorem ports_in {H : Type} {enc : TypeId × Value → H} {W : World} {base b0 : Nat} {spare : Nat → Bool} {held : Bool} {r : Reach} {v : Value} {d : DataW H} {p : List MemPlace}
    (hv : Value.okWide Try.prog W r b0 30 v) (h : DataW.Trod enc Try.prog W base spare held 30 v d p) : ∃ c : Po, v = poV c := by
  obtain ⟨cs, rfl, hsz⟩ := okWide_struct Try.underlying30 hv
  have c12 : Try.prog.cellsOf 30 = 12 := by kernel_rfl
  have ci : Try.prog.cellsOf 3 = 1 := by kernel_rfl
  have cb : Try.prog.cellsOf 4 = 1 := by kernel_rfl
  have c8 : Try.prog.cellsOf 22 = 8 := by kernel_rfl
  obtain ⟨v0, v1, v2, v3, v4, v5, v6, v7, v8, v9, v10, v11, rfl⟩ := arr12 (hsz.trans c12)
  obtain ⟨fuel, hf⟩ := h
  obtain ⟨xs, n, _, _, hl, hlen, hfl⟩ := DataW.trod_struct Try.underlying30 hf
  have k0 : DataW.trod enc Try.prog W base spare held n 22 (([v0, v1, v2, v3, v4, v5, v6, v7, v8, v9, v10, v11].drop 0).take (Try.prog.cellsOf 22)) = xs[0]? := hfl 0 _ rfl
  have k1 : DataW.trod enc Try.prog W base spare held n 3 (([v0, v1, v2, v3, v4, v5, v6, v7, v8, v9, v10, v11].drop 8).take (Try.prog.cellsOf 3)) = xs[1]? := hfl 1 _ rfl
  have k2 : DataW.trod enc Try.prog W base spare held n 3 (([v0, v1, v2, v3, v4, v5, v6, v7, v8, v9, v10, v11].drop 9).take (Try.prog.cellsOf 3)) = xs[2]? := hfl 2 _ rfl
  have k3 : DataW.trod enc Try.prog W base spare held n 4 (([v0, v1, v2, v3, v4, v5, v6, v7, v8, v9, v10, v11].drop 10).take (Try.prog.cellsOf 4)) = xs[3]? := hfl 3 _ rfl
  have k4 : DataW.trod enc Try.prog W base spare held n 4 (([v0, v1, v2, v3, v4, v5, v6, v7, v8, v9, v10, v11].drop 11).take (Try.prog.cellsOf 4)) = xs[4]? := hfl 4 _ rfl
  rw [ci] at k1 k2
  rw [cb] at k3 k4
  rw [c8] at k0
  simp only [List.drop_succ_cons, List.drop_zero, List.take_succ_cons, List.take_zero] at k0 k1 k2 k3 k4
  match xs, hlen with
  | [y0, y1, y2, y3, y4], _ =>
    simp only [List.getElem?_cons_zero, List.getElem?_cons_succ] at k0 k1 k2 k3 k4
    obtain ⟨zs, m, hz1, hz2, hz3, hz4, hel⟩ := DataW.trod_array Try.underlying22 k0
    obtain ⟨f, i1, _, _⟩ := DataW.trod_int Try.underlying3 k1
    obtain ⟨sp, i2, _, _⟩ := DataW.trod_int Try.underlying3 k2
    obtain ⟨b1, i3, _⟩ := DataW.trod_bool Try.underlying4 k3
    obtain ⟨b2, i4, _⟩ := DataW.trod_bool Try.underlying4 k4
    have key : ∀ i (hi : i < 8), ∃ z : Int, [v0, v1, v2, v3, v4, v5, v6, v7][i]? = some (.int .i64 z) := by
      intro i hi
      have h0 := hel i hi
      rw [ci, Nat.mul_one] at h0
      have hxi : zs[i]? = some zs[i] := List.getElem?_eq_getElem (by omega)
      rw [hxi] at h0
      obtain ⟨z, e1, _, _⟩ := DataW.trod_int Try.underlying3 h0
      refine ⟨z, ?_⟩
      have := congrArg (·[0]?) e1
      simpa [List.getElem?_take, List.getElem?_drop] using this
    obtain ⟨r0, e0⟩ := key 0 (by omega)
    obtain ⟨r1, e1⟩ := key 1 (by omega)
    obtain ⟨r2, e2⟩ := key 2 (by omega)
    obtain ⟨r3, e3⟩ := key 3 (by omega)
    obtain ⟨r4, e4⟩ := key 4 (by omega)
    obtain ⟨r5, e5⟩ := key 5 (by omega)
    obtain ⟨r6, e6⟩ := key 6 (by omega)
    obtain ⟨r7, e7⟩ := key 7 (by omega)
    simp only [List.getElem?_cons_zero, List.getElem?_cons_succ, Option.some.injEq] at e0 e1 e2 e3 e4 e5 e6 e7
    simp only [List.cons.injEq, and_true] at i1 i2 i3 i4
    exact ⟨⟨r0, r1, r2, r3, r4, r5, r6, r7, f, sp, b1, b2⟩, by rw [e0, e1, e2, e3, e4, e5, e6, e7, i1, i2, i3, i4]⟩
end Go.Proofs.Ytghcagibdcblnaa
