/- Lists of three numbers each (events, cycles) in the laws: copied, compared, measured. -/
import Derived.Test.YtifcdojaocndhaaDoorWacm
import Derived.Test.YtifcdojaocndhaaDoorWadm
import Derived.Laws.MakeOwn
import Derived.OwnWalk
import Derived.Deep.DeepCutAuto
import Derived.Deep.RegionWith
namespace Go.Proofs.YtifcdojaocndhaaDoor
open Go.ChangeShapes Go.WideShapes Go.ChangeAt Go.RowKit Go.Joins
set_option linter.unusedVariables false
set_option linter.unusedSimpArgs false

/-- a row of three numbers each, in a block of its own -/
structure EvO (W : World) (g : Nat) (l : List Evt) : Prop where
  cell : ∀ k, k < l.length → W.cell? ⟨g, k * 3, none⟩ = some (.int .i64 (l.getD k e0).t) ∧ W.cell? ⟨g, k * 3 + 1, none⟩ = some (.int .i64 (l.getD k e0).k) ∧ W.cell? ⟨g, k * 3 + 2, none⟩ = some (.int .i64 (l.getD k e0).v)
  fro : ∀ i, W.frozen? ⟨g, i, none⟩ = false
  lt : g < W.heap.size
theorem EvO.read {W : World} {g cap : Nat} {l : List Evt} (h : EvO W g l) : EvR W (.slice (some ⟨g, 0, none⟩) l.length cap) l := ⟨_, cap, rfl, .inr ⟨g, 0, rfl, fun k hk => by simpa using h.cell k hk⟩⟩
theorem cell_keptE {W W' : World} {b i : Nat} {v : Value} (hb : Below W.heap.size W W') (h : W.cell? ⟨b, i, none⟩ = some v) : W'.cell? ⟨b, i, none⟩ = some v := by
  rw [hb.cell (p := ⟨b, i, none⟩) (World.block_lt_of_cell? W _ h)]
  exact h
theorem EvO.below {W W' : World} {g : Nat} {l : List Evt} (h : EvO W g l) (hb : Below W.heap.size W W') : EvO W' g l :=
  ⟨fun k hk => ⟨cell_keptE hb (h.cell k hk).1, cell_keptE hb (h.cell k hk).2.1, cell_keptE hb (h.cell k hk).2.2⟩, fun i => by rw [hb.frozen (p := ⟨g, i, none⟩) h.lt]; exact h.fro i, Nat.lt_of_lt_of_le h.lt hb.size⟩
abbrev set3 (W : World) (g k : Nat) (a b c : Int) : World := ((W.setCell ⟨g, k * 3, none⟩ (.int .i64 a)).setCell ⟨g, k * 3 + 1, none⟩ (.int .i64 b)).setCell ⟨g, k * 3 + 2, none⟩ (.int .i64 c)
theorem EvO.set {W : World} {g : Nat} {l : List Evt} (h : EvO W g l) (k : Nat) (hk : k < l.length) (e : Evt) : EvO (set3 W g k e.t e.k e.v) g (l.set k e) := by
  have o : ∀ (X : World) (i j : Nat) (u : Value), i ≠ j → (X.setCell ⟨g, j, none⟩ u).cell? ⟨g, i, none⟩ = X.cell? ⟨g, i, none⟩ := fun X i j u hne => World.cell?_setCell_other _ _ _ _ (by intro e; injection e with _ e2 _; exact hne e2.symm)
  have m : ∀ (X : World) (i : Nat) (u v : Value), X.cell? ⟨g, i, none⟩ = some v → (X.setCell ⟨g, i, none⟩ u).cell? ⟨g, i, none⟩ = some u := fun X i u v hv => World.cell?_setCell_same' _ _ _ (by rw [hv]; rfl)
  refine ⟨fun j hj => ?_, fun i => by rw [World.frozen?_setCell, World.frozen?_setCell, World.frozen?_setCell]; exact h.fro i, by have := h.lt; simpa [World.setCell] using this⟩
  rw [List.length_set] at hj
  obtain ⟨c1, c2, c3⟩ := h.cell j hj
  by_cases e1 : j = k
  · subst e1
    have hg : (l.set j e).getD j e0 = e := by rw [List.getD_eq_getElem?_getD, List.getElem?_set_self hj]; rfl
    rw [hg]
    refine ⟨?_, ?_, m _ _ _ (.int .i64 (l.getD j e0).v) (by rw [o _ _ _ _ (by omega), o _ _ _ _ (by omega)]; exact c3)⟩
    · rw [o _ _ _ _ (by omega), o _ _ _ _ (by omega)]
      exact m _ _ _ _ c1
    · rw [o _ _ _ _ (by omega)]
      exact m _ _ _ (.int .i64 (l.getD j e0).k) (by rw [o _ _ _ _ (by omega)]; exact c2)
  · have hg : (l.set k e).getD j e0 = l.getD j e0 := by rw [List.getD_eq_getElem?_getD, List.getElem?_set_ne (fun e2 => e1 e2.symm), ← List.getD_eq_getElem?_getD]
    rw [hg, o _ _ _ _ (by omega), o _ _ _ _ (by omega), o _ _ _ _ (by omega), o _ _ _ _ (by omega), o _ _ _ _ (by omega), o _ _ _ _ (by omega), o _ _ _ _ (by omega), o _ _ _ _ (by omega), o _ _ _ _ (by omega)]
    exact ⟨c1, c2, c3⟩
theorem EvO.made (w : World) (n : Nat) (t : TypeId) : EvO (w.alloc (.cells (madeCells #[.int .i64 0, .int .i64 0, .int .i64 0] (n * 3)) t)) w.heap.size (List.replicate n e0) := by
  have q := Blk.new w (madeCells #[.int .i64 0, .int .i64 0, .int .i64 0] (n * 3)) t
  have c : ∀ i, (w.alloc (.cells (madeCells #[.int .i64 0, .int .i64 0, .int .i64 0] (n * 3)) t)).cell? ⟨w.heap.size, i, none⟩ = (madeCells #[.int .i64 0, .int .i64 0, .int .i64 0] (n * 3))[i]? := fun i => q.cell i
  refine ⟨fun k hk => ?_, fun i => q.frozen i, q.lt⟩
  rw [List.length_replicate] at hk
  have hg : (List.replicate n e0).getD k e0 = e0 := by rw [List.getD_eq_getElem?_getD, List.getElem?_replicate, if_pos hk]; rfl
  rw [hg, c, c, c]
  have h0 : k * 3 % 3 = 0 := by omega
  have h1 : (k * 3 + 1) % 3 = 1 := by omega
  have h2 : (k * 3 + 2) % 3 = 2 := by omega
  have l0 : k * 3 < n * 3 := by omega
  have l1 : k * 3 + 1 < n * 3 := by omega
  have l2 : k * 3 + 2 < n * 3 := by omega
  refine ⟨?_, ?_, ?_⟩
  · simp [madeCells, h0, l0]
  · simp [madeCells, h1, l1]
  · simp [madeCells, h2, l2]
def cpE (l : List Evt) : Nat → List Evt
  | 0 => List.replicate l.length e0
  | k + 1 => (cpE l k).set k (l.getD k e0)
theorem cpE_len (l : List Evt) (k : Nat) : (cpE l k).length = l.length := by
  induction k with
  | zero => simp [cpE]
  | succ k ih => simp [cpE, ih]
theorem cpE_at (l : List Evt) (k j : Nat) (hj : j < l.length) : (cpE l k).getD j e0 = if j < k then l.getD j e0 else e0 := by
  induction k with
  | zero => simp [cpE, List.getD_eq_getElem?_getD, List.getElem?_replicate, hj]
  | succ k ih =>
    show ((cpE l k).set k (l.getD k e0)).getD j e0 = _
    by_cases e : j = k
    · subst e
      rw [List.getD_eq_getElem?_getD, List.getElem?_set_self (by rw [cpE_len]; exact hj), if_pos (by omega)]
      rfl
    · rw [List.getD_eq_getElem?_getD, List.getElem?_set_ne (fun e2 => e e2.symm), ← List.getD_eq_getElem?_getD, ih]
      by_cases h : j < k
      · rw [if_pos h, if_pos (by omega)]
      · rw [if_neg h, if_neg (by omega)]
theorem cpE_all (l : List Evt) : cpE l l.length = l := by
  apply List.ext_getElem?
  intro j
  by_cases h : j < l.length
  · have h1 := cpE_at l l.length j h
    rw [if_pos h, List.getD_eq_getElem?_getD, List.getD_eq_getElem?_getD, List.getElem?_eq_getElem (by rw [cpE_len]; exact h), List.getElem?_eq_getElem h] at h1
    rw [List.getElem?_eq_getElem (by rw [cpE_len]; exact h), List.getElem?_eq_getElem h]
    exact congrArg some h1
  · rw [List.getElem?_eq_none (by rw [cpE_len]; omega), List.getElem?_eq_none (by omega)]
set_option maxRecDepth 100000 in
theorem szevs (v : Value) (l : List Evt) (left : Int) (w : World) (h : EvR w v l) (hl : l.length ≤ maxLen) (h0 : 0 ≤ left) (h1 : left ≤ 1048576) :
    Calls Tryd.prog 51 #[v, .int .i64 left] w fun e w' => ∃ R : Int, e = .returned (.int .i64 R) ∧ (R < 0 ∨ (0 ≤ R ∧ (l.length : Int) + R = left)) ∧ Below w.heap.size w w' := by
  replace hl : l.length ≤ 9223372036854775807 := hl
  obtain ⟨a, c, rfl, _⟩ := h
  obtain ⟨q, hq⟩ : ∃ q : Int, left - (l.length : Int) = q := ⟨_, rfl⟩
  by_cases hn : q < 0
  · have hqb : -9223372036854775808 ≤ q := by omega
    go_enter Tryd.func51, Tryd.ntmps51
    go_wp2
    go_ret
    exact ⟨-1, rfl, .inl (by omega), Below.refl _ _⟩
  · have hq2 := hid hq
    have hqb : q ≤ 1048576 := by omega
    go_enter Tryd.func51, Tryd.ntmps51
    go_wp2
    go_ret
    exact ⟨q, rfl, .inr ⟨by omega, by have := hq2.out; omega⟩, Below.refl _ _⟩
set_option maxRecDepth 100000 in
theorem toev (e : Evt) (w : World) : Calls Tryd.prog 108 #[evV e] w fun r w' => r = .returned (evV e) ∧ Below w.heap.size w w' := by
  go_enter Tryd.func108, Tryd.ntmps108
  go_wp2
  exact bodyPost_ret (v := evV e) (by simp [results, Tryd.results108, go_sem]) rfl ⟨rfl, by repeat (first | exact Below.refl _ _ | refine Below.drew ?_ | refine Below.alloc ?_ (by first | omega | (simp; omega) | simp) _ | refine Below.setCell ?_ (by first | omega | (simp; omega) | simp) _)⟩
theorem infoev : (Tryd.prog.info? 117).map (fun i => (i.zero, i.size, i.bytes)) = some (some (.agg #[.int .i64 0, .int .i64 0, .int .i64 0]), 3, 24) := by kernel_rfl
set_option maxRecDepth 100000 in
set_option maxHeartbeats 2000000 in
theorem toevs (v : Value) (l : List Evt) (w : World) (h : EvR w v l) (hl : l.length ≤ 1048576) :
    Calls Tryd.prog 60 #[v] w fun e w' => e = .returned (.slice (some ⟨w.heap.size, 0, none⟩) l.length l.length) ∧ EvO w' w.heap.size l ∧ Below w.heap.size w w' := by
  obtain ⟨a, cap, rfl, _⟩ := id h
  obtain ⟨i0, hi0, hz0, hz1, hz2⟩ := info_parts infoev
  obtain ⟨MC, hMC⟩ : ∃ MC, madeCells (Value.agg #[.int .i64 0, .int .i64 0, .int .i64 0]).cells (((l.length : Nat) : Int).toNat * i0.size) = MC := ⟨_, rfl⟩
  have hmk : ∀ W : World, (Instr.makeSlice 39 (.int .i64 (l.length : Int)) (.int .i64 (l.length : Int))).run Tryd.prog W = .ok (.slice (some ⟨W.heap.size, 0, none⟩) l.length l.length) (W.alloc (.cells MC 117)) := fun W => by
    have h := run_make (P := Tryd.prog) W 39 117 i0 (.agg #[.int .i64 0, .int .i64 0, .int .i64 0]) Tryd.underlying39 hi0 hz0 .i64 .i64 (l.length : Int) (l.length : Int) (by omega) (by omega) (by rw [hz2]; omega) (by omega)
    rw [hMC] at h
    simpa using h
  have h0 : EvO (w.alloc (.cells MC 117)) w.heap.size (cpE l 0) := by
    rw [← hMC, hz1, Int.toNat_natCast]
    exact EvO.made w l.length _
  clear hMC
  replace h0 := hid h0
  have hall := hid (cpE_all l)
  replace h := hid h
  go_enter Tryd.func60, Tryd.ntmps60
  go_wp2
  clear hmk
  go_loopw [4] (fun i wr => ∃ k : Nat, k ≤ l.length ∧ i = .int .i64 k ∧ EvO wr w.heap.size (cpE l k) ∧ Below w.heap.size w wr) (fun i _ => l.length - (intOf i).toNat)
  case atStart => exact ⟨0, by omega, rfl, h0.out, (Below.refl _ _).alloc (Nat.le_refl _) _⟩
  case round =>
    obtain ⟨k, hk, rfl, hM, hW⟩ := hrel
    by_cases hlt : k < l.length
    · obtain ⟨g, o, rfl, x1, x2, x3⟩ := (h.out.below hW).at hlt
      have z1 := World.block_lt_of_cell? wr _ x1
      have hE : Hid (cpE l (k + 1) = (cpE l k).set k (l.getD k e0)) := rfl
      have hlen : k < (cpE l k).length := by rw [cpE_len]; exact hlt
      replace hlen := hid hlen
      obtain ⟨F, D, G, hFD⟩ : ∃ F D G, l.getD k e0 = ⟨F, D, G⟩ := ⟨(l.getD k e0).t, (l.getD k e0).k, (l.getD k e0).v, rfl⟩
      rw [hFD] at x1 x2 x3 hE
      simp only [] at x1 x2 x3
      have hO := hid (fun W => toev ⟨F, D, G⟩ W)
      clear hFD
      generalize cpE l k = L0 at *
      replace hW := hid hW
      replace hM := hid hM
      go_wp2_with fail
      refine (hO.out _).mono ?_
      rintro e w2 ⟨rfl, hb2⟩
      have hW2 := hid (new_trans hW.out hb2)
      have hM2 := hM.out.below hb2
      obtain ⟨y1, y2, y3⟩ := hM2.cell k hlen.out
      have yf := hM2.fro
      have yl := hM2.lt
      have hM3 := hid (hM2.set k hlen.out ⟨F, D, G⟩)
      have hW3 := hid (((hW2.out.setCell (p := ⟨w.heap.size, k * 3, none⟩) (Nat.le_refl _) (.int .i64 F)).setCell (p := ⟨w.heap.size, k * 3 + 1, none⟩) (Nat.le_refl _) (.int .i64 D)).setCell (p := ⟨w.heap.size, k * 3 + 2, none⟩) (Nat.le_refl _) (.int .i64 G))
      clear hb2 hW x1 x2 x3 z1 hM hM2 hW2
      generalize (L0.getD k e0).t = u1 at *
      generalize (L0.getD k e0).k = u2 at *
      generalize (L0.getD k e0).v = u3 at *
      go_wp2
      go_roundw
      case rel => exact ⟨k + 1, by omega, by go_num, by rw [hE.out]; exact hM3.out, hW3.out⟩
      case measure => simp [intOf]; omega
    · obtain rfl : k = l.length := by omega
      rw [hall.out] at hM
      replace hW := hid hW
      replace hM := hid hM
      go_wp2
      go_ret
      exact ⟨rfl, hM.out, hW.out⟩
set_option maxRecDepth 100000 in
theorem eqev (e : Evt) (w : World) : Calls Tryd.prog 87 #[evV e, evV e] w fun r w' => r = .returned (.bool true) ∧ Below w.heap.size w w' := by
  go_enter Tryd.func87, Tryd.ntmps87
  go_wp2
  go_ret
  exact ⟨rfl, ((Below.refl _ _).alloc (Nat.le_refl _) _).alloc (by simp) _⟩
set_option maxRecDepth 100000 in
set_option maxHeartbeats 2000000 in
theorem eqevs (v v' : Value) (l : List Evt) (w : World) (h : EvR w v l) (h' : EvR w v' l) (hl : l.length ≤ 1048576) :
    Calls Tryd.prog 40 #[v, v'] w fun e w' => e = .returned (.bool true) ∧ Below w.heap.size w w' := by
  obtain ⟨a, cap, rfl, _⟩ := id h
  obtain ⟨b, cbp, rfl, _⟩ := id h'
  replace h := hid h
  replace h' := hid h'
  go_enter Tryd.func40, Tryd.ntmps40
  go_wp2
  go_loopw [5] (fun i wr => ∃ k : Nat, k ≤ l.length ∧ i = .int .i64 k ∧ Below w.heap.size w wr) (fun i _ => l.length - (intOf i).toNat)
  case atStart => exact ⟨0, by omega, rfl, Below.refl _ _⟩
  case round =>
    obtain ⟨k, hk, rfl, hW⟩ := hrel
    by_cases hlt : k < l.length
    · obtain ⟨g, o, rfl, x1, x2, x3⟩ := (h.out.below hW).at hlt
      obtain ⟨g', o', rfl, y1, y2, y3⟩ := (h'.out.below hW).at hlt
      obtain ⟨F, D, G, hFD⟩ : ∃ F D G, l.getD k e0 = ⟨F, D, G⟩ := ⟨(l.getD k e0).t, (l.getD k e0).k, (l.getD k e0).v, rfl⟩
      rw [hFD] at x1 x2 x3 y1 y2 y3
      simp only [] at x1 x2 x3 y1 y2 y3
      have hO := hid (fun W => eqev ⟨F, D, G⟩ W)
      clear hFD
      replace hW := hid hW
      go_upto_region 6 with fail
      go_cut [26] (fun z wx => z = .bool false ∧ Below w.heap.size w wx)
      case first =>
        go_region_with (go_at_call 87; refine (hO.out _).mono ?_; rintro e w2 ⟨rfl, hb2⟩; have hW2 := hid (new_trans hW.out.drew hb2); clear hb2)
        all_goals
          go_wp2_with fail
          go_meet
          exact ⟨rfl, hW2.out⟩
      case rest =>
        obtain ⟨rfl, hW2⟩ := hcut
        replace hW2 := hid hW2
        go_wp2
        go_roundw
        case rel => exact ⟨k + 1, by omega, by go_num, hW2.out⟩
        case measure => simp [intOf]; omega
    · obtain rfl : k = l.length := by omega
      replace hW := hid hW
      go_wp2
      go_ret
      exact ⟨rfl, hW.out⟩
set_option maxRecDepth 100000 in
theorem szccs (v : Value) (l : List Evt) (left : Int) (w : World) (h : EvR w v l) (hl : l.length ≤ maxLen) (h0 : 0 ≤ left) (h1 : left ≤ 1048576) :
    Calls Tryd.prog 17 #[v, .int .i64 left] w fun e w' => ∃ R : Int, e = .returned (.int .i64 R) ∧ (R < 0 ∨ (0 ≤ R ∧ (l.length : Int) + R = left)) ∧ Below w.heap.size w w' := by
  replace hl : l.length ≤ 9223372036854775807 := hl
  obtain ⟨a, c, rfl, _⟩ := h
  obtain ⟨q, hq⟩ : ∃ q : Int, left - (l.length : Int) = q := ⟨_, rfl⟩
  by_cases hn : q < 0
  · have hqb : -9223372036854775808 ≤ q := by omega
    go_enter Tryd.func17, Tryd.ntmps17
    go_wp2
    go_ret
    exact ⟨-1, rfl, .inl (by omega), Below.refl _ _⟩
  · have hq2 := hid hq
    have hqb : q ≤ 1048576 := by omega
    go_enter Tryd.func17, Tryd.ntmps17
    go_wp2
    go_ret
    exact ⟨q, rfl, .inr ⟨by omega, by have := hq2.out; omega⟩, Below.refl _ _⟩
set_option maxRecDepth 100000 in
theorem tocc (e : Evt) (w : World) : Calls Tryd.prog 61 #[evV e] w fun r w' => r = .returned (evV e) ∧ Below w.heap.size w w' := by
  go_enter Tryd.func61, Tryd.ntmps61
  go_wp2
  exact bodyPost_ret (v := evV e) (by simp [results, Tryd.results61, go_sem]) rfl ⟨rfl, by repeat (first | exact Below.refl _ _ | refine Below.drew ?_ | refine Below.alloc ?_ (by first | omega | (simp; omega) | simp) _ | refine Below.setCell ?_ (by first | omega | (simp; omega) | simp) _)⟩
theorem infocc : (Tryd.prog.info? 108).map (fun i => (i.zero, i.size, i.bytes)) = some (some (.agg #[.int .i64 0, .int .i64 0, .int .i64 0]), 3, 24) := by kernel_rfl
set_option maxRecDepth 100000 in
set_option maxHeartbeats 2000000 in
theorem toccs (v : Value) (l : List Evt) (w : World) (h : EvR w v l) (hl : l.length ≤ 1048576) :
    Calls Tryd.prog 20 #[v] w fun e w' => e = .returned (.slice (some ⟨w.heap.size, 0, none⟩) l.length l.length) ∧ EvO w' w.heap.size l ∧ Below w.heap.size w w' := by
  obtain ⟨a, cap, rfl, _⟩ := id h
  obtain ⟨i0, hi0, hz0, hz1, hz2⟩ := info_parts infocc
  obtain ⟨MC, hMC⟩ : ∃ MC, madeCells (Value.agg #[.int .i64 0, .int .i64 0, .int .i64 0]).cells (((l.length : Nat) : Int).toNat * i0.size) = MC := ⟨_, rfl⟩
  have hmk : ∀ W : World, (Instr.makeSlice 65 (.int .i64 (l.length : Int)) (.int .i64 (l.length : Int))).run Tryd.prog W = .ok (.slice (some ⟨W.heap.size, 0, none⟩) l.length l.length) (W.alloc (.cells MC 108)) := fun W => by
    have h := run_make (P := Tryd.prog) W 65 108 i0 (.agg #[.int .i64 0, .int .i64 0, .int .i64 0]) Tryd.underlying65 hi0 hz0 .i64 .i64 (l.length : Int) (l.length : Int) (by omega) (by omega) (by rw [hz2]; omega) (by omega)
    rw [hMC] at h
    simpa using h
  have h0 : EvO (w.alloc (.cells MC 108)) w.heap.size (cpE l 0) := by
    rw [← hMC, hz1, Int.toNat_natCast]
    exact EvO.made w l.length _
  clear hMC
  replace h0 := hid h0
  have hall := hid (cpE_all l)
  replace h := hid h
  go_enter Tryd.func20, Tryd.ntmps20
  go_wp2
  clear hmk
  go_loopw [4] (fun i wr => ∃ k : Nat, k ≤ l.length ∧ i = .int .i64 k ∧ EvO wr w.heap.size (cpE l k) ∧ Below w.heap.size w wr) (fun i _ => l.length - (intOf i).toNat)
  case atStart => exact ⟨0, by omega, rfl, h0.out, (Below.refl _ _).alloc (Nat.le_refl _) _⟩
  case round =>
    obtain ⟨k, hk, rfl, hM, hW⟩ := hrel
    by_cases hlt : k < l.length
    · obtain ⟨g, o, rfl, x1, x2, x3⟩ := (h.out.below hW).at hlt
      have z1 := World.block_lt_of_cell? wr _ x1
      have hE : Hid (cpE l (k + 1) = (cpE l k).set k (l.getD k e0)) := rfl
      have hlen : k < (cpE l k).length := by rw [cpE_len]; exact hlt
      replace hlen := hid hlen
      obtain ⟨F, D, G, hFD⟩ : ∃ F D G, l.getD k e0 = ⟨F, D, G⟩ := ⟨(l.getD k e0).t, (l.getD k e0).k, (l.getD k e0).v, rfl⟩
      rw [hFD] at x1 x2 x3 hE
      simp only [] at x1 x2 x3
      have hO := hid (fun W => tocc ⟨F, D, G⟩ W)
      clear hFD
      generalize cpE l k = L0 at *
      replace hW := hid hW
      replace hM := hid hM
      go_wp2_with fail
      refine (hO.out _).mono ?_
      rintro e w2 ⟨rfl, hb2⟩
      have hW2 := hid (new_trans hW.out hb2)
      have hM2 := hM.out.below hb2
      obtain ⟨y1, y2, y3⟩ := hM2.cell k hlen.out
      have yf := hM2.fro
      have yl := hM2.lt
      have hM3 := hid (hM2.set k hlen.out ⟨F, D, G⟩)
      have hW3 := hid (((hW2.out.setCell (p := ⟨w.heap.size, k * 3, none⟩) (Nat.le_refl _) (.int .i64 F)).setCell (p := ⟨w.heap.size, k * 3 + 1, none⟩) (Nat.le_refl _) (.int .i64 D)).setCell (p := ⟨w.heap.size, k * 3 + 2, none⟩) (Nat.le_refl _) (.int .i64 G))
      clear hb2 hW x1 x2 x3 z1 hM hM2 hW2
      generalize (L0.getD k e0).t = u1 at *
      generalize (L0.getD k e0).k = u2 at *
      generalize (L0.getD k e0).v = u3 at *
      go_wp2
      go_roundw
      case rel => exact ⟨k + 1, by omega, by go_num, by rw [hE.out]; exact hM3.out, hW3.out⟩
      case measure => simp [intOf]; omega
    · obtain rfl : k = l.length := by omega
      rw [hall.out] at hM
      replace hW := hid hW
      replace hM := hid hM
      go_wp2
      go_ret
      exact ⟨rfl, hM.out, hW.out⟩
set_option maxRecDepth 100000 in
theorem eqcc (e : Evt) (w : World) : Calls Tryd.prog 65 #[evV e, evV e] w fun r w' => r = .returned (.bool true) ∧ Below w.heap.size w w' := by
  go_enter Tryd.func65, Tryd.ntmps65
  go_wp2
  go_ret
  exact ⟨rfl, ((Below.refl _ _).alloc (Nat.le_refl _) _).alloc (by simp) _⟩
set_option maxRecDepth 100000 in
set_option maxHeartbeats 2000000 in
theorem eqccs (v v' : Value) (l : List Evt) (w : World) (h : EvR w v l) (h' : EvR w v' l) (hl : l.length ≤ 1048576) :
    Calls Tryd.prog 22 #[v, v'] w fun e w' => e = .returned (.bool true) ∧ Below w.heap.size w w' := by
  obtain ⟨a, cap, rfl, _⟩ := id h
  obtain ⟨b, cbp, rfl, _⟩ := id h'
  replace h := hid h
  replace h' := hid h'
  go_enter Tryd.func22, Tryd.ntmps22
  go_wp2
  go_loopw [5] (fun i wr => ∃ k : Nat, k ≤ l.length ∧ i = .int .i64 k ∧ Below w.heap.size w wr) (fun i _ => l.length - (intOf i).toNat)
  case atStart => exact ⟨0, by omega, rfl, Below.refl _ _⟩
  case round =>
    obtain ⟨k, hk, rfl, hW⟩ := hrel
    by_cases hlt : k < l.length
    · obtain ⟨g, o, rfl, x1, x2, x3⟩ := (h.out.below hW).at hlt
      obtain ⟨g', o', rfl, y1, y2, y3⟩ := (h'.out.below hW).at hlt
      obtain ⟨F, D, G, hFD⟩ : ∃ F D G, l.getD k e0 = ⟨F, D, G⟩ := ⟨(l.getD k e0).t, (l.getD k e0).k, (l.getD k e0).v, rfl⟩
      rw [hFD] at x1 x2 x3 y1 y2 y3
      simp only [] at x1 x2 x3 y1 y2 y3
      have hO := hid (fun W => eqcc ⟨F, D, G⟩ W)
      clear hFD
      replace hW := hid hW
      go_upto_region 6 with fail
      go_cut [26] (fun z wx => z = .bool false ∧ Below w.heap.size w wx)
      case first =>
        go_region_with (go_at_call 65; refine (hO.out _).mono ?_; rintro e w2 ⟨rfl, hb2⟩; have hW2 := hid (new_trans hW.out.drew hb2); clear hb2)
        all_goals
          go_wp2_with fail
          go_meet
          exact ⟨rfl, hW2.out⟩
      case rest =>
        obtain ⟨rfl, hW2⟩ := hcut
        replace hW2 := hid hW2
        go_wp2
        go_roundw
        case rel => exact ⟨k + 1, by omega, by go_num, hW2.out⟩
        case measure => simp [intOf]; omega
    · obtain rfl : k = l.length := by omega
      replace hW := hid hW
      go_wp2
      go_ret
      exact ⟨rfl, hW.out⟩
end Go.Proofs.YtifcdojaocndhaaDoor
