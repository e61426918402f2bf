/- Lists of three numbers each (events, cycles) in the laws: copied, compared, measured. -/
import Derived.Test.YtifcdojaocndhaaDoorWacs
import Derived.Test.YtifcdojaocndhaaDoorWads
import Derived.Laws.MakeOwn
import Derived.OwnWalk
import Derived.Deep.DeepCutAuto
import Derived.Deep.RegionWith
import Derived.Test.YtifcdojaocndhaaDoorWaqs
import Derived.Test.YtifcdojaocndhaaDoorS27
namespace Go.Proofs.YtifcdojaocndhaaDoor
open Go.ChangeShapes Go.WideShapes Go.ChangeAt Go.RowKit Go.Joins
set_option linter.unusedVariables false
set_option linter.unusedSimpArgs false

/-- a row of three numbers each, in a block of its own -/
structure EvO (W : World) (g : Nat) (l : List Evt) : Prop where
  cell : ∀ k, k < l.length → W.cell? ⟨g, k * 3, none⟩ = some (.int .i64 (l.getD k e0).t) ∧ W.cell? ⟨g, k * 3 + 1, none⟩ = some (.int .i64 (l.getD k e0).k) ∧ W.cell? ⟨g, k * 3 + 2, none⟩ = some (.int .i64 (l.getD k e0).v)
  fro : ∀ i, W.frozen? ⟨g, i, none⟩ = false
  lt : g < W.heap.size
theorem EvO.read {W : World} {g cap : Nat} {l : List Evt} (h : EvO W g l) : EvR W (.slice (some ⟨g, 0, none⟩) l.length cap) l := ⟨_, cap, rfl, .inr ⟨g, 0, rfl, fun k hk => by simpa using h.cell k hk⟩⟩
theorem cell_keptE {W W' : World} {b i : Nat} {v : Value} (hb : Below W.heap.size W W') (h : W.cell? ⟨b, i, none⟩ = some v) : W'.cell? ⟨b, i, none⟩ = some v := by
  rw [hb.cell (p := ⟨b, i, none⟩) (World.block_lt_of_cell? W _ h)]
  exact h
theorem EvO.below {W W' : World} {g : Nat} {l : List Evt} (h : EvO W g l) (hb : Below W.heap.size W W') : EvO W' g l :=
  ⟨fun k hk => ⟨cell_keptE hb (h.cell k hk).1, cell_keptE hb (h.cell k hk).2.1, cell_keptE hb (h.cell k hk).2.2⟩, fun i => by rw [hb.frozen (p := ⟨g, i, none⟩) h.lt]; exact h.fro i, Nat.lt_of_lt_of_le h.lt hb.size⟩
abbrev set3 (W : World) (g k : Nat) (a b c : Int) : World := ((W.setCell ⟨g, k * 3, none⟩ (.int .i64 a)).setCell ⟨g, k * 3 + 1, none⟩ (.int .i64 b)).setCell ⟨g, k * 3 + 2, none⟩ (.int .i64 c)
theorem EvO.set {W : World} {g : Nat} {l : List Evt} (h : EvO W g l) (k : Nat) (hk : k < l.length) (e : Evt) : EvO (set3 W g k e.t e.k e.v) g (l.set k e) := by
  have o : ∀ (X : World) (i j : Nat) (u : Value), i ≠ j → (X.setCell ⟨g, j, none⟩ u).cell? ⟨g, i, none⟩ = X.cell? ⟨g, i, none⟩ := fun X i j u hne => World.cell?_setCell_other _ _ _ _ (by intro e; injection e with _ e2 _; exact hne e2.symm)
  have m : ∀ (X : World) (i : Nat) (u v : Value), X.cell? ⟨g, i, none⟩ = some v → (X.setCell ⟨g, i, none⟩ u).cell? ⟨g, i, none⟩ = some u := fun X i u v hv => World.cell?_setCell_same' _ _ _ (by rw [hv]; rfl)
  refine ⟨fun j hj => ?_, fun i => by rw [World.frozen?_setCell, World.frozen?_setCell, World.frozen?_setCell]; exact h.fro i, by have := h.lt; simpa [World.setCell] using this⟩
  rw [List.length_set] at hj
  obtain ⟨c1, c2, c3⟩ := h.cell j hj
  by_cases e1 : j = k
  · subst e1
    have hg : (l.set j e).getD j e0 = e := by rw [List.getD_eq_getElem?_getD, List.getElem?_set_self hj]; rfl
    rw [hg]
    refine ⟨?_, ?_, m _ _ _ (.int .i64 (l.getD j e0).v) (by rw [o _ _ _ _ (by omega), o _ _ _ _ (by omega)]; exact c3)⟩
    · rw [o _ _ _ _ (by omega), o _ _ _ _ (by omega)]
      exact m _ _ _ _ c1
    · rw [o _ _ _ _ (by omega)]
      exact m _ _ _ (.int .i64 (l.getD j e0).k) (by rw [o _ _ _ _ (by omega)]; exact c2)
  · have hg : (l.set k e).getD j e0 = l.getD j e0 := by rw [List.getD_eq_getElem?_getD, List.getElem?_set_ne (fun e2 => e1 e2.symm), ← List.getD_eq_getElem?_getD]
    rw [hg, o _ _ _ _ (by omega), o _ _ _ _ (by omega), o _ _ _ _ (by omega), o _ _ _ _ (by omega), o _ _ _ _ (by omega), o _ _ _ _ (by omega), o _ _ _ _ (by omega), o _ _ _ _ (by omega), o _ _ _ _ (by omega)]
    exact ⟨c1, c2, c3⟩
theorem EvO.made (w : World) (n : Nat) (t : TypeId) : EvO (w.alloc (.cells (madeCells #[.int .i64 0, .int .i64 0, .int .i64 0] (n * 3)) t)) w.heap.size (List.replicate n e0) := by
  have q := Blk.new w (madeCells #[.int .i64 0, .int .i64 0, .int .i64 0] (n * 3)) t
  have c : ∀ i, (w.alloc (.cells (madeCells #[.int .i64 0, .int .i64 0, .int .i64 0] (n * 3)) t)).cell? ⟨w.heap.size, i, none⟩ = (madeCells #[.int .i64 0, .int .i64 0, .int .i64 0] (n * 3))[i]? := fun i => q.cell i
  refine ⟨fun k hk => ?_, fun i => q.frozen i, q.lt⟩
  rw [List.length_replicate] at hk
  have hg : (List.replicate n e0).getD k e0 = e0 := by rw [List.getD_eq_getElem?_getD, List.getElem?_replicate, if_pos hk]; rfl
  rw [hg, c, c, c]
  have h0 : k * 3 % 3 = 0 := by omega
  have h1 : (k * 3 + 1) % 3 = 1 := by omega
  have h2 : (k * 3 + 2) % 3 = 2 := by omega
  have l0 : k * 3 < n * 3 := by omega
  have l1 : k * 3 + 1 < n * 3 := by omega
  have l2 : k * 3 + 2 < n * 3 := by omega
  refine ⟨?_, ?_, ?_⟩
  · simp [madeCells, h0, l0]
  · simp [madeCells, h1, l1]
  · simp [madeCells, h2, l2]
def cpE (l : List Evt) : Nat → List Evt
  | 0 => List.replicate l.length e0
  | k + 1 => (cpE l k).set k (l.getD k e0)
theorem cpE_len (l : List Evt) (k : Nat) : (cpE l k).length = l.length := by
  induction k with
  | zero => simp [cpE]
  | succ k ih => simp [cpE, ih]
theorem cpE_at (l : List Evt) (k j : Nat) (hj : j < l.length) : (cpE l k).getD j e0 = if j < k then l.getD j e0 else e0 := by
  induction k with
  | zero => simp [cpE, List.getD_eq_getElem?_getD, List.getElem?_replicate, hj]
  | succ k ih =>
    show ((cpE l k).set k (l.getD k e0)).getD j e0 = _
    by_cases e : j = k
    · subst e
      rw [List.getD_eq_getElem?_getD, List.getElem?_set_self (by rw [cpE_len]; exact hj), if_pos (by omega)]
      rfl
    · rw [List.getD_eq_getElem?_getD, List.getElem?_set_ne (fun e2 => e e2.symm), ← List.getD_eq_getElem?_getD, ih]
      by_cases h : j < k
      · rw [if_pos h, if_pos (by omega)]
      · rw [if_neg h, if_neg (by omega)]
theorem cpE_all (l : List Evt) : cpE l l.length = l := by
  apply List.ext_getElem?
  intro j
  by_cases h : j < l.length
  · have h1 := cpE_at l l.length j h
    rw [if_pos h, List.getD_eq_getElem?_getD, List.getD_eq_getElem?_getD, List.getElem?_eq_getElem (by rw [cpE_len]; exact h), List.getElem?_eq_getElem h] at h1
    rw [List.getElem?_eq_getElem (by rw [cpE_len]; exact h), List.getElem?_eq_getElem h]
    exact congrArg some h1
  · rw [List.getElem?_eq_none (by rw [cpE_len]; omega), List.getElem?_eq_none (by omega)]
set_option maxRecDepth 100000 in
theorem szevs (v : Value) (l : List Evt) (left : Int) (w : World) (h : EvR w v l) (hl : l.length ≤ maxLen) (h0 : 0 ≤ left) (h1 : left ≤ 1048576) :
    Calls Tryd.prog 51 #[v, .int .i64 left] w fun e w' => ∃ R : Int, e = .returned (.int .i64 R) ∧ (R < 0 ∨ (0 ≤ R ∧ (l.length : Int) + R = left)) ∧ Below w.heap.size w w' := by
  replace hl : l.length ≤ 9223372036854775807 := hl
  obtain ⟨a, c, rfl, _⟩ := h
  obtain ⟨q, hq⟩ : ∃ q : Int, left - (l.length : Int) = q := ⟨_, rfl⟩
  by_cases hn : q < 0
  · have hqb : -9223372036854775808 ≤ q := by omega
    go_enter Tryd.func51, Tryd.ntmps51
    go_wp2
    go_ret
    exact ⟨-1, rfl, .inl (by omega), Below.refl _ _⟩
  · have hq2 := hid hq
    have hqb : q ≤ 1048576 := by omega
    go_enter Tryd.func51, Tryd.ntmps51
    go_wp2
    go_ret
    exact ⟨q, rfl, .inr ⟨by omega, by have := hq2.out; omega⟩, Below.refl _ _⟩
set_option maxRecDepth 100000 in
theorem toev (e : Evt) (w : World) : Calls Tryd.prog 108 #[evV e] w fun r w' => r = .returned (evV e) ∧ Below w.heap.size w w' := by
  go_enter Tryd.func108, Tryd.ntmps108
  go_wp2
  exact bodyPost_ret (v := evV e) (by simp [results, Tryd.results108, go_sem]) rfl ⟨rfl, by repeat (first | exact Below.refl _ _ | refine Below.drew ?_ | refine Below.alloc ?_ (by first | omega | (simp; omega) | simp) _ | refine Below.setCell ?_ (by first | omega | (simp; omega) | simp) _)⟩
theorem infoev : (Tryd.prog.info? 117).map (fun i => (i.zero, i.size, i.bytes)) = some (some (.agg #[.int .i64 0, .int .i64 0, .int .i64 0]), 3, 24) := by kernel_rfl
set_option maxRecDepth 100000 in
set_option maxHeartbeats 2000000 in
theorem toevs (v : Value) (l : List Evt) (w : World) (h : EvR w v l) (hl : l.length ≤ 1048576) :
    Calls Tryd.prog 60 #[v] w fun e w' => e = .returned (.slice (some ⟨w.heap.size, 0, none⟩) l.length l.length) ∧ EvO w' w.heap.size l ∧ Below w.heap.size w w' := by
  obtain ⟨a, cap, rfl, _⟩ := id h
  obtain ⟨i0, hi0, hz0, hz1, hz2⟩ := info_parts infoev
  obtain ⟨MC, hMC⟩ : ∃ MC, madeCells (Value.agg #[.int .i64 0, .int .i64 0, .int .i64 0]).cells (((l.length : Nat) : Int).toNat * i0.size) = MC := ⟨_, rfl⟩
  have hmk : ∀ W : World, (Instr.makeSlice 39 (.int .i64 (l.length : Int)) (.int .i64 (l.length : Int))).run Tryd.prog W = .ok (.slice (some ⟨W.heap.size, 0, none⟩) l.length l.length) (W.alloc (.cells MC 117)) := fun W => by
    have h := run_make (P := Tryd.prog) W 39 117 i0 (.agg #[.int .i64 0, .int .i64 0, .int .i64 0]) Tryd.underlying39 hi0 hz0 .i64 .i64 (l.length : Int) (l.length : Int) (by omega) (by omega) (by rw [hz2]; omega) (by omega)
    rw [hMC] at h
    simpa using h
  have h0 : EvO (w.alloc (.cells MC 117)) w.heap.size (cpE l 0) := by
    rw [← hMC, hz1, Int.toNat_natCast]
    exact EvO.made w l.length _
  clear hMC
  replace h0 := hid h0
  have hall := hid (cpE_all l)
  replace h := hid h
  go_enter Tryd.func60, Tryd.ntmps60
  go_wp2
  clear hmk
  go_loopw [4] (fun i wr => ∃ k : Nat, k ≤ l.length ∧ i = .int .i64 k ∧ EvO wr w.heap.size (cpE l k) ∧ Below w.heap.size w wr) (fun i _ => l.length - (intOf i).toNat)
  case atStart => exact ⟨0, by omega, rfl, h0.out, (Below.refl _ _).alloc (Nat.le_refl _) _⟩
  case round =>
    obtain ⟨k, hk, rfl, hM, hW⟩ := hrel
    by_cases hlt : k < l.length
    · obtain ⟨g, o, rfl, x1, x2, x3⟩ := (h.out.below hW).at hlt
      have z1 := World.block_lt_of_cell? wr _ x1
      have hE : Hid (cpE l (k + 1) = (cpE l k).set k (l.getD k e0)) := rfl
      have hlen : k < (cpE l k).length := by rw [cpE_len]; exact hlt
      replace hlen := hid hlen
      obtain ⟨F, D, G, hFD⟩ : ∃ F D G, l.getD k e0 = ⟨F, D, G⟩ := ⟨(l.getD k e0).t, (l.getD k e0).k, (l.getD k e0).v, rfl⟩
      rw [hFD] at x1 x2 x3 hE
      simp only [] at x1 x2 x3
      have hO := hid (fun W => toev ⟨F, D, G⟩ W)
      clear hFD
      generalize cpE l k = L0 at *
      replace hW := hid hW
      replace hM := hid hM
      go_wp2_with fail
      refine (hO.out _).mono ?_
      rintro e w2 ⟨rfl, hb2⟩
      have hW2 := hid (new_trans hW.out hb2)
      have hM2 := hM.out.below hb2
      obtain ⟨y1, y2, y3⟩ := hM2.cell k hlen.out
      have yf := hM2.fro
      have yl := hM2.lt
      have hM3 := hid (hM2.set k hlen.out ⟨F, D, G⟩)
      have hW3 := hid (((hW2.out.setCell (p := ⟨w.heap.size, k * 3, none⟩) (Nat.le_refl _) (.int .i64 F)).setCell (p := ⟨w.heap.size, k * 3 + 1, none⟩) (Nat.le_refl _) (.int .i64 D)).setCell (p := ⟨w.heap.size, k * 3 + 2, none⟩) (Nat.le_refl _) (.int .i64 G))
      clear hb2 hW x1 x2 x3 z1 hM hM2 hW2
      generalize (L0.getD k e0).t = u1 at *
      generalize (L0.getD k e0).k = u2 at *
      generalize (L0.getD k e0).v = u3 at *
      go_wp2
      go_roundw
      case rel => exact ⟨k + 1, by omega, by go_num, by rw [hE.out]; exact hM3.out, hW3.out⟩
      case measure => simp [intOf]; omega
    · obtain rfl : k = l.length := by omega
      rw [hall.out] at hM
      replace hW := hid hW
      replace hM := hid hM
      go_wp2
      go_ret
      exact ⟨rfl, hM.out, hW.out⟩
set_option maxRecDepth 100000 in
theorem eqev (e : Evt) (w : World) : Calls Tryd.prog 87 #[evV e, evV e] w fun r w' => r = .returned (.bool true) ∧ Below w.heap.size w w' := by
  go_enter Tryd.func87, Tryd.ntmps87
  go_wp2
  go_ret
  exact ⟨rfl, ((Below.refl _ _).alloc (Nat.le_refl _) _).alloc (by simp) _⟩
set_option maxRecDepth 100000 in
set_option maxHeartbeats 2000000 in
theorem eqevs (v v' : Value) (l : List Evt) (w : World) (h : EvR w v l) (h' : EvR w v' l) (hl : l.length ≤ 1048576) :
    Calls Tryd.prog 40 #[v, v'] w fun e w' => e = .returned (.bool true) ∧ Below w.heap.size w w' := by
  obtain ⟨a, cap, rfl, _⟩ := id h
  obtain ⟨b, cbp, rfl, _⟩ := id h'
  replace h := hid h
  replace h' := hid h'
  go_enter Tryd.func40, Tryd.ntmps40
  go_wp2
  go_loopw [5] (fun i wr => ∃ k : Nat, k ≤ l.length ∧ i = .int .i64 k ∧ Below w.heap.size w wr) (fun i _ => l.length - (intOf i).toNat)
  case atStart => exact ⟨0, by omega, rfl, Below.refl _ _⟩
  case round =>
    obtain ⟨k, hk, rfl, hW⟩ := hrel
    by_cases hlt : k < l.length
    · obtain ⟨g, o, rfl, x1, x2, x3⟩ := (h.out.below hW).at hlt
      obtain ⟨g', o', rfl, y1, y2, y3⟩ := (h'.out.below hW).at hlt
      obtain ⟨F, D, G, hFD⟩ : ∃ F D G, l.getD k e0 = ⟨F, D, G⟩ := ⟨(l.getD k e0).t, (l.getD k e0).k, (l.getD k e0).v, rfl⟩
      rw [hFD] at x1 x2 x3 y1 y2 y3
      simp only [] at x1 x2 x3 y1 y2 y3
      have hO := hid (fun W => eqev ⟨F, D, G⟩ W)
      clear hFD
      replace hW := hid hW
      go_upto_region 6 with fail
      go_cut [26] (fun z wx => z = .bool false ∧ Below w.heap.size w wx)
      case first =>
        go_region_with (go_at_call 87; refine (hO.out _).mono ?_; rintro e w2 ⟨rfl, hb2⟩; have hW2 := hid (new_trans hW.out.drew hb2); clear hb2)
        all_goals
          go_wp2_with fail
          go_meet
          exact ⟨rfl, hW2.out⟩
      case rest =>
        obtain ⟨rfl, hW2⟩ := hcut
        replace hW2 := hid hW2
        go_wp2
        go_roundw
        case rel => exact ⟨k + 1, by omega, by go_num, hW2.out⟩
        case measure => simp [intOf]; omega
    · obtain rfl : k = l.length := by omega
      replace hW := hid hW
      go_wp2
      go_ret
      exact ⟨rfl, hW.out⟩
set_option maxRecDepth 100000 in
theorem szccs (v : Value) (l : List Evt) (left : Int) (w : World) (h : EvR w v l) (hl : l.length ≤ maxLen) (h0 : 0 ≤ left) (h1 : left ≤ 1048576) :
    Calls Tryd.prog 17 #[v, .int .i64 left] w fun e w' => ∃ R : Int, e = .returned (.int .i64 R) ∧ (R < 0 ∨ (0 ≤ R ∧ (l.length : Int) + R = left)) ∧ Below w.heap.size w w' := by
  replace hl : l.length ≤ 9223372036854775807 := hl
  obtain ⟨a, c, rfl, _⟩ := h
  obtain ⟨q, hq⟩ : ∃ q : Int, left - (l.length : Int) = q := ⟨_, rfl⟩
  by_cases hn : q < 0
  · have hqb : -9223372036854775808 ≤ q := by omega
    go_enter Tryd.func17, Tryd.ntmps17
    go_wp2
    go_ret
    exact ⟨-1, rfl, .inl (by omega), Below.refl _ _⟩
  · have hq2 := hid hq
    have hqb : q ≤ 1048576 := by omega
    go_enter Tryd.func17, Tryd.ntmps17
    go_wp2
    go_ret
    exact ⟨q, rfl, .inr ⟨by omega, by have := hq2.out; omega⟩, Below.refl _ _⟩
set_option maxRecDepth 100000 in
theorem tocc (e : Evt) (w : World) : Calls Tryd.prog 61 #[evV e] w fun r w' => r = .returned (evV e) ∧ Below w.heap.size w w' := by
  go_enter Tryd.func61, Tryd.ntmps61
  go_wp2
  exact bodyPost_ret (v := evV e) (by simp [results, Tryd.results61, go_sem]) rfl ⟨rfl, by repeat (first | exact Below.refl _ _ | refine Below.drew ?_ | refine Below.alloc ?_ (by first | omega | (simp; omega) | simp) _ | refine Below.setCell ?_ (by first | omega | (simp; omega) | simp) _)⟩
theorem infocc : (Tryd.prog.info? 108).map (fun i => (i.zero, i.size, i.bytes)) = some (some (.agg #[.int .i64 0, .int .i64 0, .int .i64 0]), 3, 24) := by kernel_rfl
set_option maxRecDepth 100000 in
set_option maxHeartbeats 2000000 in
theorem toccs (v : Value) (l : List Evt) (w : World) (h : EvR w v l) (hl : l.length ≤ 1048576) :
    Calls Tryd.prog 20 #[v] w fun e w' => e = .returned (.slice (some ⟨w.heap.size, 0, none⟩) l.length l.length) ∧ EvO w' w.heap.size l ∧ Below w.heap.size w w' := by
  obtain ⟨a, cap, rfl, _⟩ := id h
  obtain ⟨i0, hi0, hz0, hz1, hz2⟩ := info_parts infocc
  obtain ⟨MC, hMC⟩ : ∃ MC, madeCells (Value.agg #[.int .i64 0, .int .i64 0, .int .i64 0]).cells (((l.length : Nat) : Int).toNat * i0.size) = MC := ⟨_, rfl⟩
  have hmk : ∀ W : World, (Instr.makeSlice 65 (.int .i64 (l.length : Int)) (.int .i64 (l.length : Int))).run Tryd.prog W = .ok (.slice (some ⟨W.heap.size, 0, none⟩) l.length l.length) (W.alloc (.cells MC 108)) := fun W => by
    have h := run_make (P := Tryd.prog) W 65 108 i0 (.agg #[.int .i64 0, .int .i64 0, .int .i64 0]) Tryd.underlying65 hi0 hz0 .i64 .i64 (l.length : Int) (l.length : Int) (by omega) (by omega) (by rw [hz2]; omega) (by omega)
    rw [hMC] at h
    simpa using h
  have h0 : EvO (w.alloc (.cells MC 108)) w.heap.size (cpE l 0) := by
    rw [← hMC, hz1, Int.toNat_natCast]
    exact EvO.made w l.length _
  clear hMC
  replace h0 := hid h0
  have hall := hid (cpE_all l)
  replace h := hid h
  go_enter Tryd.func20, Tryd.ntmps20
  go_wp2
  clear hmk
  go_loopw [4] (fun i wr => ∃ k : Nat, k ≤ l.length ∧ i = .int .i64 k ∧ EvO wr w.heap.size (cpE l k) ∧ Below w.heap.size w wr) (fun i _ => l.length - (intOf i).toNat)
  case atStart => exact ⟨0, by omega, rfl, h0.out, (Below.refl _ _).alloc (Nat.le_refl _) _⟩
  case round =>
    obtain ⟨k, hk, rfl, hM, hW⟩ := hrel
    by_cases hlt : k < l.length
    · obtain ⟨g, o, rfl, x1, x2, x3⟩ := (h.out.below hW).at hlt
      have z1 := World.block_lt_of_cell? wr _ x1
      have hE : Hid (cpE l (k + 1) = (cpE l k).set k (l.getD k e0)) := rfl
      have hlen : k < (cpE l k).length := by rw [cpE_len]; exact hlt
      replace hlen := hid hlen
      obtain ⟨F, D, G, hFD⟩ : ∃ F D G, l.getD k e0 = ⟨F, D, G⟩ := ⟨(l.getD k e0).t, (l.getD k e0).k, (l.getD k e0).v, rfl⟩
      rw [hFD] at x1 x2 x3 hE
      simp only [] at x1 x2 x3
      have hO := hid (fun W => tocc ⟨F, D, G⟩ W)
      clear hFD
      generalize cpE l k = L0 at *
      replace hW := hid hW
      replace hM := hid hM
      go_wp2_with fail
      refine (hO.out _).mono ?_
      rintro e w2 ⟨rfl, hb2⟩
      have hW2 := hid (new_trans hW.out hb2)
      have hM2 := hM.out.below hb2
      obtain ⟨y1, y2, y3⟩ := hM2.cell k hlen.out
      have yf := hM2.fro
      have yl := hM2.lt
      have hM3 := hid (hM2.set k hlen.out ⟨F, D, G⟩)
      have hW3 := hid (((hW2.out.setCell (p := ⟨w.heap.size, k * 3, none⟩) (Nat.le_refl _) (.int .i64 F)).setCell (p := ⟨w.heap.size, k * 3 + 1, none⟩) (Nat.le_refl _) (.int .i64 D)).setCell (p := ⟨w.heap.size, k * 3 + 2, none⟩) (Nat.le_refl _) (.int .i64 G))
      clear hb2 hW x1 x2 x3 z1 hM hM2 hW2
      generalize (L0.getD k e0).t = u1 at *
      generalize (L0.getD k e0).k = u2 at *
      generalize (L0.getD k e0).v = u3 at *
      go_wp2
      go_roundw
      case rel => exact ⟨k + 1, by omega, by go_num, by rw [hE.out]; exact hM3.out, hW3.out⟩
      case measure => simp [intOf]; omega
    · obtain rfl : k = l.length := by omega
      rw [hall.out] at hM
      replace hW := hid hW
      replace hM := hid hM
      go_wp2
      go_ret
      exact ⟨rfl, hM.out, hW.out⟩
set_option maxRecDepth 100000 in
theorem eqcc (e : Evt) (w : World) : Calls Tryd.prog 65 #[evV e, evV e] w fun r w' => r = .returned (.bool true) ∧ Below w.heap.size w w' := by
  go_enter Tryd.func65, Tryd.ntmps65
  go_wp2
  go_ret
  exact ⟨rfl, ((Below.refl _ _).alloc (Nat.le_refl _) _).alloc (by simp) _⟩
set_option maxRecDepth 100000 in
set_option maxHeartbeats 2000000 in
theorem eqccs (v v' : Value) (l : List Evt) (w : World) (h : EvR w v l) (h' : EvR w v' l) (hl : l.length ≤ 1048576) :
    Calls Tryd.prog 22 #[v, v'] w fun e w' => e = .returned (.bool true) ∧ Below w.heap.size w w' := by
  obtain ⟨a, cap, rfl, _⟩ := id h
  obtain ⟨b, cbp, rfl, _⟩ := id h'
  replace h := hid h
  replace h' := hid h'
  go_enter Tryd.func22, Tryd.ntmps22
  go_wp2
  go_loopw [5] (fun i wr => ∃ k : Nat, k ≤ l.length ∧ i = .int .i64 k ∧ Below w.heap.size w wr) (fun i _ => l.length - (intOf i).toNat)
  case atStart => exact ⟨0, by omega, rfl, Below.refl _ _⟩
  case round =>
    obtain ⟨k, hk, rfl, hW⟩ := hrel
    by_cases hlt : k < l.length
    · obtain ⟨g, o, rfl, x1, x2, x3⟩ := (h.out.below hW).at hlt
      obtain ⟨g', o', rfl, y1, y2, y3⟩ := (h'.out.below hW).at hlt
      obtain ⟨F, D, G, hFD⟩ : ∃ F D G, l.getD k e0 = ⟨F, D, G⟩ := ⟨(l.getD k e0).t, (l.getD k e0).k, (l.getD k e0).v, rfl⟩
      rw [hFD] at x1 x2 x3 y1 y2 y3
      simp only [] at x1 x2 x3 y1 y2 y3
      have hO := hid (fun W => eqcc ⟨F, D, G⟩ W)
      clear hFD
      replace hW := hid hW
      go_upto_region 6 with fail
      go_cut [26] (fun z wx => z = .bool false ∧ Below w.heap.size w wx)
      case first =>
        go_region_with (go_at_call 65; refine (hO.out _).mono ?_; rintro e w2 ⟨rfl, hb2⟩; have hW2 := hid (new_trans hW.out.drew hb2); clear hb2)
        all_goals
          go_wp2_with fail
          go_meet
          exact ⟨rfl, hW2.out⟩
      case rest =>
        obtain ⟨rfl, hW2⟩ := hcut
        replace hW2 := hid hW2
        go_wp2
        go_roundw
        case rel => exact ⟨k + 1, by omega, by go_num, hW2.out⟩
        case measure => simp [intOf]; omega
    · obtain rfl : k = l.length := by omega
      replace hW := hid hW
      go_wp2
      go_ret
      exact ⟨rfl, hW.out⟩
end Go.Proofs.YtifcdojaocndhaaDoor

/- A drawn region walked in one order, where a slot that is read is written later on. -/
namespace Go.Proofs.YtifcdojaocndhaaDoor
open Go.ChangeShapes Go.WideShapes Go.ChangeAt Go.RowKit
set_option linter.unusedVariables false
set_option linter.unusedSimpArgs false

section
variable {P : Program} {ops : Array Oper}
/-- each operation waits for those whose slots it looks at, or these wait for it -/
def depK (ops : Array Oper) : Bool := (List.range ops.size).all fun i => match ops[i]? with
  | none => true
  | some o => (o.looksAt ops).all fun s => (List.range ops.size).all fun j => dstAt ops j != some s || ((o.after.any fun e => e.on == j && Region.binds .any e) || (match ops[j]? with
    | none => false
    | some oj => oj.after.any fun e => e.on == i && Region.binds .any e))
theorem calm_goK {Q : Exit → Act → World → Prop} {id : Nat} {A : Act} {w1 : World} (m : Nat) (S1 S2 : World → Prop) (hm : P.follows .mixedOrders = true) (hac : acyc .any ops = true) (hd : dstOK ops = true) (hdp : depK ops = true) (hsel : Region.noSelect ops = true) (hin : insOK ops A.tmps.size = true) (hS : S1 w1.drew)
    (h : CalmFrom P ops m S1 S2 (fun a w => Q .normal a w) 0 A) : (Code.region id ops true).wp P Q A w1 := by
  obtain ⟨V, h1, h2⟩ := h
  simp only [Nat.zero_add, Nat.sub_zero] at h1 h2
  have inA : ∀ i s, dstAt ops i = some s → s < A.tmps.size := fun i s hi => by
    have hlt : i < ops.size := by
      rcases Nat.lt_or_ge i ops.size with h1 | h1
      · exact h1
      · unfold dstAt at hi
        rw [Array.getElem?_eq_none (by exact h1)] at hi
        cases hi
    have := List.all_eq_true.1 hin i (List.mem_range.2 hlt)
    rw [hi] at this
    simpa using this
  refine wp_region_slotsK (E := Unit) (fun i _ => V i) (fun f _ w => (∀ i o, ops[i]? = some o → f i = true → ∀ d ∈ o.after, Region.binds .any d = true → f d.on = true) ∧ (if m < ops.size ∧ f m = true then S2 w else S1 w)) hm hac hd inA ?_ () ?_ ?_
  · intro f _ a w i o hi ho hun hdep hJ hFr hKp K hK
    obtain ⟨hcl, hJ⟩ := hJ
    have hstep := h1 i o ho
    have hcl2 : ∀ k o', ops[k]? = some o' → (k == i || f k) = true → ∀ d ∈ o'.after, Region.binds .any d = true → (d.on == i || f d.on) = true := fun k o' hk hf d hdm hb => by
      by_cases e : k = i
      · subst e
        rw [ho] at hk
        obtain rfl := Option.some.inj hk
        rw [hdep d hdm hb, Bool.or_true]
      · have : f k = true := by
          rw [Bool.or_eq_true, beq_iff_eq] at hf
          exact hf.resolve_left e
        rw [hcl k o' hk this d hdm hb, Bool.or_true]
    have hal : SeesAlike ops o a (canonF ops 0 A V i) := by
      refine ⟨by rw [hFr.size, canonF_size], fun s hs => ?_⟩
      have hg := canonF_get A V hd hin s i (Nat.le_of_lt hi)
      by_cases hw : ∃ j, j < ops.size ∧ dstAt ops j = some s
      · obtain ⟨j, hj, hjs⟩ := hw
        have k1 := List.all_eq_true.1 hdp i (List.mem_range.2 hi)
        rw [ho] at k1
        have k2 := List.all_eq_true.1 (List.all_eq_true.1 k1 s hs) j (List.mem_range.2 hj)
        rw [hjs] at k2
        simp only [bne_self_eq_false, Bool.false_or, Bool.or_eq_true, Array.any_eq_true'] at k2
        rcases k2 with k2 | k2
        · obtain ⟨d, hd1, hd2⟩ := k2
          simp only [Bool.and_eq_true, beq_iff_eq] at hd2
          have hfj := hdep d hd1 hd2.2
          rw [hd2.1] at hfj
          have hlt : j < i := by
            have q1 := List.all_eq_true.1 hac i (List.mem_range.2 hi)
            rw [ho] at q1
            have q2 := Array.all_eq_true'.1 q1 d hd1
            rw [hd2.2, hd2.1] at q2
            simpa using q2
          rw [hFr.new j s hjs hfj, hg.2 j hlt hjs]
        · cases hoj : ops[j]? with
          | none => rw [hoj] at k2; cases k2
          | some oj =>
            rw [hoj] at k2
            simp only [Array.any_eq_true'] at k2
            obtain ⟨d, hd1, hd2⟩ := k2
            simp only [Bool.and_eq_true, beq_iff_eq] at hd2
            have hfj : f j = false := by
              cases hq : f j
              · rfl
              · have := hcl j oj hoj hq d hd1 hd2.2
                rw [hd2.1, hun] at this
                cases this
            have hlt : i < j := by
              have q1 := List.all_eq_true.1 hac j (List.mem_range.2 hj)
              rw [hoj] at q1
              have q2 := Array.all_eq_true'.1 q1 d hd1
              rw [hd2.2, hd2.1] at q2
              simpa using q2
            have hno : ∀ j', j' < i → dstAt ops j' ≠ some s := fun j' hj' e => by
              have := dst_apart hd hjs e
              omega
            rw [hKp j s hjs hfj, hg.1 hno]
      · have hn : ∀ j, dstAt ops j ≠ some s := fun j hj => hw ⟨j, dst_lt hj, hj⟩
        rw [hFr.old s hn, hg.1 (fun j _ => hn j)]
    have hso : ∀ cs x, o.op ≠ .select cs x := fun cs x => Region.noSelect_spec hsel i o cs x ho
    rw [sees_wanted hal]
    have hex := sees_exec hal hso
    have hdi : ∀ k, o.dst = some k → k < (canonF ops 0 A V i).tmps.size := fun k hk => by
      rw [canonF_size]
      exact inA i k (by unfold dstAt; rw [ho]; exact hk)
    have same : ∀ j, f j = true → V j = V j := fun _ _ => rfl
    rcases hstep with ⟨hw, hv, hne⟩ | ⟨hw, hc⟩
    · rw [hw, if_neg (by decide)]
      refine hK undef () w hv.symm same ⟨hcl2, ?_⟩
      have e : (m == i || f m) = f m := by
        have : (m == i) = false := by simpa using fun e => hne e.symm
        rw [this, Bool.false_or]
      show (if m < ops.size ∧ (m == i || f m) = true then S2 w else S1 w)
      rw [e]
      exact hJ
    · rw [hw, if_pos rfl]
      by_cases him : i = m
      · rw [if_pos him] at hc
        have hS1 : S1 w := by
          rw [if_neg (by rintro ⟨_, hf⟩; rw [him] at hun; rw [hun] at hf; cases hf)] at hJ
          exact hJ
        refine calm_move hc hex hdi hS1 (fun w' ht => hK (V i) () w' rfl same ⟨hcl2, ?_⟩)
        show (if m < ops.size ∧ (m == i || f m) = true then S2 w' else S1 w')
        rw [if_pos ⟨by rw [← him]; exact hi, by rw [him]; simp⟩]
        exact ht
      · rw [if_neg him] at hc
        have e : (m == i || f m) = f m := by
          have : (m == i) = false := by simpa using fun e => him e.symm
          rw [this, Bool.false_or]
        by_cases hfm : m < ops.size ∧ f m = true
        · rw [if_pos hfm] at hJ
          have hnw : ¬ waits ops m i = true := fun hwt => by
            unfold waits at hwt
            rw [decide_eq_false (by omega), Bool.false_or] at hwt
            have := calmReach_done hcl 8 m i hwt hfm.2
            rw [hun] at this
            cases this
          rw [if_neg hnw] at hc
          refine calm_move hc.2 hex hdi hJ (fun w' ht => hK (V i) () w' rfl same ⟨hcl2, ?_⟩)
          show (if m < ops.size ∧ (m == i || f m) = true then S2 w' else S1 w')
          rw [e, if_pos hfm]
          exact ht
        · rw [if_neg hfm] at hJ
          have hc1 : Calm P S1 S1 o (V i) (canonF ops 0 A V i) := by
            split at hc
            · exact hc
            · exact hc.1
          refine calm_move hc1 hex hdi hJ (fun w' ht => hK (V i) () w' rfl same ⟨hcl2, ?_⟩)
          show (if m < ops.size ∧ (m == i || f m) = true then S2 w' else S1 w')
          rw [e, if_neg hfm]
          exact ht
  · refine ⟨fun i o _ h => (by cases h), ?_⟩
    rw [if_neg (by rintro ⟨_, h⟩; cases h)]
    exact hS
  · intro f _ a w hall hJ hFr
    obtain ⟨_, hJ⟩ := hJ
    have hfin : (if m < ops.size then S2 w else S1 w) := by
      by_cases hlt : m < ops.size
      · rw [if_pos ⟨hlt, hall m hlt⟩] at hJ
        rw [if_pos hlt]; exact hJ
      · rw [if_neg (fun h => hlt h.1)] at hJ
        rw [if_neg hlt]; exact hJ
    have e : a = canonF ops 0 A V ops.size := by
      have hde : a.defers = (canonF ops 0 A V ops.size).defers := by rw [hFr.defers, canonF_defers]
      have hsz : a.tmps.size = (canonF ops 0 A V ops.size).tmps.size := by rw [hFr.size, canonF_size]
      have htm : a.tmps = (canonF ops 0 A V ops.size).tmps := by
        apply Array.ext hsz
        intro s hs1 hs2
        have hg := canonF_get A V hd hin s ops.size (Nat.le_refl _)
        have : a.tmps.getD s undef = (canonF ops 0 A V ops.size).tmps.getD s undef := by
          by_cases hw : ∃ j, j < ops.size ∧ dstAt ops j = some s
          · obtain ⟨j, hj, hjs⟩ := hw
            rw [hFr.new j s hjs (hall j hj), hg.2 j hj hjs]
          · have hn : ∀ j, dstAt ops j ≠ some s := fun j hj => hw ⟨j, dst_lt hj, hj⟩
            rw [hFr.old s hn, hg.1 (fun j _ => hn j)]
        simpa [Array.getD, hs1, hs2] using this
      cases a
      cases hc : canonF ops 0 A V ops.size
      rw [hc] at hde htm
      simp only at hde htm
      rw [hde, htm]
    rw [e]
    exact h2 w hfin
theorem calm_regionK {L : List Oper} {Q : Exit → Act → World → Prop} {id : Nat} {A : Act} {w1 : World} (m : Nat) (S1 S2 : World → Prop) (hm : P.follows .mixedOrders = true) (hac : acyc .any L.toArray = true) (hd : dstOK L.toArray = true) (hdp : depK L.toArray = true) (hsel : Region.noSelect L.toArray = true) (hin : insOK L.toArray A.tmps.size = true) (hS : S1 w1.drew)
    (h : CalmL P L.toArray m S1 S2 (fun a w => Q .normal a w) 0 L A) : (Code.region id L.toArray true).wp P Q A w1 := calm_goK m S1 S2 hm hac hd hdp hsel hin hS (h (by simp))
end
end Go.Proofs.YtifcdojaocndhaaDoor
