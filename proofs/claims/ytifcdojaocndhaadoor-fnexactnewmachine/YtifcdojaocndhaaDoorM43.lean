/- The row's list of two variables. -/
import Derived.Test.YtifcdojaocndhaaDoorM00
import Derived.LaidMore
import Derived.Test.YtifcdojaocndhaaDoorM36
import Derived.Stop.Joined
import Derived.Test.YtifcdojaocndhaaDoorM09
import Derived.Test.YtifcdojaocndhaaDoorM12
import Derived.Deep.Matrix
import Derived.Lib.SmallJoins
import Derived.OwnWalk
import Derived.Laws.MakeOwn
import Derived.Deep.DeepCutAuto
import Derived.Deep.RegionWith
namespace Go.Proofs.YtifcdojaocndhaaDoor
open Go.ChangeShapes Go.WideShapes Go.ChangeAt Go.RowKit
set_option linter.unusedVariables false

theorem laid_twoM {P : Program} {n : String} {d : DataW Unit} {r : List (String × DataW Unit)} {w : World} (h : laidMet P ((n, d) :: r) w) : laidMet P [(n, d)] w ∧ laidMet P r w := by
  obtain ⟨ps, ⟨g, t, cs, fuel, p, q, h1, h2, h3, h4, h5, rfl⟩, hnd, hc⟩ := h
  have hs := List.nodup_append.1 hnd
  refine ⟨⟨MemPlace.row ⟨g, 0, none⟩ cs.size ++ p ++ [], ⟨g, t, cs, fuel, p, [], h1, h2, h3, h4, rfl, rfl⟩, by rw [List.append_nil]; exact hs.1, fun b off hm => hc b off (List.mem_append.2 (.inl (by rwa [List.append_nil] at hm)))⟩, ⟨q, h5, hs.2.1, fun b off hm => hc b off (List.mem_append.2 (.inr hm))⟩⟩
theorem vars2_form {H : Type} {enc : TypeId × Value → H} {P : Program} {w : World} {sp : Nat → Bool} {n m : String} {gs : List (DataW H)} {ps : List MemPlace} (h : DataW.TrodVars enc P w sp [n, m] gs ps) : ∃ a b, gs = [a, b] := by
  match gs, h with
  | [], h => exact h.elim
  | a :: gs, ⟨_, _, _, _, _, _, _, _, _, _, h, _⟩ =>
    obtain ⟨b, rfl⟩ := vars1_form h
    exact ⟨a, b, rfl⟩
end Go.Proofs.YtifcdojaocndhaaDoor

/- What the row's list of one variable gives: the times of bits. -/
namespace Go.Proofs.YtifcdojaocndhaaDoor
open Go.ChangeShapes Go.WideShapes Go.ChangeAt Go.RowKit
set_option linter.unusedVariables false
set_option linter.unusedSimpArgs false

theorem gn_bitTimes : Tryd.prog.globalNamed "loop.example/g00644/impl.bitTimes" = some 3 := by kernel_rfl
theorem gt_bitTimes : (Tryd.prog.globals[3]?).map (·.type) = some 33 := by kernel_rfl
theorem tim_of {W : World} (h : laidMetH Tryd.prog [("loop.example/g00644/impl.bitTimes", Rows.laid_loop_example_g00644_impl_bitTimes)] W) : Tim W := by
  rw [MakeChecks.laidMetH_plain _ _ _ (by kernel_rfl)] at h
  obtain ⟨ps, ⟨g0, t0, cs0, f0, p0, q0, hg0, ht0, hv0, hd0, _⟩, _⟩ := h
  obtain rfl := Option.some.inj (gn_bitTimes.symm.trans hg0)
  obtain rfl := Option.some.inj (gt_bitTimes.symm.trans ht0)
  obtain ⟨xs, m1, hx0, hx1, hlen, hn, hel⟩ := DataW.trod_array Tryd.underlying33 hd0
  have c1 : Tryd.prog.cellsOf 3 = 1 := by kernel_rfl
  have hd : xs.map (·.1) = [(.lit (.int .i64 20) : DataW Unit), .lit (.int .i64 40)] := by
    have := congrArg Prod.fst hx1
    simp only [Rows.laid_loop_example_g00644_impl_bitTimes, DataW.agg.injEq] at this
    exact this.symm
  have key : ∀ i (hi : i < 2) (z : Int), (xs.map (·.1))[i]? = some (DataW.lit (.int .i64 z) : DataW Unit) → W.cell? ⟨3, i, none⟩ = some (.int .i64 z) := by
    intro i hi z hz
    have h0 := hel i hi
    rw [c1, Nat.mul_one] at h0
    have hxi : xs[i]? = some xs[i] := List.getElem?_eq_getElem (by omega)
    rw [hxi] at h0
    obtain ⟨n, e1, e2, _⟩ := DataW.trod_int Tryd.underlying3 h0
    have hcs : cs0[i]? = some (.int .i64 n) := by
      have := congrArg (·[0]?) e1
      simpa [List.getElem?_take, List.getElem?_drop] using this
    rw [World.var?_cell hg0 hv0 i, hcs]
    rw [List.getElem?_map, hxi, e2] at hz
    simp at hz
    rw [hz]
  have hTim : Tim W := ⟨key 0 (by omega) _ (by rw [hd]; rfl), key 1 (by omega) _ (by rw [hd]; rfl)⟩
  exact hTim
end Go.Proofs.YtifcdojaocndhaaDoor

/- What the exact laws' helpers over blocks answer. -/
namespace Go.Proofs.YtifcdojaocndhaaDoor
open Go.ChangeShapes Go.WideShapes Go.ChangeAt Go.RowKit
set_option linter.unusedVariables false
set_option linter.unusedSimpArgs false

def szB (s : ByteArray) (l : Int) : Int := if l - (s.size : Int) < 0 then -1 else l - (s.size : Int)
theorem szbk (f : Int) (s : ByteArray) (l : Int) (w : World) (hs : s.size ≤ maxLen) (h0 : 0 ≤ l) (h1 : l ≤ 1048576) :
    Calls Tryd.prog 27 #[bkV f s, .int .i64 l] w fun e w' => e = .returned (.int .i64 (szB s l)) ∧ Below w.heap.size w w' := by
  unfold maxLen at hs
  unfold szB
  obtain ⟨q, hq⟩ : ∃ q : Int, l - (s.size : Int) = q := ⟨_, rfl⟩
  rw [hq]
  have hq1 : -9223372036854775808 ≤ q := by omega
  have hq2 : q ≤ 1048576 := by omega
  by_cases h : q < 0
  · rw [if_pos h]
    go_enter Tryd.func27, Tryd.ntmps27
    go_wp2
    go_ret
    exact ⟨rfl, (Below.refl _ _).alloc (Nat.le_refl _) _⟩
  · rw [if_neg h]
    go_enter Tryd.func27, Tryd.ntmps27
    go_wp2
    go_ret
    exact ⟨rfl, (Below.refl _ _).alloc (Nat.le_refl _) _⟩
theorem tobk (f : Int) (s : ByteArray) (w : World) :
    Calls Tryd.prog 29 #[bkV f s] w fun e w' => e = .returned (bkV f s) ∧ Below w.heap.size w w' := by
  go_enter Tryd.func29, Tryd.ntmps29
  go_wp2
  exact bodyPost_ret (v := bkV f s) (by simp [results, Tryd.results29, go_sem]) rfl ⟨rfl, by repeat (first | exact Below.refl _ _ | refine Below.drew ?_ | refine Below.alloc ?_ (by first | omega | (simp; omega) | simp) _ | refine Below.setCell ?_ (by first | omega | (simp; omega) | simp) _)⟩
theorem eqbk (f : Int) (s : ByteArray) (w : World) :
    Calls Tryd.prog 41 #[bkV f s, bkV f s] w fun e w' => e = .returned (.bool true) ∧ Below w.heap.size w w' := by
  go_enter Tryd.func41, Tryd.ntmps41
  go_wp2
  go_ret
  exact ⟨rfl, ((Below.refl _ _).alloc (Nat.le_refl _) _).alloc (by simp) _⟩
end Go.Proofs.YtifcdojaocndhaaDoor

/- Lists of blocks: how they come in, and what the exact laws' helpers over them answer. -/
namespace Go.Proofs.YtifcdojaocndhaaDoor
open Go.ChangeShapes Go.WideShapes Go.ChangeAt Go.RowKit Go.Joins Go.Deep
set_option linter.unusedVariables false
set_option linter.unusedSimpArgs false

section
variable {H : Type} {enc : TypeId × Value → H} {P : Program} {w : World} {base : Nat} {held : Bool}
theorem addr_noneZ {w : World} {a : Addr} {v : Value} (h : w.cell? (a.add 0) = some v) : a = ⟨a.block, a.off, none⟩ := by
  obtain ⟨b, off, spot⟩ := a
  have hspot : spot = none := by simpa [Addr.add] using World.cell?_spot h
  subst hspot
  rfl
theorem add_plainZ (b off j : Nat) : (⟨b, off, none⟩ : Addr).add j = ⟨b, off + j, none⟩ := by unfold Addr.add; split <;> simp_all
/-- a slice of blocks that comes in reads as numbers and texts -/
theorem blocks_in {t e : TypeId} {f0 f1 : Field} {fuel : Nat} {v : Value} {x : DataW H × List MemPlace} (ht : P.underlying t = some (.slice e)) (he : P.underlying e = some (.struct #[f0, f1])) (hone : oneCellFields P #[f0, f1] = true) (ce : P.cellsOf e = 2)
    (i0 : P.underlying f0.type = some (.int .i64)) (i1 : P.underlying f1.type = some .string)
    (h : DataW.trod enc P w base (fun _ => true) held fuel t [v] = some x) : ∃ a cap l, v = .slice a l.length cap ∧ BkR w a l ∧ l.length ≤ maxLen ∧ ∀ y ∈ l, y.2.size ≤ maxLen := by
  rcases DataW.trod_slice ht h with ⟨hcs, _⟩ | ⟨a, len, cap, elems, rest, n, _, hcs, _, hb, hl, hm, hel, hE, _, _⟩
  · obtain rfl : v = .slice none 0 0 := by simpa using hcs
    exact ⟨none, 0, [], rfl, .inl rfl, Nat.zero_le _, fun y hy => by cases hy⟩
  · obtain rfl : v = .slice (some a) len cap := by simpa using hcs
    have each : ∀ i, i < len → ∃ y : Int × ByteArray, w.cell? (a.add (i * 2)) = some (.int .i64 y.1) ∧ w.cell? ((a.add (i * 2)).add 1) = some (.string y.2) ∧ y.2.size ≤ maxLen := by
      intro i hi
      have h1 := hE i hi
      rw [ce] at h1
      obtain ⟨z, hz⟩ : ∃ z, elems[i]? = some z := ⟨_, List.getElem?_eq_getElem (by omega)⟩
      rw [hz] at h1
      obtain ⟨cs, hc, ht2⟩ := Option.bind_eq_some_iff.1 h1
      obtain ⟨_, hlen, hcell⟩ := World.cells?_some hc
      obtain ⟨c0, c1, rfl⟩ : ∃ c0 c1, cs = [c0, c1] := by
        match cs, hlen with
        | [c0, c1], _ => exact ⟨c0, c1, rfl⟩
      obtain ⟨y0, y1, m, _, _, h0, h2⟩ := trod_struct2 he ht2
      obtain ⟨o0, k0⟩ := hone_of hone 0 f0 rfl
      obtain ⟨o1, k1⟩ := hone_of hone 1 f1 rfl
      rw [o0, k0] at h0
      rw [o1, k1] at h2
      obtain ⟨f, e0, _, _⟩ := DataW.trod_int i0 h0
      obtain ⟨s, e1, _, hs⟩ := DataW.trod_string i1 h2
      have g0 := hcell 0 (by omega)
      have g1 := hcell 1 (by omega)
      simp at e0 e1
      subst e0 e1
      refine ⟨(f, s), ?_, ?_, hs⟩
      · have : (a.add (i * 2)).add 0 = a.add (i * 2) := by unfold Addr.add; split <;> simp_all
        rw [← this]
        simpa using g0
      · simpa using g1
    obtain ⟨y, hy⟩ := choose_lt each
    have hgl : ((List.range len).map y).length = len := by simp
    have hg : ∀ i, i < len → ((List.range len).map y).getD i bkz = y i := fun i hi => by simp [List.getD_eq_getElem?_getD, List.getElem?_range hi]
    refine ⟨some a, cap, (List.range len).map y, by rw [hgl], ?_, by rw [hgl]; omega, ?_⟩
    · by_cases h0 : len = 0
      · left
        rw [h0]
        rfl
      · right
        have ha : a = ⟨a.block, a.off, none⟩ := by
          have := (hy 0 (by omega)).1
          rw [Nat.zero_mul] at this
          exact addr_noneZ this
        refine ⟨a.block, a.off, by rw [← ha], fun k hk => ?_⟩
        rw [hgl] at hk
        obtain ⟨p1, p2, _⟩ := hy k hk
        rw [ha, add_plainZ] at p1 p2
        rw [add_plainZ] at p2
        rw [hg k hk]
        exact ⟨p1, p2⟩
    · intro z hz
      obtain ⟨i, hi, rfl⟩ := List.mem_map.1 hz
      exact (hy i (List.mem_range.1 hi)).2.2
end
/-- a row of blocks of a block's own -/
structure BkO (W : World) (g : Nat) (l : List (Int × ByteArray)) : Prop where
  cell : ∀ k, k < l.length → W.cell? ⟨g, k * 2, none⟩ = some (.int .i64 (l.getD k bkz).1) ∧ W.cell? ⟨g, k * 2 + 1, none⟩ = some (.string (l.getD k bkz).2)
  fro : ∀ i, W.frozen? ⟨g, i, none⟩ = false
  lt : g < W.heap.size
theorem BkO.read {W : World} {g : Nat} {l : List (Int × ByteArray)} (h : BkO W g l) : BkR W (some ⟨g, 0, none⟩) l := .inr ⟨g, 0, rfl, fun k hk => by simpa using h.cell k hk⟩
theorem BkO.below {W W' : World} {g : Nat} {l : List (Int × ByteArray)} (h : BkO W g l) (hb : Below W.heap.size W W') : BkO W' g l :=
  ⟨fun k hk => ⟨cell_keptU hb (h.cell k hk).1, cell_keptU hb (h.cell k hk).2⟩, fun i => by rw [hb.frozen (p := ⟨g, i, none⟩) h.lt]; exact h.fro i, Nat.lt_of_lt_of_le h.lt hb.size⟩
theorem BkO.set {W : World} {g : Nat} {l : List (Int × ByteArray)} (h : BkO W g l) (k : Nat) (hk : k < l.length) (f : Int) (s : ByteArray) : BkO ((W.setCell ⟨g, k * 2, none⟩ (.int .i64 f)).setCell ⟨g, k * 2 + 1, none⟩ (.string s)) g (l.set k (f, s)) := by
  have o : ∀ (X : World) (i j : Nat) (u : Value), i ≠ j → (X.setCell ⟨g, j, none⟩ u).cell? ⟨g, i, none⟩ = X.cell? ⟨g, i, none⟩ := fun X i j u hne => World.cell?_setCell_other _ _ _ _ (by intro e; injection e with _ e2 _; exact hne e2.symm)
  have m : ∀ (X : World) (i : Nat) (u v : Value), X.cell? ⟨g, i, none⟩ = some v → (X.setCell ⟨g, i, none⟩ u).cell? ⟨g, i, none⟩ = some u := fun X i u v hv => World.cell?_setCell_same' _ _ _ (by rw [hv]; rfl)
  refine ⟨fun j hj => ?_, fun i => by rw [World.frozen?_setCell, World.frozen?_setCell]; exact h.fro i, by have := h.lt; simpa [World.setCell] using this⟩
  rw [List.length_set] at hj
  obtain ⟨c1, c2⟩ := h.cell j hj
  by_cases e : j = k
  · subst e
    have hg : (l.set j (f, s)).getD j bkz = (f, s) := by rw [List.getD_eq_getElem?_getD, List.getElem?_set_self hj]; rfl
    rw [hg]
    refine ⟨?_, m _ _ _ (.string (l.getD j bkz).2) (by rw [o _ _ _ _ (by omega)]; exact c2)⟩
    rw [o _ _ _ _ (by omega)]
    exact m _ _ _ _ c1
  · have hg : (l.set k (f, s)).getD j bkz = l.getD j bkz := by rw [List.getD_eq_getElem?_getD, List.getElem?_set_ne (fun e2 => e e2.symm), ← List.getD_eq_getElem?_getD]
    rw [hg, o _ _ _ _ (by omega), o _ _ _ _ (by omega), o _ _ _ _ (by omega), o _ _ _ _ (by omega)]
    exact ⟨c1, c2⟩
theorem BkO.made (w : World) (n : Nat) (t : TypeId) : BkO (w.alloc (.cells (madeCells #[.int .i64 0, .string ⟨#[]⟩] (n * 2)) t)) w.heap.size (List.replicate n bkz) := by
  have q := Blk.new w (madeCells #[.int .i64 0, .string ⟨#[]⟩] (n * 2)) t
  have c : ∀ i, (w.alloc (.cells (madeCells #[.int .i64 0, .string ⟨#[]⟩] (n * 2)) t)).cell? ⟨w.heap.size, i, none⟩ = (madeCells #[.int .i64 0, .string ⟨#[]⟩] (n * 2))[i]? := fun i => q.cell i
  refine ⟨fun k hk => ?_, fun i => q.frozen i, q.lt⟩
  rw [List.length_replicate] at hk
  have hg : (List.replicate n bkz).getD k bkz = bkz := by rw [List.getD_eq_getElem?_getD, List.getElem?_replicate, if_pos hk]; rfl
  rw [hg, c, c]
  have h0 : k * 2 % 2 = 0 := by omega
  have h1 : (k * 2 + 1) % 2 = 1 := by omega
  have h2 : k * 2 < n * 2 := by omega
  have h3 : k * 2 + 1 < n * 2 := by omega
  constructor
  · simp [madeCells, h0, h2]
  · simp [madeCells, h1, h3]
def cpB (l : List (Int × ByteArray)) : Nat → List (Int × ByteArray)
  | 0 => List.replicate l.length bkz
  | k + 1 => (cpB l k).set k (l.getD k bkz)
theorem cpB_len (l : List (Int × ByteArray)) (k : Nat) : (cpB l k).length = l.length := by
  induction k with
  | zero => simp [cpB]
  | succ k ih => simp [cpB, ih]
theorem cpB_at (l : List (Int × ByteArray)) (k j : Nat) (hj : j < l.length) : (cpB l k).getD j bkz = if j < k then l.getD j bkz else bkz := by
  induction k with
  | zero => simp [cpB, List.getD_eq_getElem?_getD, List.getElem?_replicate, hj]
  | succ k ih =>
    show ((cpB l k).set k (l.getD k bkz)).getD j bkz = _
    by_cases e : j = k
    · subst e
      rw [List.getD_eq_getElem?_getD, List.getElem?_set_self (by rw [cpB_len]; exact hj), if_pos (by omega)]
      rfl
    · rw [List.getD_eq_getElem?_getD, List.getElem?_set_ne (fun e2 => e e2.symm), ← List.getD_eq_getElem?_getD, ih]
      by_cases h : j < k
      · rw [if_pos h, if_pos (by omega)]
      · rw [if_neg h, if_neg (by omega)]
theorem cpB_all (l : List (Int × ByteArray)) : cpB l l.length = l := by
  apply List.ext_getElem?
  intro j
  by_cases h : j < l.length
  · have h1 := cpB_at l l.length j h
    rw [if_pos h, List.getD_eq_getElem?_getD, List.getD_eq_getElem?_getD, List.getElem?_eq_getElem (by rw [cpB_len]; exact h), List.getElem?_eq_getElem h] at h1
    rw [List.getElem?_eq_getElem (by rw [cpB_len]; exact h), List.getElem?_eq_getElem h]
    exact congrArg some h1
  · rw [List.getElem?_eq_none (by rw [cpB_len]; omega), List.getElem?_eq_none (by omega)]
set_option maxRecDepth 100000 in
set_option maxHeartbeats 2000000 in
theorem szbks (a : Option Addr) (cap : Nat) (l : List (Int × ByteArray)) (w : World) (h : BkR w a l) (hl : l.length ≤ maxLen) (hs : ∀ x ∈ l, x.2.size ≤ maxLen) :
    Calls Tryd.prog 7 #[.slice a l.length cap, .int .i64 1048576] w fun e w' => ∃ z : Int, e = .returned (.int .i64 z) ∧ (0 ≤ z → l.length ≤ 1048576) ∧ Below w.heap.size w w' := by
  unfold maxLen at hl
  obtain ⟨q, hq⟩ : ∃ q : Int, 1048576 - (l.length : Int) = q := ⟨_, rfl⟩
  by_cases h1 : q < 0
  · have hqb : -9223372036854775808 ≤ q := by omega
    go_enter Tryd.func7, Tryd.ntmps7
    go_wp2
    go_ret
    exact ⟨-1, rfl, by omega, Below.refl _ _⟩
  have hll : Hid (l.length ≤ 1048576) := (by omega : l.length ≤ 1048576)
  have hq0 : 0 ≤ q := by omega
  have hq1 : q ≤ 1048576 := by omega
  have hsz : Hid (∀ k, k < l.length → (l.getD k bkz).2.size ≤ maxLen) := fun k hk => hs _ (getD_mem hk)
  clear hs
  replace h := hid h
  go_enter Tryd.func7, Tryd.ntmps7
  go_wp2
  clear hq
  go_loopw [1, 5] (fun p i wr => ∃ (k : Nat) (z : Int), k ≤ l.length ∧ i = .int .i64 k ∧ p = .int .i64 z ∧ 0 ≤ z ∧ z ≤ 1048576 ∧ Below w.heap.size w wr) (fun _ i _ => l.length - (intOf i).toNat)
  case atStart => exact ⟨0, q, by omega, rfl, rfl, hq0, hq1, Below.refl _ _⟩
  case round =>
    obtain ⟨k, z, hk, rfl, rfl, hz0, hz1, hW⟩ := hrel
    by_cases hlt : k < l.length
    · obtain ⟨g, o, rfl, x1, x2⟩ := (h.out.below hW).at hlt
      have hO := hid (fun W => szbk (l.getD k bkz).1 (l.getD k bkz).2 z W (hsz.out k hlt) hz0 hz1)
      have hZ : 0 ≤ szB (l.getD k bkz).2 z → szB (l.getD k bkz).2 z ≤ 1048576 := by unfold szB; split <;> omega
      generalize (l.getD k bkz).1 = F at *
      generalize (l.getD k bkz).2 = D at *
      generalize szB D z = y at *
      replace hW := hid hW
      go_wp2_with fail
      refine (hO.out _).mono ?_
      rintro e w2 ⟨rfl, hb2⟩
      have hW2 := hid (new_trans hW.out hb2)
      clear hb2 hW x1 x2
      by_cases hy : y < 0
      · go_wp2
        go_ret
        exact ⟨-1, rfl, by omega, hW2.out⟩
      · have hy1 := hZ (by omega)
        go_wp2
        go_roundw
        case rel => exact ⟨k + 1, y, by omega, by go_num, rfl, by omega, hy1, hW2.out⟩
        case measure => simp [intOf]; omega
    · obtain rfl : k = l.length := by omega
      replace hW := hid hW
      go_wp2
      go_ret
      exact ⟨z, rfl, fun _ => hll.out, hW.out⟩
theorem infoBkZ : (Tryd.prog.info? 75).map (fun i => (i.zero, i.size, i.bytes)) = some (some (.agg #[.int .i64 0, .string ⟨#[]⟩]), 2, 24) := by kernel_rfl
set_option maxRecDepth 100000 in
set_option maxHeartbeats 2000000 in
theorem tobks (a : Option Addr) (cap : Nat) (l : List (Int × ByteArray)) (w : World) (h : BkR w a l) (hl : l.length ≤ 1048576) :
    Calls Tryd.prog 9 #[.slice a l.length cap] w fun e w' => e = .returned (.slice (some ⟨w.heap.size, 0, none⟩) l.length l.length) ∧ BkO w' w.heap.size l ∧ Below w.heap.size w w' := by
  obtain ⟨i0, hi0, hz0, hz1, hz2⟩ := info_parts infoBkZ
  obtain ⟨MC, hMC⟩ : ∃ MC, madeCells (Value.agg #[.int .i64 0, .string ⟨#[]⟩]).cells (((l.length : Nat) : Int).toNat * i0.size) = MC := ⟨_, rfl⟩
  have hmk : ∀ W : World, (Instr.makeSlice 44 (.int .i64 (l.length : Int)) (.int .i64 (l.length : Int))).run Tryd.prog W = .ok (.slice (some ⟨W.heap.size, 0, none⟩) l.length l.length) (W.alloc (.cells MC 75)) := fun W => by
    have h := run_make (P := Tryd.prog) W 44 75 i0 (.agg #[.int .i64 0, .string ⟨#[]⟩]) Tryd.underlying44 hi0 hz0 .i64 .i64 (l.length : Int) (l.length : Int) (by omega) (by omega) (by rw [hz2]; omega) (by omega)
    rw [hMC] at h
    simpa using h
  have h0 : BkO (w.alloc (.cells MC 75)) w.heap.size (cpB l 0) := by
    rw [← hMC, hz1, Int.toNat_natCast]
    exact BkO.made w l.length _
  clear hMC
  replace h0 := hid h0
  have hall := hid (cpB_all l)
  replace h := hid h
  go_enter Tryd.func9, Tryd.ntmps9
  go_wp2
  clear hmk
  go_loopw [4] (fun i wr => ∃ k : Nat, k ≤ l.length ∧ i = .int .i64 k ∧ BkO wr w.heap.size (cpB l k) ∧ Below w.heap.size w wr) (fun i _ => l.length - (intOf i).toNat)
  case atStart => exact ⟨0, by omega, rfl, h0.out, (Below.refl _ _).alloc (Nat.le_refl _) _⟩
  case round =>
    obtain ⟨k, hk, rfl, hM, hW⟩ := hrel
    by_cases hlt : k < l.length
    · obtain ⟨g, o, rfl, x1, x2⟩ := (h.out.below hW).at hlt
      have hE : Hid (cpB l (k + 1) = (cpB l k).set k ((l.getD k bkz).1, (l.getD k bkz).2)) := rfl
      have hlen : k < (cpB l k).length := by rw [cpB_len]; exact hlt
      replace hlen := hid hlen
      have hO := hid (fun W => tobk (l.getD k bkz).1 (l.getD k bkz).2 W)
      generalize (l.getD k bkz).1 = F at *
      generalize (l.getD k bkz).2 = D at *
      generalize cpB l k = L0 at *
      replace hW := hid hW
      replace hM := hid hM
      go_wp2_with fail
      refine (hO.out _).mono ?_
      rintro e w2 ⟨rfl, hb2⟩
      have hW2 := hid (new_trans hW.out hb2)
      have hM2 := hM.out.below hb2
      obtain ⟨y1, y2⟩ := hM2.cell k hlen.out
      have yf := hM2.fro
      have yl := hM2.lt
      have hM3 := hid (hM2.set k hlen.out F D)
      have hW3 := hid ((hW2.out.setCell (p := ⟨w.heap.size, k * 2, none⟩) (Nat.le_refl _) (.int .i64 F)).setCell (p := ⟨w.heap.size, k * 2 + 1, none⟩) (Nat.le_refl _) (.string D))
      clear hb2 hW x1 x2 hM hM2 hW2
      generalize (L0.getD k bkz).1 = u1 at *
      generalize (L0.getD k bkz).2 = u2 at *
      go_wp2
      go_roundw
      case rel => exact ⟨k + 1, by omega, by go_num, by rw [hE.out]; exact hM3.out, hW3.out⟩
      case measure => simp [intOf]; omega
    · obtain rfl : k = l.length := by omega
      rw [hall.out] at hM
      replace hW := hid hW
      replace hM := hid hM
      go_wp2
      go_ret
      exact ⟨rfl, hM.out, hW.out⟩
set_option maxRecDepth 100000 in
set_option maxHeartbeats 2000000 in
theorem eqbks (a b : Option Addr) (cap cbp : Nat) (l : List (Int × ByteArray)) (w : World) (h : BkR w a l) (h' : BkR w b l) (hl : l.length ≤ 1048576) :
    Calls Tryd.prog 12 #[.slice a l.length cap, .slice b l.length cbp] w fun e w' => e = .returned (.bool true) ∧ Below w.heap.size w w' := by
  replace h := hid h
  replace h' := hid h'
  go_enter Tryd.func12, Tryd.ntmps12
  go_wp2
  go_loopw [5] (fun i wr => ∃ k : Nat, k ≤ l.length ∧ i = .int .i64 k ∧ Below w.heap.size w wr) (fun i _ => l.length - (intOf i).toNat)
  case atStart => exact ⟨0, by omega, rfl, Below.refl _ _⟩
  case round =>
    obtain ⟨k, hk, rfl, hW⟩ := hrel
    by_cases hlt : k < l.length
    · obtain ⟨g, o, rfl, x1, x2⟩ := (h.out.below hW).at hlt
      obtain ⟨g', o', rfl, y1, y2⟩ := (h'.out.below hW).at hlt
      have hO := hid (fun W => eqbk (l.getD k bkz).1 (l.getD k bkz).2 W)
      generalize (l.getD k bkz).1 = F at *
      generalize (l.getD k bkz).2 = D at *
      replace hW := hid hW
      go_upto_region 6 with fail
      go_cut [26] (fun z wx => z = .bool false ∧ Below w.heap.size w wx)
      case first =>
        go_region_with (go_at_call 41; refine (hO.out _).mono ?_; rintro e w2 ⟨rfl, hb2⟩; have hW2 := hid (new_trans hW.out.drew hb2); clear hb2)
        all_goals
          go_wp2_with fail
          go_meet
          exact ⟨rfl, hW2.out⟩
      case rest =>
        obtain ⟨rfl, hW2⟩ := hcut
        replace hW2 := hid hW2
        go_wp2
        go_roundw
        case rel => exact ⟨k + 1, by omega, by go_num, hW2.out⟩
        case measure => simp [intOf]; omega
    · obtain rfl : k = l.length := by omega
      replace hW := hid hW
      go_wp2
      go_ret
      exact ⟨rfl, hW.out⟩
end Go.Proofs.YtifcdojaocndhaaDoor
