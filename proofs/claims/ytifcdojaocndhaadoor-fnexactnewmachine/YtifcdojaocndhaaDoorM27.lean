/- A deck runs: the specification. -/
import Derived.Test.YtifcdojaocndhaaDoorM21
import Derived.Test.YtifcdojaocndhaaDoorM20
import Derived.Test.YtifcdojaocndhaaDoorMbm
import Derived.Lib.SmallJoins
import Derived.Test.YtifcdojaocndhaaDoorM00
namespace Go.Proofs.YtifcdojaocndhaaDoor
open Go.ChangeShapes Go.WideShapes Go.ChangeAt Go.RowKit
set_option linter.unusedVariables false
set_option linter.unusedSimpArgs false

theorem runD_part {P : List Int} {ix lf : Int} {lv : Bool} {t e : Int} (h : (Dk.mk P ix lf lv true).ok = true) (ht : 0 < t) (hl : t < lf) :
    runD (P.length + 1) ⟨P, ix, lf, lv, true⟩ t e = runD (P.length + 1) ⟨P, ix, lf - t, lv, true⟩ 0 e ∧ (Dk.mk P ix (lf - t) lv true).ok = true := by
  have e1 : runD (P.length + 1) ⟨P, ix, lf, lv, true⟩ t e = (⟨P, ix, lf - t, lv, true⟩, e) := by
    unfold runD
    rw [if_pos ⟨rfl, ht⟩, if_pos hl]
  have e2 : runD (P.length + 1) ⟨P, ix, lf - t, lv, true⟩ 0 e = (⟨P, ix, lf - t, lv, true⟩, e) := by
    unfold runD
    rw [if_neg (fun h => by have := h.2; omega)]
  refine ⟨e1.trans e2.symm, ?_⟩
  have := (runD_ok (P.length + 1) ⟨P, ix, lf, lv, true⟩ t e h).1
  rw [e1] at this
  exact this
theorem runD_edge {P : List Int} {ix lf : Int} {lv : Bool} {t e : Int} (h : (Dk.mk P ix lf lv true).ok = true) (ht : 0 < t) (hl : ¬ t < lf) :
    runD (P.length + 1) ⟨P, ix, lf, lv, true⟩ t e = runD (P.length + 1) (Dk.mk P ix lf lv true).edge (t - lf) (e + 1) := by
  obtain ⟨k1, k2, k3, k4, k5⟩ := Dk.edge_ok h rfl
  have hix := ((Dk.ok_iff _).1 h).2.1
  have e1 : runD (P.length + 1) ⟨P, ix, lf, lv, true⟩ t e = runD P.length (Dk.mk P ix lf lv true).edge (t - lf) (e + 1) := by
    show (if true = true ∧ 0 < t then _ else _) = _
    rw [if_pos ⟨rfl, ht⟩, if_neg hl]
  rw [e1]
  refine runD_more _ _ _ _ _ k1 ?_ ?_
  · show (P.length : Int) - (ix + 1) < (P.length : Int)
    have : 0 ≤ ix := hix.1
    omega
  · show (P.length : Int) - (ix + 1) < ((P.length + 1 : Nat) : Int)
    have : 0 ≤ ix := hix.1
    omega
theorem runD_stop {P : List Int} {ix lf : Int} {lv pl : Bool} {t e : Int} (h : ¬ (pl = true ∧ 0 < t)) : runD (P.length + 1) ⟨P, ix, lf, lv, pl⟩ t e = (⟨P, ix, lf, lv, pl⟩, e) := by
  unfold runD
  rw [if_neg h]
theorem ok_lens {P : List Int} {ix lf : Int} {lv pl : Bool} (h : (Dk.mk P ix lf lv pl).ok = true) : P.length ≤ 5000 ∧ 0 ≤ ix ∧ ix ≤ (P.length : Int) ∧ 0 ≤ lf ∧ lf ≤ 1000 ∧ (pl = true → ix < (P.length : Int) ∧ 1 ≤ lf) := by
  obtain ⟨h1, h2, h3⟩ := (Dk.ok_iff _).1 h
  have hn := ((okPl_iff _).1 h1).2
  refine ⟨hn, h2.1, h2.2, ?_⟩
  rcases h3 with ⟨k1, k2, k3⟩ | ⟨k1, k2, k3⟩
  · have k2' : lf = 0 := k2
    exact ⟨by omega, by omega, fun e => by rw [show pl = false from k3] at e; cases e⟩
  · have hlt : ix < (P.length : Int) := by
      have : ix ≤ (P.length : Int) := h2.2
      have : ¬ ix = (P.length : Int) := k1
      omega
    have hb := Dk.pulse_bd h1 h2.1 hlt
    have k2' : 1 ≤ lf := k2
    have : lf ≤ (Dk.mk P ix lf lv pl).pulse ix := k3
    have hb2 : (Dk.mk P ix lf lv pl).pulse ix ≤ 1000 := hb.2
    exact ⟨by omega, by omega, fun _ => ⟨hlt, k2'⟩⟩
end Go.Proofs.YtifcdojaocndhaaDoor

/- Rows of ints in an exact law: a row that comes in, an answer that is marked and held. -/
namespace Go.Proofs.YtifcdojaocndhaaDoor
open Go.ChangeShapes Go.WideShapes Go.ChangeAt Go.RowKit Go.Joins
set_option linter.unusedVariables false
set_option linter.unusedSimpArgs false

section
variable {H : Type} {enc : TypeId × Value → H} {P : Program} {w : World} {base : Nat} {spare : Nat → Bool} {held : Bool}
theorem addr_noneV {w : World} {a : Addr} {v : Value} (h : w.cell? (a.add 0) = some v) : a = ⟨a.block, a.off, none⟩ := by
  obtain ⟨b, off, spot⟩ := a
  have hspot : spot = none := by simpa [Addr.add] using World.cell?_spot h
  subst hspot
  rfl
theorem add_plainV (b off j : Nat) : (⟨b, off, none⟩ : Addr).add j = ⟨b, off + j, none⟩ := by unfold Addr.add; split <;> simp_all
theorem take_getDV (zs : List Int) (n i : Nat) (h : i < n) : (zs.take n).getD i 0 = zs.getD i 0 := by
  rw [List.getD_eq_getElem?_getD, List.getD_eq_getElem?_getD, List.getElem?_take, if_pos h]
/-- a slice of ints that comes in reads as numbers -/
theorem row_inV {t e : TypeId} {fuel : Nat} {v : Value} {x : DataW H × List MemPlace} (ht : P.underlying t = some (.slice e)) (he : P.underlying e = some (.int .i64)) (ce : P.cellsOf e = 1)
    (h : DataW.trod enc P w base (fun _ => true) held fuel t [v] = some x) : ∃ a cap zs, v = .slice a (List.length zs) cap ∧ RowR w v zs ∧ zs.length ≤ maxLen ∧ ∀ z ∈ zs, (Lit.int .i64 z).wf = true := by
  rcases open_ints ht he ce h with ⟨hcs, _⟩ | ⟨a, len, cap, zs, hcs, _, hl, hm, hz, _, hcell, hwz⟩
  · obtain rfl : v = .slice none 0 0 := by simpa using hcs
    exact ⟨none, 0, [], rfl, RowR.nil w, Nat.zero_le _, fun z hz => by cases hz⟩
  · obtain rfl : v = .slice (some a) len cap := by simpa using hcs
    simp only [if_true] at hz
    have hlen : (zs.take len).length = len := by rw [List.length_take]; omega
    refine ⟨some a, cap, zs.take len, by rw [hlen], ⟨some a, cap, by rw [hlen], ?_⟩, by rw [hlen]; omega, fun z hz => hwz z (List.mem_of_mem_take hz)⟩
    by_cases h0 : len = 0
    · left
      rw [h0]
      rfl
    · right
      have h1 := hcell 0 (by omega)
      have ha := addr_noneV h1
      refine ⟨a.block, a.off, by rw [← ha], fun i hi => ?_⟩
      rw [hlen] at hi
      have h2 := hcell i (by omega)
      rw [ha, add_plainV] at h2
      rw [h2, take_getDV _ _ _ hi]
end
/-- a row of its own, from block base on -/
def OwnI (base : Nat) (W : World) (v : Value) (zs : List Int) : Prop := (zs = [] ∧ ∃ a cap, v = .slice a 0 cap) ∨ ∃ g, base ≤ g ∧ RowO W g v zs
theorem OwnI.of {w W : World} {v : Value} {l : List Int} (h : Grow w W v l) : OwnI w.heap.size W v l := by
  by_cases h0 : 0 < l.length
  · obtain ⟨g, hg, hR⟩ := RowO.of_owns h.own h0
    exact .inr ⟨g, hg, hR⟩
  · have : l = [] := List.length_eq_zero_iff.1 (by omega)
    subst this
    obtain ⟨oa, cap, e⟩ := h.form
    exact .inl ⟨rfl, oa, cap, e⟩
theorem OwnI.read {base : Nat} {W : World} {v : Value} {zs : List Int} (h : OwnI base W v zs) : RowR W v zs := by
  rcases h with ⟨rfl, a, cap, rfl⟩ | ⟨g, _, h⟩
  · exact ⟨a, cap, rfl, .inl rfl⟩
  · exact h.reads
theorem OwnI.below {base : Nat} {W W' : World} {v : Value} {zs : List Int} (h : OwnI base W v zs) (hb : Below W.heap.size W W') : OwnI base W' v zs := by
  rcases h with h | ⟨g, hg, h⟩
  · exact .inl h
  · exact .inr ⟨g, hg, h.kept (hb.block g h.lt)⟩
theorem OwnI.form {base : Nat} {W : World} {v : Value} {zs : List Int} (h : OwnI base W v zs) : ∃ a cap, v = .slice a zs.length cap := by
  obtain ⟨a, cap, e, _⟩ := h.read
  exact ⟨a, cap, e⟩
theorem RowR.formV {W : World} {v : Value} {zs : List Int} (h : RowR W v zs) : ∃ a cap, v = .slice a zs.length cap := by
  obtain ⟨a, cap, e, _⟩ := h
  exact ⟨a, cap, e⟩
theorem mark0V (a : Option Addr) (cap : Nat) (w : World) : Calls Tryd.prog 88 #[.slice a 0 cap, .int .i64 1] w fun e w' => e = .returned (.int .i64 1) ∧ w' = w := by
  go_enter Tryd.func88, Tryd.ntmps88
  go_wp2
  go_loop [1, 5] (fun q i => q = .int .i64 1 ∧ i = .int .i64 0) (fun _ _ => 0)
  case atStart => exact ⟨rfl, rfl⟩
  case round =>
    obtain ⟨rfl, rfl⟩ := hrel
    go_wp2
    go_ret
    exact ⟨rfl, rfl⟩
theorem markV (v : Value) (base : Nat) (zs : List Int) (w : World) (h : OwnI base w v zs) (hl : zs.length ≤ 100000) (hb : base ≤ w.heap.size) :
    Calls Tryd.prog 88 #[v, .int .i64 1] w fun e w' => e = .returned (.int .i64 (1 + (zs.length : Int))) ∧ OwnI base w' v (markL 1 zs.length) ∧ Below base w w' := by
  rcases h with ⟨rfl, a, cap, rfl⟩ | ⟨g, hg, h⟩
  · refine (mark0V a cap w).mono ?_
    rintro e w' ⟨rfl, rfl⟩
    exact ⟨rfl, .inl ⟨rfl, a, cap, rfl⟩, Below.refl _ _⟩
  · refine (markr v g 1 zs w h (by omega) (by omega) (by omega)).mono ?_
    rintro e w' ⟨rfl, hO, hG⟩
    refine ⟨rfl, .inr ⟨g, hg, hO⟩, ?_⟩
    exact (Below.refl _ _).grown hG (by omega) (fun g' e => by cases e; exact hg)
end Go.Proofs.YtifcdojaocndhaaDoor

/- Things that lie apart from one another in a world: each hangs on blocks of its own, so that what is written into one leaves the others as they are. -/
namespace Go.Proofs.YtifcdojaocndhaaDoor
open Go.ChangeShapes Go.WideShapes Go.ChangeAt Go.RowKit
set_option linter.unusedVariables false

/-- a thing: the blocks that it hangs on, and what is said of it -/
structure Thing where
  dom : Nat → Prop
  say : World → Prop
/-- the thing is as is said, whatever becomes of other blocks -/
structure Sits (W : World) (t : Thing) : Prop where
  now : t.say W
  lt : ∀ b, t.dom b → b < W.heap.size
  dep : ∀ W', (∀ b, t.dom b → W'.heap[b]? = W.heap[b]?) → t.say W'
theorem Sits.kept {W W' : World} {t : Thing} (h : Sits W t) (hs : W.heap.size ≤ W'.heap.size) (hk : ∀ b, t.dom b → W'.heap[b]? = W.heap[b]?) : Sits W' t :=
  ⟨h.dep W' hk, fun b hb => Nat.lt_of_lt_of_le (h.lt b hb) hs, fun W2 h2 => h.dep W2 (fun b hb => (h2 b hb).trans (hk b hb))⟩
theorem Sits.below {W W' : World} {t : Thing} (h : Sits W t) (hb : Below W.heap.size W W') : Sits W' t := h.kept hb.size (fun b hd => hb.block b (h.lt b hd))
/-- things that lie apart -/
structure Sts (W : World) (L : List Thing) : Prop where
  lies : ∀ t, t ∈ L → Sits W t
  apart : L.Pairwise (fun s t => ∀ b, s.dom b → ¬ t.dom b)
theorem Sts.nil (W : World) : Sts W [] := ⟨fun t h => (by cases h), List.Pairwise.nil⟩
theorem Sts.below {W W' : World} {L : List Thing} (h : Sts W L) (hb : Below W.heap.size W W') : Sts W' L := ⟨fun t ht => (h.lies t ht).below hb, h.apart⟩
theorem Sts.at {W : World} {L : List Thing} (h : Sts W L) (i : Nat) {t : Thing} (e : L[i]? = some t) : t.say W := (h.lies t (List.mem_of_getElem? e)).now
theorem Sts.has {W : World} {L : List Thing} (h : Sts W L) (i : Nat) {t : Thing} (e : L[i]? = some t) : Sits W t := h.lies t (List.mem_of_getElem? e)
/-- one more thing, in blocks that are new -/
theorem Sts.push {W W' : World} {L : List Thing} {t : Thing} (h : Sts W L) (hb : Below W.heap.size W W') (ht : Sits W' t) (hd : ∀ b, t.dom b → W.heap.size ≤ b) : Sts W' (t :: L) :=
  ⟨fun s hs => by
    rcases List.mem_cons.1 hs with rfl | hs
    · exact ht
    · exact (h.lies s hs).below hb, List.pairwise_cons.2 ⟨fun s hs b h1 h2 => by
      have := (h.lies s hs).lt b h2
      have := hd b h1
      omega, h.apart⟩⟩
/-- one more thing, apart from the others -/
theorem Sts.add {W : World} {L : List Thing} {t : Thing} (h : Sts W L) (ht : Sits W t) (hd : ∀ s, s ∈ L → ∀ b, t.dom b → ¬ s.dom b) : Sts W (t :: L) :=
  ⟨fun s hs => by
    rcases List.mem_cons.1 hs with rfl | hs
    · exact ht
    · exact h.lies s hs, List.pairwise_cons.2 ⟨hd, h.apart⟩⟩
/-- the i-th thing is written into: the others stay as they are -/
theorem Sts.turn {W W' : World} {L : List Thing} (h : Sts W L) (i : Nat) {t : Thing} {say' : World → Prop} (e : L[i]? = some t) (hs : W.heap.size ≤ W'.heap.size) (hk : ∀ b, b < W.heap.size → ¬ t.dom b → W'.heap[b]? = W.heap[b]?) (ht : Sits W' ⟨t.dom, say'⟩) : Sts W' (L.set i ⟨t.dom, say'⟩) := by
  have hi : i < L.length := by
    rcases Nat.lt_or_ge i L.length with h1 | h1
    · exact h1
    · rw [List.getElem?_eq_none h1] at e; cases e
  have hp := List.pairwise_iff_getElem.1 h.apart
  have ei : L[i] = t := by rw [List.getElem?_eq_getElem hi] at e; exact Option.some.inj e
  have dd : ∀ (j : Nat) (hj : j < L.length), ((L.set i ⟨t.dom, say'⟩)[j]'(by simpa using hj)).dom = L[j].dom := fun j hj => by
    by_cases e2 : i = j
    · subst e2
      rw [List.getElem_set_self, ei]
    · rw [List.getElem_set_ne e2]
  refine ⟨fun s hs' => ?_, List.pairwise_iff_getElem.2 (fun a b ha hb hab x => ?_)⟩
  · obtain ⟨j, hj, rfl⟩ := List.getElem_of_mem hs'
    rw [List.length_set] at hj
    by_cases e2 : i = j
    · subst e2
      rw [List.getElem_set_self]
      exact ht
    · rw [List.getElem_set_ne e2]
      have hl := h.lies L[j] (List.getElem_mem hj)
      refine hl.kept hs (fun b hb => hk b (hl.lt b hb) (fun htb => ?_))
      rcases Nat.lt_or_gt_of_ne e2 with h1 | h1
      · exact hp i j hi hj h1 b (by rw [ei]; exact htb) hb
      · exact hp j i hj hi h1 b hb (by rw [ei]; exact htb)
  · rw [List.length_set] at ha hb
    rw [dd a ha, dd b hb]
    exact hp a b ha hb hab x
/-- a box -/
abbrev tBox (b : Nat) (A : Array Value) : Thing := ⟨fun x => x = b, fun W => Blk W b A⟩
theorem sits_box {W : World} {b : Nat} {A : Array Value} (h : Blk W b A) : Sits W (tBox b A) :=
  ⟨h, fun x e => by cases e; exact h.lt, fun W' hk => by
    obtain ⟨t, h⟩ := h
    exact ⟨t, (hk b rfl).trans h⟩⟩
theorem Sts.box {W : World} {L : List Thing} (h : Sts W L) (A : Array Value) (t : TypeId) : Sts (W.alloc (.cells A t)) (tBox W.heap.size A :: L) :=
  h.push ((Below.refl _ _).alloc (Nat.le_refl _) _) (sits_box (Blk.new W A t)) (fun b e => by cases e; exact Nat.le_refl _)
/-- a memory in blocks of its own -/
abbrev tMem (lo hi : Nat) (v : Value) (M : Mem) : Thing := ⟨fun b => lo ≤ b ∧ b < hi, fun W => MemO W lo hi v M⟩
theorem sits_mem {W : World} {lo hi : Nat} {v : Value} {M : Mem} (h : MemO W lo hi v M) (hh : hi ≤ W.heap.size) : Sits W (tMem lo hi v M) :=
  ⟨h, fun b hb => Nat.lt_of_lt_of_le hb.2 hh, fun W' hk => h.kept (fun b h0 h1 => hk b ⟨h0, h1⟩)⟩
theorem Sts.mem {W W' : World} {L : List Thing} {v : Value} {M : Mem} (h : Sts W L) (hb : Below W.heap.size W W') (hm : MemO W' W.heap.size W'.heap.size v M) : Sts W' (tMem W.heap.size W'.heap.size v M :: L) :=
  h.push hb (sits_mem hm (Nat.le_refl _)) (fun b hb => hb.1)
theorem Sts.touch {W W' : World} {L : List Thing} (h : Sts W L) (i : Nat) {lo hi : Nat} {v : Value} {M M' : Mem} (e : L[i]? = some (tMem lo hi v M)) (ht : Touch lo hi W W') (hm : MemO W' lo hi v M') : Sts W' (L.set i (tMem lo hi v M')) := by
  have hl := h.has i e
  refine h.turn i e ht.size (fun b hb hn => ht.block b hb (by show b < lo ∨ hi ≤ b; have : ¬ (lo ≤ b ∧ b < hi) := hn; omega)) ⟨hm, fun b hb => ?_, fun W2 hk => hm.kept (fun b h0 h1 => hk b ⟨h0, h1⟩)⟩
  exact Nat.lt_of_lt_of_le (hl.lt b hb) ht.size
end Go.Proofs.YtifcdojaocndhaaDoor
