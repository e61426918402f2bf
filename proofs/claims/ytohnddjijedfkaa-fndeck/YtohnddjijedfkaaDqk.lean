/- A deck in a block of its own is copied, begun, rewound, played, stopped: the program. -/
import Derived.Test.YtohnddjijedfkaaDpk
namespace Go.Proofs.Ytohnddjijedfkaa
open Go.ChangeShapes Go.WideShapes Go.ChangeAt Go.RowKit
set_option linter.unusedVariables false
set_option linter.unusedSimpArgs false

theorem gtrans {a b c : World} {r : Option Nat} (h : a.grownBy b r) (k : b.grownBy c r) : a.grownBy c r :=
  ⟨k.os.trans h.os, k.tape.trans h.tape, k.output.trans h.output, Nat.le_trans h.size k.size, fun i hi hne => (k.block i (Nat.lt_of_lt_of_le hi h.size) hne).trans (h.block i hi hne)⟩
theorem gdrewN (W : World) (n : Nat) (r : Option Nat) : W.grownBy (W.drewN n) r := ⟨rfl, rfl, rfl, Nat.le_refl _, fun _ _ _ => rfl⟩
/-- the numbers of a slice do not lie in block b -/
def Apart (a : Option Addr) (n b : Nat) : Prop := 0 < n → ∀ g o, a = some ⟨g, o, none⟩ → g ≠ b
theorem RowR.apart {W W' : World} {a : Option Addr} {cap b : Nat} {P : List Int} (h : RowR W (.slice a P.length cap) P) (hg : W.grownBy W' (some b)) (hn : Apart a P.length b) : RowR W' (.slice a P.length cap) P := by
  refine ⟨a, cap, rfl, ?_⟩
  by_cases h0 : 0 < P.length
  · obtain ⟨g, off, rfl, hc⟩ := h.at h0
    refine .inr ⟨g, off, rfl, fun i hi => ?_⟩
    obtain ⟨g', off', e, hc⟩ := h.at hi
    cases e
    have hne := hn h0 g off rfl
    rw [hg.cell_far ⟨g, off + i, none⟩ (World.block_lt_of_cell? W _ hc) (fun e => hne (by simpa using e))]
    exact hc
  · exact .inl (List.length_eq_zero_iff.1 (by omega))
theorem Grow.apart {w W : World} {a : Option Addr} {cap : Nat} {P : List Int} (h : Grow w W (.slice a P.length cap) P) {b : Nat} (hb : (Value.slice a P.length cap).ownBlock ≠ some b) : Apart a P.length b := fun h0 g o e => by
  subst e
  obtain ⟨g', cap', e, _⟩ := h.own.form h0
  cases e
  exact fun e => hb (by rw [e]; rfl)
/-- the pulse at the index begins -/
def Dk.begin (d : Dk) : Dk := if d.index = d.len then ⟨d.pulses, d.index, 0, d.level, false⟩ else ⟨d.pulses, d.index, d.pulse d.index, d.level, d.plays⟩
set_option maxRecDepth 100000 in
set_option maxHeartbeats 1000000 in
theorem copied_none (b : Nat) (a : Option Addr) (cap : Nat) (ix lf : Int) (lv pl : Bool) (W : World) (h : Blk W b #[.slice a 0 cap, .int .i64 ix, .int .i64 lf, .bool lv, .bool pl]) :
    Calls Try.prog 27 #[.pointer (some ⟨b, 0, none⟩)] W fun e w' => ∃ v, e = .returned (.pointer (some ⟨W.heap.size, 0, none⟩)) ∧ Blk w' W.heap.size #[v, .int .i64 ix, .int .i64 lf, .bool lv, .bool pl] ∧ Grow W w' v [] ∧ v.ownBlock ≠ some W.heap.size := by
  obtain ⟨i0, hi0, hz0, hz1, hz2⟩ := info_parts infoIV
  have q1 := Blk.new W #[.slice a 0 cap, .int .i64 ix, .int .i64 lf, .bool lv, .bool pl] 25
  have hB := (Below.refl W.heap.size W).alloc (Nat.le_refl _) (.cells #[.slice a 0 cap, .int .i64 ix, .int .i64 lf, .bool lv, .bool pl] 25)
  have p1 := h.alloc (.cells #[.slice a 0 cap, .int .i64 ix, .int .i64 lf, .bool lv, .bool pl] 25)
  have x0 := h.cell
  clear h
  obtain ⟨g, hg⟩ : ∃ g, W.heap.size = g := ⟨_, rfl⟩
  have hgh : Hid (W.heap.size = g) := hg
  rw [hg] at q1 ⊢
  go_enter Try.func27, Try.ntmps27
  go_upto_region 2 with fail
  try rw [hg]
  obtain ⟨V, hV⟩ : ∃ V, W.alloc (.cells #[.slice a 0 cap, .int .i64 ix, .int .i64 lf, .bool lv, .bool pl] 25) = V := ⟨_, rfl⟩
  rw [hV] at q1 hB p1 ⊢
  clear hV x0 hg
  have x0 := p1.cell
  have xq := q1.cell
  have fq := q1.frozen
  have lq := q1.lt
  have q2 := hid (q1.set 0 (.slice none 0 0))
  have B2 : Hid (Below W.heap.size W (V.setCell ⟨g, 0, none⟩ (.slice none 0 0))) := hB.setCell (p := ⟨g, 0, none⟩) (by show W.heap.size ≤ g; have := hgh.out; omega) _
  clear q1 hB p1
  go_upto_region 3 with (at_builtin; refine wpList_append_zero _ rfl _ _ 23 rfl 3 i0 Try.underlying23 hi0 _ _ _ _ rfl rfl ?_)
  go_wp2
  go_ret
  exact ⟨_, rfl, q2.out, Grow.nilv B2.out, by simp [Value.ownBlock]⟩
set_option maxRecDepth 100000 in
set_option maxHeartbeats 1000000 in
theorem copied_some (b c off cap : Nat) (P : List Int) (ix lf : Int) (lv pl : Bool) (W : World) (h : Blk W b #[.slice (some ⟨c, off, none⟩) P.length cap, .int .i64 ix, .int .i64 lf, .bool lv, .bool pl]) (hr : RowR W (.slice (some ⟨c, off, none⟩) P.length cap) P) (h0 : 0 < P.length) (hl : P.length ≤ 1048576) :
    Calls Try.prog 27 #[.pointer (some ⟨b, 0, none⟩)] W fun e w' => ∃ v, e = .returned (.pointer (some ⟨W.heap.size, 0, none⟩)) ∧ Blk w' W.heap.size #[v, .int .i64 ix, .int .i64 lf, .bool lv, .bool pl] ∧ Grow W w' v P ∧ v.ownBlock ≠ some W.heap.size := by
  obtain ⟨i0, hi0, hz0, hz1, hz2⟩ := info_parts infoIV
  have q1 := Blk.new W #[.slice (some ⟨c, off, none⟩) P.length cap, .int .i64 ix, .int .i64 lf, .bool lv, .bool pl] 25
  have hB := (Below.refl W.heap.size W).alloc (Nat.le_refl _) (.cells #[.slice (some ⟨c, off, none⟩) P.length cap, .int .i64 ix, .int .i64 lf, .bool lv, .bool pl] 25)
  have p1 := h.alloc (.cells #[.slice (some ⟨c, off, none⟩) P.length cap, .int .i64 ix, .int .i64 lf, .bool lv, .bool pl] 25)
  have x0 := h.cell
  have hr1 := hr.below hB
  have hs1 : (W.alloc (.cells #[.slice (some ⟨c, off, none⟩) P.length cap, .int .i64 ix, .int .i64 lf, .bool lv, .bool pl] 25)).heap.size = W.heap.size + 1 := by simp
  clear h hr
  obtain ⟨g, hg⟩ : ∃ g, W.heap.size = g := ⟨_, rfl⟩
  have hgh : Hid (W.heap.size = g) := hg
  rw [hg] at q1 hs1 ⊢
  go_enter Try.func27, Try.ntmps27
  go_upto_region 2 with fail
  try rw [hg]
  obtain ⟨V, hV⟩ : ∃ V, W.alloc (.cells #[.slice (some ⟨c, off, none⟩) P.length cap, .int .i64 ix, .int .i64 lf, .bool lv, .bool pl] 25) = V := ⟨_, rfl⟩
  rw [hV] at q1 hB p1 hr1 hs1 ⊢
  clear hV x0 hg
  have x0 := p1.cell
  have own1 : Hid (V.ownsRow W.heap.size 3 1 (.slice none 0 0) 0 []) := World.ownsRow_nil V _ _ _
  have hnews : Hid (∀ j u, (P.map (Value.int .i64))[j]? = some u → V.cell? ((⟨c, off, none⟩ : Addr).add j) = some u) := fun j u hu => by
    rw [List.getElem?_map] at hu
    by_cases hj : j < P.length
    · rw [List.getElem?_eq_getElem hj] at hu
      simp only [Option.map_some, Option.some.injEq] at hu
      obtain ⟨b', off', e, hc⟩ := hr1.at hj
      cases e
      have ea : ((⟨c, off, none⟩ : Addr).add j) = ⟨c, off + j, none⟩ := by unfold Addr.add; split <;> simp_all
      rw [ea, hc, ← hu, List.getD_eq_getElem?_getD, List.getElem?_eq_getElem hj]
      rfl
    · rw [List.getElem?_eq_none (by omega)] at hu
      cases hu
  have hone : Hid (∀ u, u ∈ P.map (Value.int .i64) → u.oneCell' = true) := fun u hu => by
    obtain ⟨x, _, rfl⟩ := List.mem_map.1 hu
    rfl
  have hbs := hB.size
  have hfin : Hid (∀ (k cap9 : Nat) (w3 : World), w3.ownsRow W.heap.size 3 1 (.slice (some ⟨k, 0, none⟩) (0 + P.length) cap9) (0 + P.length) ([] ++ P.map (Value.int .i64)) → V.grownBy w3 (Value.slice none 0 0).ownBlock → ((Value.slice none 0 0).ownBlock = some k ∨ k = V.heap.size) → Grow W w3 (.slice (some ⟨k, 0, none⟩) P.length cap9) P ∧ Blk w3 g #[.slice (some ⟨c, off, none⟩) P.length cap, .int .i64 ix, .int .i64 lf, .bool lv, .bool pl] ∧ k ≠ g) := fun k cap3 w3 ho hgr hat => by
    rw [Nat.zero_add, List.nil_append] at ho
    refine ⟨⟨ho, hB.grown hgr hbs (fun b' hb => by simp [Value.ownBlock] at hb)⟩, q1.grown hgr (by simp [Value.ownBlock]), ?_⟩
    rcases hat with e | e
    · simp [Value.ownBlock] at e
    · omega
  clear q1 hB p1 hr1
  replace hs1 := hid hs1
  go_upto_region 3 with (at_builtin; refine wpList_append_lies _ rfl _ _ 23 rfl W.heap.size 3 i0 _ 1 8 Try.underlying23 hi0 hz0 hz1 hz2 rfl (by omega) _ 0 [] rfl own1.out ⟨c, off, none⟩ P.length cap (P.map (Value.int .i64)) rfl (by rw [List.length_map, Nat.mul_one]) hnews.out hone.out h0 (by unfold maxLen; omega) (by omega) hbs _ rfl ?_; intro g3 c3 w3 ho hg hat hlt3; obtain ⟨hG3, q3, hg3⟩ := hfin.out _ _ _ ho hg hat; rw [Nat.zero_add]; clear ho hg hat hlt3 own1 hnews hone hfin x0; have q4 := hid (q3.set 0 (.slice (some ⟨g3, 0, none⟩) P.length c3)); have G4 : Hid (Grow W (w3.setCell ⟨g, 0, none⟩ (.slice (some ⟨g3, 0, none⟩) P.length c3)) (.slice (some ⟨g3, 0, none⟩) P.length c3) P) := ⟨hG3.own.kept (grown_set1 (World.grownBy.refl w3 (some g))) (.inr (by simp [Value.ownBlock]; exact hg3)), hG3.bel.setCell (p := ⟨g, 0, none⟩) (by show W.heap.size ≤ g; have := hgh.out; omega) _⟩; have x3 := q3.cell; have f3 := q3.frozen; have l3 := q3.lt; replace hg3 := hid hg3; clear hG3 q3)
  go_wp2
  go_ret
  exact ⟨_, rfl, q4.out, G4.out, by simp [Value.ownBlock]; exact hg3.out⟩
theorem copied_impl (b : Nat) (a : Option Addr) (cap : Nat) (d : Dk) (W : World) (h : Blk W b (dkA (.slice a d.pulses.length cap) d)) (hr : RowR W (.slice a d.pulses.length cap) d.pulses) (hl : d.pulses.length ≤ 1048576) :
    Calls Try.prog 27 #[.pointer (some ⟨b, 0, none⟩)] W fun e w' => ∃ v, e = .returned (.pointer (some ⟨W.heap.size, 0, none⟩)) ∧ Blk w' W.heap.size (dkA v d) ∧ Grow W w' v d.pulses ∧ v.ownBlock ≠ some W.heap.size := by
  obtain ⟨P, ix, lf, lv, pl⟩ := d
  by_cases h0 : 0 < P.length
  · obtain ⟨c, off, rfl, _⟩ := hr.at h0
    exact copied_some b c off cap P ix lf lv pl W h hr h0 hl
  · obtain rfl : P = [] := List.length_eq_zero_iff.1 (by omega)
    exact copied_none b a cap ix lf lv pl W h
end Go.Proofs.Ytohnddjijedfkaa
