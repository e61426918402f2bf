/- A deck with pulses of its own: the specification. -/
import Derived.Test.YtohnddjijedfkaaDdk
import Derived.OwnWalk
import Derived.Deep.AppendLies
namespace Go.Proofs.Ytohnddjijedfkaa
open Go.ChangeShapes Go.WideShapes Go.ChangeAt Go.RowKit
set_option linter.unusedVariables false
set_option linter.unusedSimpArgs false

/-- an answer of a deck, laid into a block -/
theorem dk_laid {w W : World} {O R : Nat} {v0 v' : Value} {P : List Int} {B : Array Value} {ix lf : Int} {lv pl : Bool} (hO : Blk W O #[v0, .int .i64 ix, .int .i64 lf, .bool lv, .bool pl]) (hR : Blk W R B) (hB5 : B.size = 5) (hne : R ≠ O) (h0 : w.heap.size ≤ O) (h1 : w.heap.size ≤ R) (hG : Grow w W v' P) (n0 : v'.ownBlock ≠ some O) (n1 : v'.ownBlock ≠ some R) :
    Blk (W.setCell ⟨O, 0, none⟩ v') O #[v', .int .i64 ix, .int .i64 lf, .bool lv, .bool pl] ∧ Blk (W.setCell ⟨O, 0, none⟩ v') R B ∧
    (∀ i, ((((((W.setCell ⟨O, 0, none⟩ v').setCell ⟨R, 0, none⟩ v').setCell ⟨R, 1, none⟩ (.int .i64 ix)).setCell ⟨R, 2, none⟩ (.int .i64 lf)).setCell ⟨R, 3, none⟩ (.bool lv)).setCell ⟨R, 4, none⟩ (.bool pl)).cell? ⟨R, i, none⟩ = (#[v', .int .i64 ix, .int .i64 lf, .bool lv, .bool pl] : Array Value)[i]?) ∧
    Grow w ((((((W.setCell ⟨O, 0, none⟩ v').setCell ⟨R, 0, none⟩ v').setCell ⟨R, 1, none⟩ (.int .i64 ix)).setCell ⟨R, 2, none⟩ (.int .i64 lf)).setCell ⟨R, 3, none⟩ (.bool lv)).setCell ⟨R, 4, none⟩ (.bool pl)) v' P := by
  have sg : ∀ (X : World) (b i : Nat) (u : Value), X.grownBy (X.setCell ⟨b, i, none⟩ u) (some b) := fun X b i u => ⟨rfl, rfl, rfl, by simp [World.setCell], fun k _ hk => Below.heap_setCell _ _ _ _ (fun e => hk (by rw [e]))⟩
  have q := hO.set 0 v'
  have r := hR.other (p := ⟨O, 0, none⟩) hne v'
  have r5 := ((((r.set 0 v').set 1 (.int .i64 ix)).set 2 (.int .i64 lf)).set 3 (.bool lv)).set 4 (.bool pl)
  obtain ⟨b0, b1, b2, b3, b4, rfl⟩ : ∃ b0 b1 b2 b3 b4, B = #[b0, b1, b2, b3, b4] := array5 hB5
  refine ⟨q, r, fun i => r5.cell i, ?_, ?_⟩
  · exact (((((hG.own.kept (sg _ O 0 _) (.inr n0)).kept (sg _ R 0 _) (.inr n1)).kept (sg _ R 1 _) (.inr n1)).kept (sg _ R 2 _) (.inr n1)).kept (sg _ R 3 _) (.inr n1)).kept (sg _ R 4 _) (.inr n1)
  · exact (((((hG.bel.setCell (p := ⟨O, 0, none⟩) h0 _).setCell (p := ⟨R, 0, none⟩) h1 _).setCell (p := ⟨R, 1, none⟩) h1 _).setCell (p := ⟨R, 2, none⟩) h1 _).setCell (p := ⟨R, 3, none⟩) h1 _).setCell (p := ⟨R, 4, none⟩) h1 _
set_option maxRecDepth 100000 in
set_option maxHeartbeats 1000000 in
theorem own_some (b off cap : Nat) (P : List Int) (ix lf : Int) (lv pl : Bool) (w : World) (h : RowR w (.slice (some ⟨b, off, none⟩) P.length cap) P) (h0 : 0 < P.length) (hl : P.length ≤ 1048576) :
    Calls Try.prog 31 #[.agg #[.slice (some ⟨b, off, none⟩) P.length cap, .int .i64 ix, .int .i64 lf, .bool lv, .bool pl]] w fun e w' => ∃ v, e = .returned (.agg #[v, .int .i64 ix, .int .i64 lf, .bool lv, .bool pl]) ∧ Grow w w' v P := by
  obtain ⟨i0, hi0, hz0, hz1, hz2⟩ := info_parts infoIV
  obtain ⟨qO, qR, hB⟩ := two_newD w #[.slice (some ⟨b, off, none⟩) P.length cap, .int .i64 ix, .int .i64 lf, .bool lv, .bool pl] #[.slice none 0 0, .int .i64 0, .int .i64 0, .bool false, .bool false] 25 25
  have hbl : b < w.heap.size := by
    obtain ⟨b', off', e, hc⟩ := h.at h0
    cases e
    exact World.block_lt_of_cell? w _ hc
  have hr := h.below hB
  go_enter Try.func31, Try.ntmps31
  go_upto_region 1 with fail
  obtain ⟨V, hV⟩ : ∃ V, (w.alloc (.cells #[.slice (some ⟨b, off, none⟩) P.length cap, .int .i64 ix, .int .i64 lf, .bool lv, .bool pl] 25)).alloc (.cells #[.slice none 0 0, .int .i64 0, .int .i64 0, .bool false, .bool false] 25) = V := ⟨_, rfl⟩
  rw [hV] at qO qR hB hr ⊢
  have hVs : V.heap.size = w.heap.size + 1 + 1 := by rw [← hV]; simp
  clear hV h
  have hn1 : Below V.heap.size V (V.alloc (.cells #[] 3)) := (Below.refl _ _).alloc (Nat.le_refl _) _
  have own1 : Hid ((V.alloc (.cells #[] 3)).ownsRow w.heap.size 3 1 (.slice (some ⟨V.heap.size, 0, none⟩) 0 0) 0 []) := World.ownsRow_lit (e := 3) (size := 1) (base := w.heap.size) V #[] 0 hB.size (by decide) rfl
  have hB1 := hid (hB.alloc hB.size (.cells #[] 3))
  have qO1 := hid (qO.alloc (.cells #[] 3))
  have qR1 := hid (qR.alloc (.cells #[] 3))
  have hr1 := hr.below hn1
  have hnews : Hid (∀ j u, (P.map (Value.int .i64))[j]? = some u → (V.alloc (.cells #[] 3)).cell? ((⟨b, off, none⟩ : Addr).add j) = some u) := fun j u hu => by
    rw [List.getElem?_map] at hu
    by_cases hj : j < P.length
    · rw [List.getElem?_eq_getElem hj] at hu
      simp only [Option.map_some, Option.some.injEq] at hu
      obtain ⟨b', off', e, hc⟩ := hr1.at hj
      cases e
      have ea : ((⟨b, off, none⟩ : Addr).add j) = ⟨b, off + j, none⟩ := by unfold Addr.add; split <;> simp_all
      rw [ea, hc, ← hu, List.getD_eq_getElem?_getD, List.getElem?_eq_getElem hj]
      rfl
    · rw [List.getElem?_eq_none (by omega)] at hu
      cases hu
  have hone : Hid (∀ u, u ∈ P.map (Value.int .i64) → u.oneCell' = true) := fun u hu => by
    obtain ⟨x, _, rfl⟩ := List.mem_map.1 hu
    rfl
  have xO := qO1.out.cell
  have hbs := hB1.out.size
  have hfin : Hid (∀ (g cap9 : Nat) (w3 : World), w3.ownsRow w.heap.size 3 1 (.slice (some ⟨g, 0, none⟩) (0 + P.length) cap9) (0 + P.length) ([] ++ P.map (Value.int .i64)) → (V.alloc (.cells #[] 3)).grownBy w3 (Value.slice (some ⟨V.heap.size, 0, none⟩) 0 0).ownBlock → ((Value.slice (some ⟨V.heap.size, 0, none⟩) 0 0).ownBlock = some g ∨ g = (V.alloc (.cells #[] 3)).heap.size) → Grow w w3 (.slice (some ⟨g, 0, none⟩) P.length cap9) P ∧ Blk w3 w.heap.size #[.slice (some ⟨b, off, none⟩) P.length cap, .int .i64 ix, .int .i64 lf, .bool lv, .bool pl] ∧ Blk w3 (w.heap.size + 1) #[.slice none 0 0, .int .i64 0, .int .i64 0, .bool false, .bool false] ∧ w.heap.size + 1 + 1 ≤ g) := fun g cap3 w3 ho hg hat => by
    have hgl : w.heap.size + 1 + 1 ≤ g := by
      rcases hat with e | e
      · have : V.heap.size = g := by simpa [Value.ownBlock] using e
        omega
      · rw [World.size_alloc] at e
        omega
    rw [Nat.zero_add, List.nil_append] at ho
    have hvw : w.heap.size ≤ V.heap.size := by omega
    refine ⟨⟨ho, hB1.out.grown hg hbs (fun b' hb => by
      have hb2 : V.heap.size = b' := by simpa [Value.ownBlock] using hb
      omega)⟩, qO1.out.grown hg (fun e => ?_), qR1.out.grown hg (fun e => ?_), hgl⟩
    · have : w.heap.size = V.heap.size := by simpa [Value.ownBlock] using e
      omega
    · have : w.heap.size + 1 = V.heap.size := by simpa [Value.ownBlock] using e
      omega
  replace hB := hid hB
  replace hVs := hid hVs
  clear qO qR hr hr1 hn1
  obtain ⟨O, hO⟩ : ∃ O, w.heap.size = O := ⟨_, rfl⟩
  have hOw : Hid (w.heap.size = O) := hO
  rw [hO] at xO ⊢
  go_upto_region 2 with (at_builtin; refine wpList_append_lies _ rfl _ _ 23 rfl w.heap.size 3 i0 _ 1 8 Try.underlying23 hi0 hz0 hz1 hz2 rfl (by omega) _ 0 [] rfl own1.out ⟨b, off, none⟩ P.length cap (P.map (Value.int .i64)) rfl (by rw [List.length_map, Nat.mul_one]) hnews.out hone.out h0 (by unfold maxLen; omega) (by omega) hbs _ rfl ?_; intro g3 c3 w3 ho hg hat hlt3; obtain ⟨hG3, q3, r3, hg3⟩ := hfin.out _ _ _ ho hg hat; rw [Nat.zero_add]; clear ho hg hat hlt3 own1 hnews hone hfin xO; rw [hO] at q3 r3 hg3; obtain ⟨y1, y2, y3, y4⟩ := dk_laid q3 r3 rfl (by omega) (by omega) (by omega) hG3 (by simp [Value.ownBlock]; omega) (by simp [Value.ownBlock]; omega); replace y3 := hid y3; replace y4 := hid y4; have x3 := q3.cell; have f3 := q3.frozen; have l3 := q3.lt; replace y1 := hid y1; replace y2 := hid y2; clear hG3 q3 r3)
  obtain ⟨W2, hW2⟩ : ∃ W, w3.setCell ⟨O, 0, none⟩ (.slice (some ⟨g3, 0, none⟩) P.length c3) = W := ⟨_, rfl⟩
  rw [hW2] at y1 y2 y3 y4 ⊢
  clear hW2 x3 f3 l3
  have xO := y1.out.cell
  have xR := y2.out.cell
  have fR := y2.out.frozen
  have lR := y2.out.lt
  have n3 : ¬ O = O + 1 := by omega
  have n4 : ¬ O + 1 = O := by omega
  go_wp2
  have x6 := y3.out
  exact bodyPost_ret (v := .agg #[.slice (some ⟨g3, 0, none⟩) P.length c3, .int .i64 ix, .int .i64 lf, .bool lv, .bool pl]) (by simp [results, Try.results31, go_sem, x6]; try rfl) rfl ⟨_, rfl, y4.out⟩
end Go.Proofs.Ytohnddjijedfkaa
