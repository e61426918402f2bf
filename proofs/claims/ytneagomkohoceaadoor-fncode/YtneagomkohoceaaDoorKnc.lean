/- An instruction of its number and its words, as the program puts it together. -/
import Derived.Test.YtneagomkohoceaaDoorKlc
import Derived.Test.YtneagomkohoceaaDoorC50
import Derived.Test.YtneagomkohoceaaDoorKic
import Derived.Test.YtneagomkohoceaaDoorTxcc
namespace Go.Proofs.YtneagomkohoceaaDoor
open Go.ChangeShapes Go.WideShapes Go.ChangeAt Go.RowKit
set_option linter.unusedVariables false
set_option linter.unusedSimpArgs false

def WnOK (ws : List ByteArray) (k : Nat) : Prop := ws.length = 1 + offL k ∧ ∀ i, 1 ≤ i → i < ws.length → isNum (wsAt ws i)
def WnP (ws : List ByteArray) (k : Nat) (e : Ending) : Prop := (WnOK ws k ∧ e = .returned (.tuple #[insY k ws, .bool true])) ∨ (¬ WnOK ws k ∧ ∃ a b n : Int, e = .returned (.tuple #[insV (k : Int) a b n (lenM (kdN k)), .bool false]))
theorem tail_at (ws : List ByteArray) (i : Nat) : ws.tail.getD i ⟨#[]⟩ = wsAt ws (i + 1) := by
  unfold wsAt
  cases ws with
  | nil => rfl
  | cons a l => rfl
theorem setO_ins (k : Nat) (ws : List ByteArray) (hk : k < 24) : ∀ j, j ≤ offL k → setO (insX k ws 0) (offsK (kdN k)) ws.tail j = insX k ws j
  | 0, _ => rfl
  | j + 1, h => by
    show (setO (insX k ws 0) (offsK (kdN k)) ws.tail j).setIfInBounds ((offsK (kdN k)).getD j 0) (.int .i64 (valS (ws.tail.getD j ⟨#[]⟩) (ws.tail.getD j ⟨#[]⟩).size)) = _
    rw [setO_ins k ws hk j (by omega), tail_at, ← insX_set hk (by omega)]
    rfl
theorem wn_iff {ws : List ByteArray} {k : Nat} (h0 : 0 < ws.length) : WnOK ws k ↔ (ws.tail.length = (offsK (kdN k)).length ∧ ∀ i, i < ws.tail.length → isNum (ws.tail.getD i ⟨#[]⟩)) := by
  have hl : ws.tail.length = ws.length - 1 := List.length_tail
  constructor
  · rintro ⟨h1, h2⟩
    refine ⟨by rw [hl, h1]; show 1 + offL k - 1 = offL k; omega, fun i hi => ?_⟩
    rw [tail_at]
    exact h2 (i + 1) (by omega) (by omega)
  · rintro ⟨h1, h2⟩
    refine ⟨by rw [hl] at h1; show ws.length = 1 + (offsK (kdN k)).length; omega, fun i h3 h4 => ?_⟩
    have := h2 (i - 1) (by omega)
    rw [tail_at] at this
    rwa [show i - 1 + 1 = i from by omega] at this
set_option maxRecDepth 100000 in
set_option maxHeartbeats 1000000 in
theorem with_impl (k : Nat) (ws : List ByteArray) (g m rc : Nat) (ra : Option Addr) (w : World) (hK : Kinds w) (hk : k < 24) (h0 : ws.length = 1 + m) (hra : 0 < m → ra = some ⟨g, 1, none⟩) (hmr : m ≤ 1000000) (hsz : ∀ i, (wsAt ws i).size ≤ 1000000)
    (hws : ∀ i, i < ws.length → w.cell? ⟨g, i, none⟩ = some (.string (wsAt ws i))) :
    Calls Tryd.prog 43 #[.int .i64 (k : Int), .slice ra m rc] w fun e w' => WnP ws k e ∧ Below w.heap.size w w' := by
  have hb0 := hid ((Below.refl w.heap.size w).alloc (Nat.le_refl _) (.cells zer5 24))
  obtain ⟨y0, y1, y2, y3, y4⟩ := (hK.below hb0.out) k hk
  have hX0 : Hid (insX k ws 0 = #[.int .i64 (k : Int), .int .i64 0, .int .i64 0, .int .i64 0, .int .i64 (lenM (kdN k))]) := rfl
  obtain ⟨L, hL⟩ : ∃ L, lenM (kdN k) = L := ⟨_, rfl⟩
  have hLb : 1 ≤ L ∧ L ≤ 2 := by rw [← hL]; unfold lenM; split <;> omega
  replace hws := hid hws
  replace hsz := hid hsz
  replace hra := hid hra
  have htl : ws.tail.length = m := by rw [List.length_tail]; omega
  have hgl : Hid (g < w.heap.size) := World.block_lt_of_cell? w _ (hws.out 0 (by omega))
  replace h0 := hid h0
  have hki : (k : Int) < 24 := by omega
  clear hK
  go_enter Tryd.func43, Tryd.ntmps43
  go_wp2_with fail
  refine (len_impl _ _ _ _ _ _).mono ?_
  rintro e w1 ⟨rfl, hb1⟩
  obtain ⟨Q0, Q6, bel⟩ := two_newI hb1
  have hz6 := Q6.lt
  have x6 := Q6.cell
  clear y0 y1 y2 y3 y4
  rw [hL] at hX0 ⊢
  go_wp2_with fail
  clear x6
  rw [← hX0.out]
  refine (places_impl k w1.heap.size _ hk).mono ?_
  rintro e w3 ⟨pv, rfl, hown, hb⟩
  have q0 : Blk w3 w.heap.size zer5 := (Q0.alloc _).below hb (by simp; omega)
  have qX : Blk w3 w1.heap.size (insX k ws 0) := (Blk.new w1 _ _).below hb (by simp)
  have hB3 : Below w.heap.size w w3 := (bel.alloc bel.size _).trans (hb.mono (by simp; omega))
  have hX3 : w1.heap.size < w3.heap.size := qX.lt
  obtain ⟨pa, pc, pg, rfl, hpa, hpp, hpx⟩ : ∃ pa pc pg, pv = .slice pa (offsK (kdN k)).length pc ∧ (0 < (offsK (kdN k)).length → pa = some ⟨pg, 0, none⟩) ∧ (∀ i, i < (offsK (kdN k)).length → w3.cell? ⟨pg, i, none⟩ = some (.pointer (some ⟨w1.heap.size, (offsK (kdN k)).getD i 0, none⟩))) ∧ (0 < (offsK (kdN k)).length → pg ≠ w1.heap.size) := by
    rcases hown.2 with ⟨rfl, h0⟩ | ⟨pg, cap, cur, rfl, hlo, _, _⟩
    · exact ⟨none, 0, 0, by rw [h0], fun h => by omega, fun i hi => by omega, fun h => by omega⟩
    · refine ⟨some ⟨pg, 0, none⟩, cap, pg, rfl, fun _ => rfl, fun i hi => ?_, fun _ => ?_⟩
      · rw [hown.cellAt i (by omega), List.getElem?_map, List.getElem?_eq_getElem hi]
        simp [List.getD_eq_getElem?_getD, List.getElem?_eq_getElem hi, ptrV]
      · have : (w1.alloc (.cells (insX k ws 0) 24)).heap.size = w1.heap.size + 1 := by simp
        omega
  have hos : ∀ i, i < (offsK (kdN k)).length → (offsK (kdN k)).getD i 0 < (insX k ws 0).size := fun i hi => by
    have := offs_at hk (show i < offL k from hi)
    show _ < 5
    omega
  have hR := hid (readns_impl w1.heap.size (insX k ws 0) (offsK (kdN k)) ws.tail pa ra pg g 1 pc rc w.heap.size w3 qX bel.size hB3.size hos (Nat.le_trans (offL_le hk) (by decide)) (by omega) (fun i => by rw [tail_at]; exact hsz.out _) hpa hpp hpx (fun h => hra.out (by omega)) (fun i hi => by rw [tail_at, Nat.add_comm 1 i]; exact cell_kept hB3 (hws.out (i + 1) (by rw [h0.out]; omega))) (fun _ => by have := hgl.out; have := bel.size; omega))
  rw [htl] at hR
  have q0' := hid q0
  have hB3' := hid hB3
  clear hb hown hb1 Q0 Q6 bel hb0 q0 qX hB3 hpa hpp hpx hos
  go_wp2_with fail
  refine hR.out.mono ?_
  rintro e w4 ⟨hrd, hB4, hs4, hoth⟩
  have q4 : Blk w4 w.heap.size zer5 := by
    obtain ⟨t, ht⟩ := q0'.out
    exact ⟨t, (hoth w.heap.size (by have := hz6; omega)).trans ht⟩
  have hB5 := hid (hB3'.out.trans hB4)
  have x0 := q4.cell
  have f0 := q4.frozen
  have z0 := q4.lt
  have hwn := hid (wn_iff (ws := ws) (k := k) (by rw [h0.out]; omega))
  clear hR q0' hB3' hB4 hoth q4
  rcases hrd with ⟨hy, rfl, hq⟩ | ⟨hn, rfl, j, hj, hq⟩
  · have hOK : Hid (WnP ws k (.returned (.tuple #[insY k ws, .bool true]))) := .inl ⟨hwn.out.2 hy, rfl⟩
    have hY2 : Hid (insY k ws = insV (k : Int) (insN k ws (offL k)).1 (insN k ws (offL k)).2.1 (insN k ws (offL k)).2.2 L) := by
      show insV (k : Int) (insN k ws (offL k)).1 (insN k ws (offL k)).2.1 (insN k ws (offL k)).2.2 (lenM (kdN k)) = _
      rw [hL]
    have e5 := setO_ins k ws hk (offL k) (Nat.le_refl _)
    have hq2 : Blk w4 w1.heap.size (insX k ws (offL k)) := by rw [← e5]; exact hq
    have hx2 := hq2.cell
    have hxl := hq2.lt
    unfold insX at hx2
    rw [hL] at hx2
    rw [hY2.out] at hOK
    clear hq hq2 hy e5 hY2 hwn
    generalize (insN k ws (offL k)).1 = a at *
    generalize (insN k ws (offL k)).2.1 = b at *
    generalize (insN k ws (offL k)).2.2 = n at *
    go_wp2
    refine bodyPost_ret (v := .tuple #[insV (k : Int) a b n L, .bool true]) (by simp [results, Tryd.results43, go_sem, x0]) rfl ⟨hOK.out, ?_⟩
    iterate 5 refine Below.setCell ?_ (by first | omega | (simp; done) | (simp; omega)) _
    exact hB5.out
  · have e5 := setO_ins k ws hk j hj
    have hq2 : Blk w4 w1.heap.size (insX k ws j) := by rw [← e5]; exact hq
    have hx2 := hq2.cell
    have hxl := hq2.lt
    have hOK : Hid (∀ a b n : Int, WnP ws k (.returned (.tuple #[insV (k : Int) a b n L, .bool false]))) := fun a b n => .inr ⟨fun h => hn (hwn.out.1 h), a, b, n, by rw [hL]⟩
    unfold insX at hx2
    rw [hL] at hx2
    clear hq hq2 hn e5 hwn
    generalize (insN k ws j).1 = a at *
    generalize (insN k ws j).2.1 = b at *
    generalize (insN k ws j).2.2 = n at *
    go_wp2
    refine bodyPost_ret (v := .tuple #[insV (k : Int) a b n L, .bool false]) (by simp [results, Tryd.results43, go_sem, x0]) rfl ⟨hOK.out _ _ _, ?_⟩
    iterate 5 refine Below.setCell ?_ (by first | omega | (simp; done) | (simp; omega)) _
    exact hB5.out
end Go.Proofs.YtneagomkohoceaaDoor
