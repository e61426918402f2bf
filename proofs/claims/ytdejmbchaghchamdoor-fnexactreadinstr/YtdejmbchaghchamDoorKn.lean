/- An instruction of its number and its words, as the program puts it together. -/
import Derived.Test.YtdejmbchaghchamDoorKl
import Derived.Test.YtdejmbchaghchamDoorIp
import Derived.Test.YtdejmbchaghchamDoorKi
namespace Go.Proofs.YtdejmbchaghchamDoor
open Go.ChangeShapes Go.WideShapes Go.ChangeAt Go.RowKit
set_option linter.unusedVariables false
set_option linter.unusedSimpArgs false

def WnOK (ws : List ByteArray) (k : Nat) : Prop := ws.length = 1 + offL k ∧ ∀ i, 1 ≤ i → i < ws.length → isNum (wsAt ws i)
def WnP (ws : List ByteArray) (k : Nat) (e : Ending) : Prop := (WnOK ws k ∧ e = .returned (.tuple #[insY k ws, .bool true])) ∨ (¬ WnOK ws k ∧ e = .returned (.tuple #[insV 0 0 0 0 0, .bool false]))
/-- while numbers are put into their places -/
structure YSt (w W : World) (ws : List ByteArray) (g k X pg j : Nat) : Prop where
  x : XSt w W ws g k X j
  ptr : ∀ i, i < offL k → W.cell? ⟨pg, i, none⟩ = some (ptrV X ((offsK (kdN k)).getD i 0))
  ne : 0 < offL k → pg ≠ X
theorem YSt.next {w W : World} {ws : List ByteArray} {g k X pg j o : Nat} {m : Int} (h : YSt w W ws g k X pg j) (hk : k < 24) (hj : j < offL k) (hg : g ≠ X) (ho : (offsK (kdN k)).getD j 0 = o) (hm : m = numW ws (j + 1)) (hn : isNum (wsAt ws (j + 1))) : YSt w (W.setCell ⟨X, o, none⟩ (.int .i64 m)) ws g k X pg (j + 1) :=
  ⟨h.x.next hk hj hg ho hm hn, fun i hi => by
    have e : (W.setCell ⟨X, o, none⟩ (.int .i64 m)).heap[pg]? = W.heap[pg]? := Below.heap_setCell _ _ _ _ (h.ne (by omega))
    rw [World.cell?_of_block (w := W) (a := ⟨pg, i, none⟩) e]
    exact h.ptr i hi, h.ne⟩
theorem YSt.start {w w1 w3 : World} {ws : List ByteArray} {g k : Nat} {pv : Value} {t t1 t2 : TypeId} (hK : k < 24) (hws : ∀ i, i < ws.length → w.cell? ⟨g, i, none⟩ = some (.string (wsAt ws i)))
    (hb1 : Below ((w.alloc (.cells zer5 t)).alloc (.cells (kinK k) t1)).heap.size ((w.alloc (.cells zer5 t)).alloc (.cells (kinK k) t1)) w1)
    (hp : w3.ownsRow ((w1.alloc (.cells (insX k ws 0) t2)).heap.size + 1) 64 1 pv (offsK (kdN k)).length ((offsK (kdN k)).map (ptrV w1.heap.size)))
    (hb : Below (w1.alloc (.cells (insX k ws 0) t2)).heap.size (w1.alloc (.cells (insX k ws 0) t2)) w3) :
    ∃ pa pc pg, pv = .slice pa (offL k) pc ∧ (0 < offL k → pa = some ⟨pg, 0, none⟩) ∧ YSt w w3 ws g k w1.heap.size pg 0 := by
  obtain ⟨q0, q1, bel1⟩ := two_newI hb1
  have hlt1 : w.heap.size + 1 < w1.heap.size := q1.lt
  have R1 : RSt w w1 ws g := ⟨q0, fun i hi => cell_kept bel1 (hws i hi), bel1⟩
  have R3 : RSt w w3 ws g := (R1.alloc _).below hb
  have x3 : Blk w3 w1.heap.size (insX k ws 0) := (Blk.new w1 _ t2).below hb (by simp)
  have X3 : XSt w w3 ws g k w1.heap.size 0 := ⟨R3, x3, by omega, fun i h1 h2 => by omega⟩
  have hs : (w1.alloc (.cells (insX k ws 0) t2)).heap.size = w1.heap.size + 1 := by simp
  have hl : (offsK (kdN k)).length = offL k := rfl
  rw [hl] at hp
  rcases hp.2 with ⟨rfl, h0⟩ | ⟨pg, cap, cur, rfl, hlo, _, _⟩
  · exact ⟨none, 0, 0, by rw [h0], fun h => by omega, ⟨X3, fun i hi => by omega, fun h => by omega⟩⟩
  · refine ⟨some ⟨pg, 0, none⟩, cap, pg, rfl, fun _ => rfl, ⟨X3, fun i hi => ?_, fun h => by rw [hs] at hlo; omega⟩⟩
    rw [hp.cellAt i (by omega), List.getElem?_map, List.getElem?_eq_getElem hi]
    simp [List.getD_eq_getElem?_getD, List.getElem?_eq_getElem hi]
set_option maxRecDepth 100000 in
set_option maxHeartbeats 1000000 in
theorem with_impl (k : Nat) (ws : List ByteArray) (g m rc : Nat) (ra : Option Addr) (w : World) (hK : Kinds w) (hk : k < 24) (h0 : ws.length = 1 + m) (hra : 0 < m → ra = some ⟨g, 1, none⟩) (hmr : m ≤ 1000000) (hsz : ∀ i, (wsAt ws i).size ≤ 1000000)
    (hws : ∀ i, i < ws.length → w.cell? ⟨g, i, none⟩ = some (.string (wsAt ws i))) :
    Calls Tryd.prog 47 #[.int .i64 (k : Int), .slice ra m rc] w fun e w' => WnP ws k e ∧ Below w.heap.size w w' := by
  have hb0 := hid ((Below.refl w.heap.size w).alloc (Nat.le_refl _) (.cells zer5 24))
  obtain ⟨y0, y1, y2, y3, y4⟩ := (hK.below hb0.out) k hk
  have hX0 : Hid (insX k ws 0 = #[.int .i64 (k : Int), .int .i64 0, .int .i64 0, .int .i64 0, .int .i64 (lenM (kdN k))]) := rfl
  obtain ⟨L, hL⟩ : ∃ L, lenM (kdN k) = L := ⟨_, rfl⟩
  have hLb : 1 ≤ L ∧ L ≤ 2 := by rw [← hL]; unfold lenM; split <;> omega
  replace hws := hid hws
  replace hsz := hid hsz
  replace hra := hid hra
  replace h0 := hid h0
  have hki : (k : Int) < 24 := by omega
  clear hK
  have hgl : Hid (g < w.heap.size) := World.block_lt_of_cell? w _ (hws.out 0 (by have := h0.out; omega))
  go_enter Tryd.func47, Tryd.ntmps47
  go_wp2_with fail
  refine (len_impl _ _ _ _ _ _).mono ?_
  rintro e w1 ⟨rfl, hb1⟩
  obtain ⟨Q0, Q6, bel⟩ := two_newI hb1
  have hz6 := Q6.lt
  have x6 := Q6.cell
  clear y0 y1 y2 y3 y4 Q0
  rw [hL] at hX0 ⊢
  go_wp2_with fail
  clear x6
  refine (places_impl k w1.heap.size _ hk).mono ?_
  rintro e w3 ⟨pv, rfl, hown, hb⟩
  rw [← hX0.out] at hown hb
  obtain ⟨pa, pc, pg, rfl, hpa, hY⟩ := YSt.start hk hws.out hb1 hown hb
  replace hpa := hid hpa
  replace hY := hid hY
  clear hb hown hb1 Q6 bel hb0
  have hol := offL_le (k := k) hk
  obtain ⟨np, hnp⟩ : ∃ n, offL k = n := ⟨_, rfl⟩
  rw [hnp] at hpa hol ⊢
  replace hnp := hid hnp
  by_cases hmn : m = np
  rotate_left
  · have hNo : Hid (WnP ws k (.returned (.tuple #[insV 0 0 0 0 0, .bool false]))) := .inr ⟨fun h => hmn (by have h1 := h.1; have h2 := h0.out; have h3 := hnp.out; omega), rfl⟩
    have hne : ((m : Int) != (np : Int)) = true := by rw [bne_iff_ne]; omega
    have x0 := hY.out.x.r.q.cell
    have f0 := hY.out.x.r.q.frozen
    have z0 := hY.out.x.r.q.lt
    have b0 := hid hY.out.x.r.bel
    clear hmn hY
    go_wp2
    refine bodyPost_ret (v := .tuple #[insV 0 0 0 0 0, .bool false]) (by simp [results, Tryd.results47, go_sem, x0]) rfl ⟨hNo.out, ?_⟩
    iterate 5 refine Below.setCell ?_ (by first | omega | (simp; done) | (simp; omega)) _
    exact b0.out
  have hne : ((m : Int) != (np : Int)) = false := by rw [bne_eq_false_iff_eq]; omega
  go_wp2
  go_loopw [30] (fun i wr => ∃ j : Nat, j ≤ np ∧ i = .int .i64 j ∧ YSt w wr ws g k w1.heap.size pg j) (fun i _ => np - (intOf i).toNat)
  case atStart => exact ⟨0, by omega, rfl, hY.out⟩
  case round =>
    obtain ⟨j, hj, rfl, hR⟩ := hrel
    clear hY
    by_cases hlt : j < np
    · have hlk : j < offL k := by rw [hnp.out]; exact hlt
      have hpa' := hpa.out (by omega)
      have hra' := hra.out (by omega)
      subst hpa' hra'
      have hgX : g ≠ w1.heap.size := by have := hgl.out; omega
      have c1 := hR.x.r.vc (j + 1) (by rw [h0.out]; omega)
      rw [Nat.add_comm j 1] at c1
      have c2 := hR.ptr j hlk
      have hoj := offs_at hk hlk
      have hnx : Hid (∀ W o m, YSt w W ws g k w1.heap.size pg j → (offsK (kdN k)).getD j 0 = o → m = numW ws (j + 1) → isNum (wsAt ws (j + 1)) → YSt w (W.setCell ⟨w1.heap.size, o, none⟩ (.int .i64 m)) ws g k w1.heap.size pg (j + 1)) := fun W o m h1 h2 h3 h4 => h1.next hk hlk hgX h2 h3 h4
      have hnu : numW ws (j + 1) = valS (wsAt ws (1 + j)) (wsAt ws (1 + j)).size := by rw [Nat.add_comm 1 j]; rfl
      have hN : Hid (¬ isNum (wsAt ws (1 + j)) → WnP ws k (.returned (.tuple #[insV 0 0 0 0 0, .bool false]))) := fun h => .inr ⟨fun hh => h (hh.2 (1 + j) (by omega) (by rw [h0.out]; omega)), rfl⟩
      have hszI := hsz.out (1 + j)
      rw [Nat.add_comm j 1] at hnx hnu
      generalize wsAt ws (1 + j) = tj at *
      obtain ⟨o, ho⟩ : ∃ o, (offsK (kdN k)).getD j 0 = o := ⟨_, rfl⟩
      rw [ho] at c2 hoj
      unfold ptrV at c2
      have hx2 := hR.x.x.cell
      have hfr := hR.x.x.frozen
      have hxl := hR.x.x.lt
      have x0 := hR.x.r.q.cell
      have f0 := hR.x.r.q.frozen
      have z0 := hR.x.r.q.lt
      have b0 := hid hR.x.r.bel
      replace hR := hid hR
      replace ho := hid ho
      go_wp2_with fail
      refine (num_impl tj _ hszI).mono ?_
      rintro e w' ⟨⟨v, rfl, hm⟩, hww⟩
      obtain rfl := hww.symm
      by_cases hn : isNum tj
      rotate_left
      · rw [decide_eq_false hn]
        have hNo := hid (hN.out hn)
        clear hm hN hnx hR c1 c2 hx2 hfr hxl
        go_wp2
        refine bodyPost_ret (v := .tuple #[insV 0 0 0 0 0, .bool false]) (by simp [results, Tryd.results47, go_sem, x0]) rfl ⟨hNo.out, ?_⟩
        iterate 5 refine Below.setCell ?_ (by first | omega | (simp; done) | (simp; omega)) _
        exact b0.out
      rw [decide_eq_true hn]
      have em := hid ((hm hn).trans hnu.symm)
      have hX3 := hid (hnx.out _ o v hR.out ho.out em.out hn)
      rw [Nat.add_comm 1 j] at hX3
      clear hm hN hnx hnu c1 c2 x0 f0 z0 em hR
      rcases hoj with rfl | rfl | rfl
      all_goals
        go_wp2
        go_roundw
        case rel => exact ⟨j + 1, by omega, by go_num, hX3.out⟩
        case measure => simp [intOf]; omega
    · obtain rfl : j = np := by omega
      have hOK : Hid (WnP ws k (.returned (.tuple #[insY k ws, .bool true]))) := .inl ⟨⟨by rw [h0.out, hnp.out]; omega, fun i h1 h2 => hR.x.num i h1 (by rw [h0.out] at h2; omega)⟩, rfl⟩
      have hY2 : Hid (insY k ws = insV (k : Int) (insN k ws j).1 (insN k ws j).2.1 (insN k ws j).2.2 L) := by
        show insV (k : Int) (insN k ws (offL k)).1 (insN k ws (offL k)).2.1 (insN k ws (offL k)).2.2 (lenM (kdN k)) = _
        rw [hnp.out, hL]
      have hx2 := hR.x.x.cell
      have x0 := hR.x.r.q.cell
      have f0 := hR.x.r.q.frozen
      have z0 := hR.x.r.q.lt
      have b0 := hid hR.x.r.bel
      have hxl := hR.x.x.lt
      have hfa := hR.x.far
      unfold insX at hx2
      rw [hL] at hx2
      rw [hY2.out] at hOK
      clear hR hpa hra
      generalize (insN k ws j).1 = a at *
      generalize (insN k ws j).2.1 = b at *
      generalize (insN k ws j).2.2 = n at *
      go_wp2
      refine bodyPost_ret (v := .tuple #[insV (k : Int) a b n L, .bool true]) (by simp [results, Tryd.results47, go_sem, x0]) rfl ⟨hOK.out, ?_⟩
      iterate 5 refine Below.setCell ?_ (by first | omega | (simp; done) | (simp; omega)) _
      exact b0.out
end Go.Proofs.YtdejmbchaghchamDoor
