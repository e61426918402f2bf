/- Lists of texts in an exact law: held against each other, marked, held. -/
import Derived.Test.YtneagomkohoceabDoorTxbl
import Derived.Test.YtneagomkohoceabDoorMbl
import Derived.Test.YtneagomkohoceabDoorWaql
namespace Go.Proofs.YtneagomkohoceabDoor
open Go.ChangeShapes Go.WideShapes Go.ChangeAt Go.RowKit
set_option linter.unusedVariables false
set_option linter.unusedSimpArgs false

/-- a list of texts that can be read -/
def StrR (w : World) (v : Value) (ws : List ByteArray) : Prop := ∃ a cap, v = .slice a ws.length cap ∧ (ws = [] ∨ ∃ g, a = some ⟨g, 0, none⟩ ∧ ∀ (i : Nat) x, ws[i]? = some x → w.cell? ⟨g, i, none⟩ = some (.string x))
/-- a list of texts of its own, from block lo on -/
def OwnS (lo : Nat) (w : World) (v : Value) (ws : List ByteArray) : Prop := w.ownsRow lo 9 1 v ws.length (ws.map Value.string)
theorem OwnS.read {lo : Nat} {w : World} {v : Value} {ws : List ByteArray} (h : OwnS lo w v ws) : StrR w v ws := by
  have h0 := h
  unfold OwnS at h0
  rcases h0.2 with ⟨rfl, hn⟩ | ⟨g, cap, cur, rfl, _⟩
  · have : ws = [] := List.length_eq_zero_iff.1 hn
    subst this
    exact ⟨none, 0, rfl, .inl rfl⟩
  · refine ⟨_, cap, rfl, .inr ⟨g, rfl, fun i x hx => ?_⟩⟩
    have hi := (List.getElem?_eq_some_iff.1 hx).1
    rw [h0.cellAt i (by omega), List.getElem?_map, hx]
    rfl
theorem StrR.below {w w' : World} {v : Value} {ws : List ByteArray} (h : StrR w v ws) (hb : Below w.heap.size w w') : StrR w' v ws := by
  obtain ⟨a, cap, rfl, h⟩ := h
  refine ⟨a, cap, rfl, ?_⟩
  rcases h with h | ⟨g, rfl, h⟩
  · exact .inl h
  · exact .inr ⟨g, rfl, fun i x hx => cellX_kept hb (h i x hx)⟩
theorem OwnS.below {lo : Nat} {w w' : World} {v : Value} {ws : List ByteArray} (h : OwnS lo w v ws) (hb : Below w.heap.size w w') : OwnS lo w' v ws := ownX_below h hb
theorem StrR.at {w : World} {a : Option Addr} {n cap : Nat} {ws : List ByteArray} (h : StrR w (.slice a n cap) ws) {k : Nat} (hk : k < ws.length) : ∃ g, a = some ⟨g, 0, none⟩ ∧ w.cell? ⟨g, k, none⟩ = some (.string (ws.getD k ⟨#[]⟩)) := by
  obtain ⟨a', cap', e, h⟩ := h
  injection e with e1 e2 e3
  subst e1
  rcases h with rfl | ⟨g, ha, h⟩
  · exact absurd hk (by simp)
  · exact ⟨g, ha, h k _ (by rw [List.getD_eq_getElem?_getD, List.getElem?_eq_getElem hk]; rfl)⟩
theorem StrR.form {w : World} {v : Value} {ws : List ByteArray} (h : StrR w v ws) : ∃ a cap, v = .slice a ws.length cap := by
  obtain ⟨a, cap, e, _⟩ := h
  exact ⟨a, cap, e⟩
theorem sizeSetX (w : World) (p : Addr) (u : Value) : (w.setCell p u).heap.size = w.heap.size := by simp [World.setCell]
def mkT (k : Nat) : ByteArray := ⟨#[109]⟩ ++ digB k
def mkTs (n : Nat) : List ByteArray := (List.range n).map fun i => mkT (1 + i)
/-- the first j texts are marks, the others as they were -/
def mkP (ws : List ByteArray) (j : Nat) : List ByteArray := (List.range ws.length).map fun i => if i < j then mkT (1 + i) else ws.getD i ⟨#[]⟩
theorem mkP_len (ws : List ByteArray) (j : Nat) : (mkP ws j).length = ws.length := by simp [mkP]
theorem mkP_all (ws : List ByteArray) : mkP ws ws.length = mkTs ws.length := by
  unfold mkP mkTs
  apply List.map_congr_left
  intro i hi
  rw [if_pos (List.mem_range.1 hi)]
theorem mkP_zero (ws : List ByteArray) : mkP ws 0 = ws := by
  apply List.ext_getElem?
  intro i
  unfold mkP
  rw [List.getElem?_map]
  rcases Nat.lt_or_ge i ws.length with h | h
  · rw [List.getElem?_range h, Option.map_some, if_neg (Nat.not_lt_zero _), List.getD_eq_getElem?_getD, List.getElem?_eq_getElem h]
    rfl
  · rw [List.getElem?_eq_none (by simpa using h), List.getElem?_eq_none h]
    rfl
theorem mkP_succ (ws : List ByteArray) {j : Nat} (h : j < ws.length) : ((mkP ws j).map Value.string).set j (.string (mkT (1 + j))) = (mkP ws (j + 1)).map Value.string := by
  apply List.ext_getElem?
  intro i
  rw [List.getElem?_set]
  unfold mkP
  simp only [List.getElem?_map, List.length_map, List.length_range]
  rcases Nat.lt_or_ge i ws.length with hi | hi
  · rw [List.getElem?_range hi]
    simp only [Option.map_some]
    by_cases hij : j = i
    · subst hij
      rw [if_pos rfl, if_pos h, if_pos (by omega)]
    · rw [if_neg hij]
      by_cases h2 : i < j
      · rw [if_pos h2, if_pos (by omega)]
      · rw [if_neg h2, if_neg (by omega)]
  · rw [List.getElem?_eq_none (by simpa using hi), if_neg (by omega)]
    rfl
set_option maxRecDepth 100000 in
theorem eqs_yes (v v' : Value) (ws : List ByteArray) (w : World) (h : StrR w v ws) (h' : StrR w v' ws) (hl : ws.length ≤ 1000000000) :
    Calls Tryd.prog 15 #[v, v'] w fun e w' => e = .returned (.bool true) ∧ ∃ n, w' = w.drewN n := by
  obtain ⟨a, cap, rfl⟩ := h.form
  obtain ⟨a', cap', rfl⟩ := h'.form
  replace h := hid h
  replace h' := hid h'
  go_enter Tryd.func15, Tryd.ntmps15
  go_wp2
  go_loopw [5] (fun i wr => ∃ k : Nat, k ≤ ws.length ∧ i = .int .i64 k ∧ ∃ n, wr = w.drewN n) (fun i _ => ws.length - (intOf i).toNat)
  case atStart => exact ⟨0, by omega, rfl, 0, rfl⟩
  case round =>
    obtain ⟨k, hk, rfl, n, rfl⟩ := hrel
    by_cases hlt : k < ws.length
    · obtain ⟨g, rfl, c1⟩ := h.out.at hlt
      obtain ⟨g', rfl, c2⟩ := h'.out.at hlt
      clear h h'
      generalize ws.getD k ⟨#[]⟩ = z at *
      go_wp2
      go_region
      go_wp2
      go_roundw
      case rel => exact ⟨k + 1, by omega, by go_num, n + 1, rfl⟩
      case measure => simp [intOf]; omega
    · obtain rfl : k = ws.length := by omega
      go_wp2
      go_ret
      exact ⟨rfl, n, rfl⟩
set_option maxRecDepth 100000 in
theorem markt (k0 : Nat) (w : World) (h0 : 0 < k0) (h1 : k0 < 1000000000000) : Calls Tryd.prog 58 #[.int .i64 (k0 : Nat)] w fun e w' => e = .returned (.string (mkT k0)) ∧ Below w.heap.size w w' := by
  have hc := fun W g x h => convIg W g x h
  have hs0 := digB_size k0 (Nat.lt_of_lt_of_le h1 (by decide))
  have hp : (k0 = 0) = False := by simp; omega
  have hp2 : decide (k0 = 0) = false := by simp; omega
  go_enter Tryd.func58, Tryd.ntmps58
  go_wp2
  go_loopw [0, 3] (fun q t wr => ∃ (k : Nat) (o : ByteArray), k ≤ k0 ∧ q = .int .i64 k ∧ t = .string o ∧ o.size ≤ 30 ∧ (0 < k → digB k ++ o = digB k0) ∧ (k = 0 → o = digB k0) ∧ Below w.heap.size w wr) (fun q _ _ => (intOf q).toNat)
  case atStart => exact ⟨k0, ⟨#[]⟩, Nat.le_refl _, rfl, rfl, by decide, fun _ => by apply ByteArray.ext; simp [ByteArray.data_append], fun h => by omega, Below.refl _ _⟩
  case round =>
    obtain ⟨k, o, hk, rfl, rfl, ho, hA, hZ, hB⟩ := hrel
    by_cases hk0 : 0 < k
    · have hE := hA hk0
      obtain ⟨x, hx⟩ : ∃ x : Int, 48 + ((k % 10 : Nat) : Int) = x := ⟨_, rfl⟩
      have hx2 : 0 ≤ x ∧ x ≤ 255 := by omega
      have hx3 : 48 + (k : Int) % 10 = x := by omega
      have hw5 : IntKind.u8.wrap (IntKind.i64.wrap (48 + (k : Int).tmod 10)) = x := by
        rw [Int.tmod_eq_emod_of_nonneg (by omega), hx3, IntKind.wrap_i64, IntKind.wrap_u8]
        omega
      have hq : (k : Int) / 10 = ((k / 10 : Nat) : Int) := by omega
      have hw6 : IntKind.i64.wrap ((k / 10 : Nat) : Int) = ((k / 10 : Nat) : Int) := by rw [IntKind.wrap_i64]; omega
      have hsz2 : (strOfNums [x]).size = 1 := strOfNums_size _
      have hnx : Hid ((0 < k / 10 → digB (k / 10) ++ (strOfNums [x] ++ o) = digB k0) ∧ (k / 10 = 0 → strOfNums [x] ++ o = digB k0)) := by
        refine ⟨fun h => ?_, fun h => ?_⟩
        · rw [← hE, ← hx, ← digB_big (n := k) (by omega), ByteArray.append_assoc]
        · have e1 : k % 10 = k := by omega
          rw [← hE, ← hx, e1, digB_small (by omega)]
      have hsn : Hid ((strOfNums [x] ++ o).size ≤ 30) := by
        have h2 := hnx.out
        show _ ≤ _
        rcases Nat.eq_zero_or_pos (k / 10) with h | h
        · rw [h2.2 h]; omega
        · have := congrArg ByteArray.size (h2.1 h)
          rw [ByteArray.size_append] at this
          omega
      have z1 : ¬ 9223372036854775807 < 1 + o.size := by omega
      have hkq : k / 10 ≤ k0 := by omega
      have hkl : k / 10 < k := by omega
      have hB' := hid hB
      clear hA hZ hE hx hB
      generalize hkk : k / 10 = m at *
      replace hkk := hid hkk
      go_wp2
      go_roundw
      case rel => exact ⟨m, strOfNums [x] ++ o, hkq, by go_num, rfl, hsn.out, hnx.out.1, hnx.out.2, hB'.out.alloc hB'.out.size _⟩
      case measure => simp [intOf]; omega
    · obtain rfl : k = 0 := by omega
      have hO := hZ rfl
      subst hO
      have z1 : ¬ 9223372036854775807 < 1 + (digB k0).size := by omega
      have hE : Hid (⟨#[109]⟩ ++ digB k0 = mkT k0) := rfl
      have hB' := hid hB
      clear hA hZ hB
      generalize digB k0 = D at *
      go_wp2
      go_ret
      exact ⟨ret_str hE.out, hB'.out⟩
set_option maxRecDepth 100000 in
theorem marks_ (lo : Nat) (v : Value) (ws : List ByteArray) (w : World) (h : OwnS lo w v ws) (hl : ws.length ≤ 100000) :
    Calls Tryd.prog 18 #[v, .int .i64 1] w fun e w' => e = .returned (.int .i64 (1 + (ws.length : Nat))) ∧ StrR w' v (mkTs ws.length) ∧ w.grownBy w' v.ownBlock := by
  have hall := hid (mkP_all ws)
  rcases h.2 with ⟨rfl, hn⟩ | ⟨g, cap, cur, rfl, hlo, hg, hnc, hm, hcs, htk⟩
  · have : ws = [] := List.length_eq_zero_iff.1 hn
    subst this
    clear h hall
    go_enter Tryd.func18, Tryd.ntmps18
    go_wp2
    go_loopw [1, 5] (fun q i wr => q = .int .i64 1 ∧ i = .int .i64 0 ∧ wr = w) (fun _ _ _ => 0)
    case atStart => exact ⟨rfl, rfl, rfl⟩
    case round =>
      obtain ⟨rfl, rfl, rfl⟩ := hrel
      go_wp2
      go_ret
      exact ⟨rfl, ⟨none, 0, rfl, .inl rfl⟩, ⟨rfl, rfl, rfl, Nat.le_refl _, fun _ _ _ => rfl⟩⟩
  have hcell0 : Hid (∀ (W : World) (C : Array Value), W.heap[g]? = some (.cells C 9 (0, 0)) → ∀ i, W.cell? ⟨g, i, none⟩ = C[i]? ∧ W.frozen? ⟨g, i, none⟩ = false) := fun W C h i => by simp [World.cell?, World.frozen?, h]
  have hst : Hid (∀ (W : World) (C : Array Value) (i : Nat) u, W.heap[g]? = some (.cells C 9 (0, 0)) → (W.setCell ⟨g, i, none⟩ u).heap[g]? = some (.cells (C.setIfInBounds i u) 9 (0, 0))) := fun W C i u h => heap_setCell_same' _ _ _ _ _ _ h
  have hcl : Hid (ws.length ≤ cur.size) := by show _ ≤ _; omega
  have htk2 : Hid (cur.toList.take ws.length = (mkP ws 0).map Value.string) := by
    show _ = _
    rw [mkP_zero, ← htk, Nat.mul_one]
  replace hg := hid hg
  clear h hcs htk hm hnc hlo
  go_enter Tryd.func18, Tryd.ntmps18
  go_wp2
  go_loopw [1, 5] (fun q i wr => ∃ (k : Nat) (C : Array Value), k ≤ ws.length ∧ q = .int .i64 (1 + k : Nat) ∧ i = .int .i64 k ∧ wr.heap[g]? = some (.cells C 9 (0, 0)) ∧ C.size = cur.size ∧ C.toList.take ws.length = (mkP ws k).map Value.string ∧ w.grownBy wr (some g)) (fun _ i _ => ws.length - (intOf i).toNat)
  case atStart => exact ⟨0, cur, Nat.zero_le _, rfl, rfl, hg.out, rfl, htk2.out, ⟨rfl, rfl, rfl, Nat.le_refl _, fun _ _ _ => rfl⟩⟩
  case round =>
    obtain ⟨k, C, hk, rfl, rfl, hC, hCs, hCt, hG⟩ := hrel
    by_cases hlt : k < ws.length
    · have hkC : k < C.size := by have := hcl.out; omega
      have hM := hid (fun W => markt (1 + k) W (by omega) (by omega))
      have hG' := hid hG
      have hC' := hid hC
      have hnx : Hid ((C.setIfInBounds k (.string (mkT (1 + k)))).toList.take ws.length = (mkP ws (k + 1)).map Value.string ∧ (C.setIfInBounds k (.string (mkT (1 + k)))).size = cur.size) := by
        refine ⟨?_, by rw [Array.size_setIfInBounds]; exact hCs⟩
        rw [Array.toList_setIfInBounds, List.take_set, hCt, mkP_succ ws hlt]
      have k0 : (0 : Int) ≤ (k : Int) := by omega
      have k1 : (k : Int) < (ws.length : Int) := by omega
      obtain ⟨u0, hu0⟩ : ∃ u0, C[k]? = some u0 := ⟨_, Array.getElem?_eq_getElem hkC⟩
      clear hC hG hCt hCs
      generalize mkT (1 + k) = MT at *
      go_wp2_with fail
      refine (hM.out _).mono ?_
      rintro e W2 ⟨rfl, hb2⟩
      have hC2 := hid ((hb2.block g (Array.getElem?_eq_some_iff.1 hC'.out).1).trans hC'.out)
      have hG2 : Hid (w.grownBy W2 (some g)) := ⟨hb2.os.trans hG'.out.os, hb2.tape.trans hG'.out.tape, hb2.output.trans hG'.out.output, Nat.le_trans hG'.out.size hb2.size, fun j hj hne => (hb2.block j (Nat.lt_of_lt_of_le hj hG'.out.size)).trans (hG'.out.block j hj hne)⟩
      have x2 : W2.cell? ⟨g, k, none⟩ = some u0 := ((hcell0.out _ _ hC2.out k).1).trans hu0
      have f2 := (hcell0.out _ _ hC2.out k).2
      have hC3 := hid (hst.out W2 C k (.string MT) hC2.out)
      have hG3 : Hid (w.grownBy (W2.setCell ⟨g, k, none⟩ (.string MT)) (some g)) := ⟨hG2.out.os, hG2.out.tape, hG2.out.output, by rw [sizeSetX]; exact hG2.out.size, fun j hj hne => (Below.heap_setCell _ _ _ _ (fun e => hne (by rw [e]))).trans (hG2.out.block j hj hne)⟩
      clear hb2 hC2 hG2 hG' hC' hM hu0
      go_wp2
      go_roundw
      case rel => exact ⟨k + 1, _, by omega, by go_num, by go_num, hC3.out, hnx.out.2, hnx.out.1, hG3.out⟩
      case measure => simp [intOf]; omega
    · obtain rfl : k = ws.length := by omega
      have hR : Hid (StrR wr (.slice (some ⟨g, 0, none⟩) ws.length cap) (mkTs ws.length)) := by
        refine ⟨_, cap, by simp [mkTs], .inr ⟨g, rfl, fun i x hx => ?_⟩⟩
        rw [(hcell0.out _ _ hC i).1]
        rw [hall.out] at hCt
        have hi : i < ws.length := by have := (List.getElem?_eq_some_iff.1 hx).1; simpa [mkTs] using this
        have h9 := congrArg (·[i]?) hCt
        simp only [List.getElem?_take_of_lt hi, List.getElem?_map, hx, Option.map_some, Array.getElem?_toList] at h9
        exact h9
      have hG' := hid hG
      clear hC hCs hCt hG
      go_wp2
      go_ret
      exact ⟨ret_int (by omega), hR.out, hG'.out⟩
set_option maxRecDepth 100000 in
theorem helds_ (v : Value) (n : Nat) (w : World) (h : StrR w v (mkTs n)) (hl : n ≤ 100000) :
    Calls Tryd.prog 19 #[v, .int .i64 1] w fun e w' => e = .returned (.int .i64 (1 + (n : Nat))) ∧ Below w.heap.size w w' := by
  have hn : (mkTs n).length = n := by simp [mkTs]
  have hat : Hid (∀ k, k < n → (mkTs n).getD k ⟨#[]⟩ = mkT (1 + k)) := fun k hk => by
    unfold mkTs
    rw [List.getD_eq_getElem?_getD, List.getElem?_map, List.getElem?_range hk]
    rfl
  obtain ⟨a, cap, rfl⟩ := h.form
  rw [hn] at h ⊢
  replace h := hid h
  go_enter Tryd.func19, Tryd.ntmps19
  go_wp2
  go_loopw [1, 5] (fun q i wr => ∃ k : Nat, k ≤ n ∧ q = .int .i64 (1 + k : Nat) ∧ i = .int .i64 k ∧ Below w.heap.size w wr) (fun _ i _ => n - (intOf i).toNat)
  case atStart => exact ⟨0, Nat.zero_le _, rfl, rfl, Below.refl _ _⟩
  case round =>
    obtain ⟨k, hk, rfl, rfl, hB⟩ := hrel
    by_cases hlt : k < n
    · obtain ⟨g, rfl, c1⟩ := (h.out.below hB).at (by rw [hn]; exact hlt)
      rw [hat.out k hlt] at c1
      have hM := hid (fun W => markt (1 + k) W (by omega) (by omega))
      have hB' := hid hB
      have k0 : (0 : Int) ≤ (k : Int) := by omega
      have k1 : (k : Int) < (n : Int) := by omega
      clear h hB hat
      generalize mkT (1 + k) = MT at *
      go_upto_region 4 with fail
      refine calm_region 7 (fun W => Hid (Below wr.heap.size wr W ∧ Below w.heap.size w W)) (fun _ => True) (by kernel_rfl) (by kernel_rfl) (by kernel_rfl) (by kernel_rfl) (by kernel_rfl) (by kernel_rfl) (hid ⟨(Below.refl _ _).drew, hB'.out.drew⟩) ?_
      iterate 5 (refine calm_take (v := ?_) (by decide) (by kernel_rfl) (by kernel_rfl) ?_ ?_; rotate_left; (focus (intro W hW; have y0 := cellX_kept hW.out.1 c1; go_simp; first | done | with_reducible rfl)); (try simp only [Act.put, List.setIfInBounds_toArray, List.set_cons_zero, List.set_cons_succ]))
      refine calm_call (f := 58) (args := #[.int .i64 ((1 + k : Nat) : Int)]) (.string MT) (by decide) (by kernel_rfl) (by kernel_rfl) ?_ ?_ ?_; (focus (intro W; go_simp; first | done | with_reducible rfl)); (focus (intro W hW; exact (hM.out W).mono (fun r W' hr => ⟨hr.1, hid ⟨new_trans hW.out.1 hr.2, new_trans hW.out.2 hr.2⟩⟩))); (try simp only [Act.put, List.setIfInBounds_toArray, List.set_cons_zero, List.set_cons_succ])
      refine calm_take (v := ?_) (by decide) (by kernel_rfl) (by kernel_rfl) ?_ ?_; rotate_left; (focus (intro W hW; have y0 := cellX_kept hW.out.1 c1; go_simp; first | done | with_reducible rfl)); (try simp only [Act.put, List.setIfInBounds_toArray, List.set_cons_zero, List.set_cons_succ])
      refine calm_end (fun W hW => ?_)
      have hB2 : Hid (Below w.heap.size w W) := hid (show Below wr.heap.size wr W ∧ Below w.heap.size w W from hW.out).2
      clear hW hB' hM c1
      go_wp2
      go_roundw
      case rel => exact ⟨k + 1, by omega, by go_num, by go_num, hB2.out⟩
      case measure => simp [intOf]; omega
    · obtain rfl : k = n := by omega
      have hB' := hid hB
      clear h hB hat
      go_wp2
      go_ret
      exact ⟨ret_int (by omega), hB'.out⟩
end Go.Proofs.YtneagomkohoceabDoor
