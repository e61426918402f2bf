/- Words as numbers, as the program puts them into their places. -/
import Derived.Test.YtneagomkohoceaaDoorTxac
import Derived.Test.YtneagomkohoceaaDoorKlc
import Derived.Test.YtneagomkohoceaaDoorBlc
namespace Go.Proofs.YtneagomkohoceaaDoor
open Go.ChangeShapes Go.WideShapes Go.ChangeAt Go.RowKit
set_option linter.unusedVariables false
set_option linter.unusedSimpArgs false

/-- a block into which the first k words are written, at their places -/
def setO (C : Array Value) (os : List Nat) (ws : List ByteArray) : Nat → Array Value
  | 0 => C
  | k + 1 => (setO C os ws k).setIfInBounds (os.getD k 0) (.int .i64 (valS (ws.getD k ⟨#[]⟩) (ws.getD k ⟨#[]⟩).size))
theorem setO_size (C : Array Value) (os : List Nat) (ws : List ByteArray) : ∀ k, (setO C os ws k).size = C.size
  | 0 => rfl
  | k + 1 => by
    show ((setO C os ws k).setIfInBounds _ _).size = _
    rw [Array.size_setIfInBounds]
    exact setO_size C os ws k
/-- what readNumbers answers, and how it leaves the block X -/
def RdNs (X : Nat) (C : Array Value) (os : List Nat) (ws : List ByteArray) (e : Ending) (W : World) : Prop :=
  ((ws.length = os.length ∧ ∀ i, i < ws.length → isNum (ws.getD i ⟨#[]⟩)) ∧ e = .returned (.bool true) ∧ Blk W X (setO C os ws os.length)) ∨
  (¬ (ws.length = os.length ∧ ∀ i, i < ws.length → isNum (ws.getD i ⟨#[]⟩)) ∧ e = .returned (.bool false) ∧ ∃ k, k ≤ os.length ∧ Blk W X (setO C os ws k))
set_option maxRecDepth 100000 in
set_option maxHeartbeats 1000000 in
theorem readns_impl (X : Nat) (C : Array Value) (os : List Nat) (ws : List ByteArray) (pa ra : Option Addr) (pg rg ro pc rc B0 : Nat) (w : World)
    (hX : Blk w X C) (hB0 : B0 ≤ X) (hB1 : B0 ≤ w.heap.size) (hos : ∀ i, i < os.length → os.getD i 0 < C.size) (hl : os.length ≤ 100) (hm : ws.length ≤ 1000000) (hs : ∀ i, (ws.getD i ⟨#[]⟩).size ≤ 1000000)
    (hpa : 0 < os.length → pa = some ⟨pg, 0, none⟩) (hp : ∀ i, i < os.length → w.cell? ⟨pg, i, none⟩ = some (.pointer (some ⟨X, os.getD i 0, none⟩))) (hpx : 0 < os.length → pg ≠ X)
    (hra : 0 < ws.length → ra = some ⟨rg, ro, none⟩) (hr : ∀ i, i < ws.length → w.cell? ⟨rg, ro + i, none⟩ = some (.string (ws.getD i ⟨#[]⟩))) (hrx : 0 < ws.length → rg ≠ X) :
    Calls Tryd.prog 68 #[.slice pa os.length pc, .slice ra ws.length rc] w fun e w' => RdNs X C os ws e w' ∧ Below B0 w w' ∧ w'.heap.size = w.heap.size ∧ ∀ b, b ≠ X → w'.heap[b]? = w.heap[b]? := by
  have hb0 : Hid (Below B0 w w) := hid (Below.refl _ _)
  by_cases hne : ws.length = os.length
  rotate_left
  · have hNo : Hid (RdNs X C os ws (.returned (.bool false)) w) := .inr ⟨fun h => hne h.1, rfl, 0, Nat.zero_le _, hX⟩
    have hi : ((ws.length : Int) != (os.length : Int)) = true := by rw [bne_iff_ne]; omega
    clear hne hX hos hs hpa hp hpx hra hr hrx
    go_enter Tryd.func68, Tryd.ntmps68
    go_wp2
    go_ret
    exact ⟨hNo.out, hb0.out, rfl, fun _ _ => rfl⟩
  have hi : ((ws.length : Int) != (os.length : Int)) = false := by rw [bne_eq_false_iff_eq]; omega
  have hNo : Hid (∀ i W k, i < ws.length → ¬ isNum (ws.getD i ⟨#[]⟩) → k ≤ os.length → Blk W X (setO C os ws k) → RdNs X C os ws (.returned (.bool false)) W) := fun i W k h1 h2 h3 h4 => .inr ⟨fun h => h2 (h.2 i h1), rfl, k, h3, h4⟩
  have hYes : Hid (∀ W, (∀ i, i < ws.length → isNum (ws.getD i ⟨#[]⟩)) → Blk W X (setO C os ws os.length) → RdNs X C os ws (.returned (.bool true)) W) := fun W h1 h2 => .inl ⟨⟨hne, h1⟩, rfl, h2⟩
  have hSz := hid (setO_size C os ws)
  have hst : Hid (∀ W k, k < os.length → Blk W X (setO C os ws k) → Blk (W.setCell ⟨X, os.getD k 0, none⟩ (.int .i64 (valS (ws.getD k ⟨#[]⟩) (ws.getD k ⟨#[]⟩).size))) X (setO C os ws (k + 1))) := fun W k _ h => h.set _ _
  have hne' := hid hne
  rw [hne] at hm hra hrx hi hr ⊢
  replace hos := hid hos
  replace hs := hid hs
  replace hpa := hid hpa
  replace hp := hid hp
  replace hpx := hid hpx
  replace hra := hid hra
  replace hr := hid hr
  replace hrx := hid hrx
  clear hne
  have hXw := hid hX
  clear hX
  go_enter Tryd.func68, Tryd.ntmps68
  go_wp2
  go_loopw [16] (fun i wr => ∃ k : Nat, k ≤ os.length ∧ i = .int .i64 k ∧ Blk wr X (setO C os ws k) ∧ (∀ i, i < k → isNum (ws.getD i ⟨#[]⟩)) ∧ Below B0 w wr ∧ wr.heap.size = w.heap.size ∧ ∀ b, b ≠ X → wr.heap[b]? = w.heap[b]?) (fun i _ => os.length - (intOf i).toNat)
  case atStart => exact ⟨0, by omega, rfl, hXw.out, fun i h => absurd h (Nat.not_lt_zero _), hb0.out, rfl, fun _ _ => rfl⟩
  case round =>
    obtain ⟨k, hk, rfl, hM, hnum, hB, hsz, hoth⟩ := hrel
    clear hXw hb0
    by_cases hlt : k < os.length
    · have hpa' := hpa.out (by omega)
      have hra' := hra.out (by omega)
      subst hpa' hra'
      have c1 : wr.cell? ⟨pg, k, none⟩ = some (.pointer (some ⟨X, os.getD k 0, none⟩)) := by
        rw [World.cell?_of_block (w := w) (a := ⟨pg, k, none⟩) (hoth pg (hpx.out (by omega)))]
        exact hp.out k hlt
      have c2 : wr.cell? ⟨rg, ro + k, none⟩ = some (.string (ws.getD k ⟨#[]⟩)) := by
        rw [World.cell?_of_block (w := w) (a := ⟨rg, ro + k, none⟩) (hoth rg (hrx.out (by omega)))]
        exact hr.out k hlt
      have hszI := hs.out k
      have hst2 := hid (hst.out wr k hlt hM)
      have hNo2 := hid (hNo.out k wr k (by rw [hne'.out]; exact hlt))
      have hnx : Hid (isNum (ws.getD k ⟨#[]⟩) → ∀ i, i < k + 1 → isNum (ws.getD i ⟨#[]⟩)) := fun h i hi => by
        rcases Nat.lt_or_ge i k with h1 | h1
        · exact hnum i h1
        · obtain rfl : i = k := by omega
          exact h
      have hco := hos.out k hlt
      have hx1 : ∃ v0, wr.cell? ⟨X, os.getD k 0, none⟩ = some v0 := by rw [hM.cell]; exact ⟨_, Array.getElem?_eq_getElem (by rw [hSz.out]; exact hco)⟩
      obtain ⟨v0, hx1⟩ := hx1
      have hfr := hM.frozen (os.getD k 0)
      have hkn : Hid (k ≤ os.length) := hk
      have hM0 := hid hM
      have hnum0 := hid hnum
      have hB1' := hid hB
      have hsz' := hid hsz
      have hoth' := hid hoth
      clear hM hnum hB hsz hoth hst hNo hpa hra hp hpx hr hrx hs hos hSz
      generalize ws.getD k ⟨#[]⟩ = tj at *
      generalize os.getD k 0 = ok at *
      go_wp2_with fail
      refine (num_impl tj _ hszI).mono ?_
      rintro e w' ⟨⟨v, rfl, hm'⟩, hww⟩
      obtain rfl := hww.symm
      by_cases hnn : isNum tj
      rotate_left
      · rw [decide_eq_false hnn]
        have hF := hid (hNo2.out hnn hk hM0.out)
        clear hm' hNo2 hnx hst2 c1 c2 hx1 hfr
        go_wp2
        go_ret
        exact ⟨hF.out, hB1'.out, hsz'.out, hoth'.out⟩
      rw [decide_eq_true hnn]
      have em := hm' hnn
      rw [← em] at hst2
      have hst3 : Hid (Blk (wr.setCell ⟨X, ok, none⟩ (.int .i64 v)) X (setO C os ws (k + 1)) ∧ (∀ i, i < k + 1 → isNum (ws.getD i ⟨#[]⟩)) ∧ Below B0 w (wr.setCell ⟨X, ok, none⟩ (.int .i64 v)) ∧ (wr.setCell ⟨X, ok, none⟩ (.int .i64 v)).heap.size = w.heap.size ∧ ∀ b, b ≠ X → (wr.setCell ⟨X, ok, none⟩ (.int .i64 v)).heap[b]? = w.heap[b]?) :=
        ⟨hst2.out, hnx.out hnn, hB1'.out.setCell (p := ⟨X, ok, none⟩) hB0 _, by rw [sizeSet]; exact hsz'.out, fun b hb => (Below.heap_setCell _ _ _ _ hb).trans (hoth'.out b hb)⟩
      clear hm' hNo2 hnx hst2 em hM0 hnum0 hB1' hsz' hoth' c2
      go_wp2
      go_roundw
      case rel => exact ⟨k + 1, by omega, by go_num, hst3.out⟩
      case measure => simp [intOf]; omega
    · obtain rfl : k = os.length := by omega
      have hF := hid (hYes.out wr (fun i hi => hnum i (by rw [hne'.out] at hi; exact hi)) hM)
      have hB' := hid hB
      have hsz' := hid hsz
      have hoth' := hid hoth
      clear hM hnum hB hsz hoth hst hNo hYes
      go_wp2
      go_ret
      exact ⟨hF.out, hB'.out, hsz'.out, hoth'.out⟩
end Go.Proofs.YtneagomkohoceaaDoor
