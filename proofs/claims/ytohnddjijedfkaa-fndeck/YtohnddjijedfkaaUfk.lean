/- Lists of blocks, and their text: the specification. -/
import Derived.Test.YtohnddjijedfkaaUbk
namespace Go.Proofs.Ytohnddjijedfkaa
open Go.ChangeShapes Go.WideShapes Go.ChangeAt Go.RowKit
set_option linter.unusedVariables false
set_option linter.unusedSimpArgs false

abbrev bkz : Int × ByteArray := (0, ⟨#[]⟩)
/-- a list of blocks, read wherever it lies -/
def BkR (W : World) (a : Option Addr) (l : List (Int × ByteArray)) : Prop :=
  l = [] ∨ ∃ g o, a = some ⟨g, o, none⟩ ∧ ∀ k, k < l.length → W.cell? ⟨g, o + k * 2, none⟩ = some (.int .i64 (l.getD k bkz).1) ∧ W.cell? ⟨g, o + k * 2 + 1, none⟩ = some (.string (l.getD k bkz).2)
theorem cell_keptU {W W' : World} {b i : Nat} {v : Value} (hb : Below W.heap.size W W') (h : W.cell? ⟨b, i, none⟩ = some v) : W'.cell? ⟨b, i, none⟩ = some v := by
  rw [hb.cell (p := ⟨b, i, none⟩) (World.block_lt_of_cell? W _ h)]
  exact h
theorem BkR.below {W W' : World} {a : Option Addr} {l : List (Int × ByteArray)} (h : BkR W a l) (hb : Below W.heap.size W W') : BkR W' a l := by
  rcases h with h | ⟨g, o, ha, h⟩
  · exact .inl h
  · exact .inr ⟨g, o, ha, fun k hk => ⟨cell_keptU hb (h k hk).1, cell_keptU hb (h k hk).2⟩⟩
theorem BkR.at {W : World} {a : Option Addr} {l : List (Int × ByteArray)} (h : BkR W a l) {k : Nat} (hk : k < l.length) : ∃ g o, a = some ⟨g, o, none⟩ ∧ W.cell? ⟨g, o + k * 2, none⟩ = some (.int .i64 (l.getD k bkz).1) ∧ W.cell? ⟨g, o + k * 2 + 1, none⟩ = some (.string (l.getD k bkz).2) := by
  rcases h with rfl | ⟨g, o, ha, h⟩
  · exact absurd hk (by simp)
  · exact ⟨g, o, ha, h k hk⟩
def allL (l : List (Int × ByteArray)) : Bool := l.all (fun x => okB x.1 x.2) && decide (l.length ≤ 6)
def tapN (l : List (Int × ByteArray)) : Nat → ByteArray
  | 0 => ByteArray.empty
  | k + 1 => tapN l k ++ txtB (l.getD k bkz).1 (l.getD k bkz).2
def tap2 (l : List (Int × ByteArray)) : ByteArray × Int := if 4096 < l.length then (ByteArray.empty, 2) else if allL l = true then (tapN l l.length, 0) else (ByteArray.empty, 1)
theorem getD_mem {l : List (Int × ByteArray)} {k : Nat} (h : k < l.length) : l.getD k bkz ∈ l := by
  rw [List.getD_eq_getElem?_getD, List.getElem?_eq_getElem h]
  exact List.getElem_mem h
theorem allL_no {l : List (Int × ByteArray)} {k : Nat} (hk : k < l.length) (h : okB (l.getD k bkz).1 (l.getD k bkz).2 = false) : allL l = false := by
  have : l.all (fun x => okB x.1 x.2) = false := by
    rw [List.all_eq_false]
    exact ⟨_, getD_mem hk, by show ¬ okB (l.getD k bkz).1 (l.getD k bkz).2 = true; rw [h]; decide⟩
  simp [allL, this]
theorem allL_yes {l : List (Int × ByteArray)} (h : ∀ k, k < l.length → okB (l.getD k bkz).1 (l.getD k bkz).2 = true) : allL l = decide (l.length ≤ 6) := by
  have : l.all (fun x => okB x.1 x.2) = true := by
    rw [List.all_eq_true]
    intro x hx
    obtain ⟨k, hk, rfl⟩ := List.getElem_of_mem hx
    have := h k hk
    rw [List.getD_eq_getElem?_getD, List.getElem?_eq_getElem hk] at this
    exact this
  simp [allL, this]
theorem allL_at {l : List (Int × ByteArray)} (h : allL l = true) {k : Nat} (hk : k < l.length) : okB (l.getD k bkz).1 (l.getD k bkz).2 = true := by
  cases hb : okB (l.getD k bkz).1 (l.getD k bkz).2
  · rw [allL_no hk hb] at h
    cases h
  · rfl
theorem allL_len {l : List (Int × ByteArray)} (h : allL l = true) : l.length ≤ 6 := by
  rw [allL_yes (fun k hk => allL_at h hk)] at h
  simpa using h
theorem tapN_size {l : List (Int × ByteArray)} (h : allL l = true) : ∀ k, k ≤ l.length → (tapN l k).size ≤ 44 * k := by
  intro k
  induction k with
  | zero => intro _; exact Nat.le_refl _
  | succ k ih =>
    intro hk
    have h1 := ih (by omega)
    have h2 := ((okB_iff _ _).1 (allL_at h (show k < l.length by omega))).2
    show (tapN l k ++ txtB (l.getD k bkz).1 (l.getD k bkz).2).size ≤ _
    rw [ByteArray.size_append, txtB_size]
    omega
set_option maxRecDepth 100000 in
set_option maxHeartbeats 2000000 in
theorem bkall_spec (a : Option Addr) (cap : Nat) (l : List (Int × ByteArray)) (w : World) (h : BkR w a l) (hl : l.length ≤ 1048576) (hs : ∀ x ∈ l, x.2.size ≤ maxLen) :
    Calls Try.prog 54 #[.slice a l.length cap] w fun e w' => e = .returned (.bool (allL l)) ∧ Below w.heap.size w w' := by
  have hno : Hid (∀ k, k < l.length → okB (l.getD k bkz).1 (l.getD k bkz).2 = false → allL l = false) := fun k hk => allL_no hk
  have hyes : Hid ((∀ k, k < l.length → okB (l.getD k bkz).1 (l.getD k bkz).2 = true) → allL l = decide (l.length ≤ 6)) := fun h => allL_yes h
  have hsz : Hid (∀ k, k < l.length → (l.getD k bkz).2.size ≤ maxLen) := fun k hk => hs _ (getD_mem hk)
  clear hs
  replace h := hid h
  obtain ⟨Q, hQ⟩ : ∃ Q, allL l = Q := ⟨_, rfl⟩
  rw [hQ] at hno hyes ⊢
  clear hQ
  go_enter Try.func54, Try.ntmps54
  go_wp2
  go_loopw [3] (fun i wr => ∃ k : Nat, k ≤ l.length ∧ i = .int .i64 k ∧ (∀ j, j < k → okB (l.getD j bkz).1 (l.getD j bkz).2 = true) ∧ Below w.heap.size w wr) (fun i _ => l.length - (intOf i).toNat)
  case atStart => exact ⟨0, by omega, rfl, fun j hj => by omega, Below.refl _ _⟩
  case round =>
    obtain ⟨k, hk, rfl, hj, hW⟩ := hrel
    by_cases hlt : k < l.length
    · obtain ⟨g, o, rfl, x1, x2⟩ := (h.out.below hW).at hlt
      have hz := hsz.out k hlt
      cases hb : okB (l.getD k bkz).1 (l.getD k bkz).2
      · have hE := hid (hno.out k hlt hb)
        clear hj hno hyes
        have hO := hid (fun W => bkok_spec (l.getD k bkz).1 (l.getD k bkz).2 W hz)
        rw [hb] at hO
        generalize (l.getD k bkz).1 = F at *
        generalize (l.getD k bkz).2 = D at *
        replace hW := hid hW
        clear hz
        go_wp2_with fail
        refine (hO.out _).mono ?_
        rintro e w2 ⟨rfl, hb2⟩
        have hW2 := hid (new_trans hW.out hb2)
        clear hb2 hW x1 x2
        go_wp2_with fail
        go_ret
        exact ⟨ret_bool hE.out.symm, hW2.out⟩
      · have hj2 : Hid (∀ j, j < k + 1 → okB (l.getD j bkz).1 (l.getD j bkz).2 = true) := fun j hj1 => by
          by_cases e : j = k
          · rw [e]; exact hb
          · exact hj j (by omega)
        clear hj hno hyes
        have hO := hid (fun W => bkok_spec (l.getD k bkz).1 (l.getD k bkz).2 W hz)
        rw [hb] at hO
        generalize (l.getD k bkz).1 = F at *
        generalize (l.getD k bkz).2 = D at *
        replace hW := hid hW
        clear hz
        go_wp2_with fail
        refine (hO.out _).mono ?_
        rintro e w2 ⟨rfl, hb2⟩
        have hW2 := hid (new_trans hW.out hb2)
        clear hb2 hW x1 x2
        go_wp2_with fail
        go_roundw
        case rel => exact ⟨k + 1, by omega, by go_num, hj2.out, hW2.out⟩
        case measure => simp [intOf]; omega
    · obtain rfl : k = l.length := by omega
      have hE := hid (hyes.out hj)
      replace hW := hid hW
      clear hj hno hyes
      go_wp2_with fail
      go_ret
      exact ⟨ret_bool (by rw [hE.out, Bool.eq_iff_iff]; simp; try omega), hW.out⟩
end Go.Proofs.Ytohnddjijedfkaa
