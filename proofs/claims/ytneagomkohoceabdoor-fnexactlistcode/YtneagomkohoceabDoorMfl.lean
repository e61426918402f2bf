/- What the specification says of a memory that is right, and of what is asked of one. -/
import Derived.Test.YtneagomkohoceabDoorMcl
import Derived.Test.YtneagomkohoceabDoorL05
import Derived.Test.YtneagomkohoceabDoorBll
namespace Go.Proofs.YtneagomkohoceabDoor
open Go.ChangeShapes Go.WideShapes Go.ChangeAt Go.RowKit
set_option linter.unusedVariables false

/-- so many bytes -/
def bytesB (zs : List Int) (n : Nat) : Bool := zs.all (fun z => inB z 0 255) && decide (zs.length = n)
/-- a memory that is right -/
def okM (M : Mem) : Bool := bytesB M.rom 64 && decide (M.ram.length = 4) && inB M.page 0 3 && (decide (M.screen = 1) || decide (M.screen = 3)) && M.ram.all (fun r => bytesB r 64)
theorem bytes_no {zs : List Int} {k n : Nat} (hk : k < zs.length) (h : inB (zs.getD k 0) 0 255 = false) : bytesB zs n = false := by
  unfold bytesB
  rw [Bool.and_eq_false_iff]
  left
  rw [List.all_eq_false]
  refine ⟨zs[k], List.getElem_mem hk, ?_⟩
  rw [List.getD_eq_getElem?_getD, List.getElem?_eq_getElem hk] at h
  simpa using h
theorem bytes_all {zs : List Int} {n : Nat} (h : ∀ i, i < zs.length → inB (zs.getD i 0) 0 255 = true) : bytesB zs n = decide (zs.length = n) := by
  unfold bytesB
  have : zs.all (fun z => inB z 0 255) = true := by
    rw [List.all_eq_true]
    intro z hz
    obtain ⟨i, hi, rfl⟩ := List.mem_iff_getElem.1 hz
    have := h i hi
    simpa [List.getD_eq_getElem?_getD, List.getElem?_eq_getElem hi] using this
  rw [this, Bool.true_and]
theorem bytes_len {zs : List Int} {n : Nat} (h : bytesB zs n = true) : zs.length = n := by
  unfold bytesB at h
  simp at h
  exact h.2
theorem bytes_at {zs : List Int} {n i : Nat} (h : bytesB zs n = true) (hi : i < zs.length) : inB (zs.getD i 0) 0 255 = true := by
  cases e : inB (zs.getD i 0) 0 255
  · rw [bytes_no hi e] at h
    cases h
  · rfl
theorem bytes_bd {zs : List Int} {n i : Nat} (h : bytesB zs n = true) (hi : i < zs.length) : 0 ≤ zs.getD i 0 ∧ zs.getD i 0 ≤ 255 := by
  have := bytes_at h hi
  simpa [inB] using this
theorem ok_parts {M : Mem} (h : okM M = true) : bytesB M.rom 64 = true ∧ M.ram.length = 4 ∧ (0 ≤ M.page ∧ M.page ≤ 3) ∧ (M.screen = 1 ∨ M.screen = 3) ∧ ∀ i, i < M.ram.length → bytesB (M.ram.getD i []) 64 = true := by
  unfold okM at h
  simp only [Bool.and_eq_true, Bool.or_eq_true, decide_eq_true_eq] at h
  obtain ⟨⟨⟨⟨h1, h2⟩, h3⟩, h4⟩, h5⟩ := h
  refine ⟨h1, h2, by simpa [inB] using h3, h4, fun i hi => ?_⟩
  rw [List.all_eq_true] at h5
  have := h5 _ (List.getElem_mem hi)
  simpa [List.getD_eq_getElem?_getD, List.getElem?_eq_getElem hi] using this
theorem ram_no {M : Mem} {k : Nat} (hk : k < M.ram.length) (h : bytesB (M.ram.getD k []) 64 = false) : okM M = false := by
  cases e : okM M
  · rfl
  · have := (ok_parts e).2.2.2.2 k hk
    rw [h] at this
    cases this
theorem ok_all {M : Mem} (h1 : bytesB M.rom 64 = true) (h2 : M.ram.length = 4) (h3 : inB M.page 0 3 = true) (h4 : M.screen = 1 ∨ M.screen = 3) (h5 : ∀ i, i < 4 → bytesB (M.ram.getD i []) 64 = true) : okM M = true := by
  unfold okM
  simp only [Bool.and_eq_true, Bool.or_eq_true, decide_eq_true_eq]
  refine ⟨⟨⟨⟨h1, h2⟩, h3⟩, h4⟩, ?_⟩
  rw [List.all_eq_true]
  intro z hz
  obtain ⟨i, hi, rfl⟩ := List.mem_iff_getElem.1 hz
  have := h5 i (by omega)
  simpa [List.getD_eq_getElem?_getD, List.getElem?_eq_getElem hi] using this
theorem okM_false {M : Mem} (h : bytesB M.rom 64 = false ∨ ¬ M.ram.length = 4 ∨ inB M.page 0 3 = false ∨ ¬ (M.screen = 1 ∨ M.screen = 3)) : okM M = false := by
  cases e : okM M
  · rfl
  · obtain ⟨h1, h2, h3, h4, _⟩ := ok_parts e
    rcases h with h | h | h | h
    · rw [h1] at h; cases h
    · exact absurd h2 h
    · rw [in_yes h3.1 h3.2] at h; cases h
    · exact absurd h4 h
theorem MemR.form {w : World} {v : Value} {M : Mem} (h : MemR w v M) : ∃ a1 p1 a2 p2, v = memV (.slice a1 M.rom.length p1) (.slice a2 M.ram.length p2) M.page M.screen M.locked ∧ RowR w (.slice a1 M.rom.length p1) M.rom ∧ RowsR w (.slice a2 M.ram.length p2) M.ram := by
  obtain ⟨vr, vm, rfl, h1, h2⟩ := h
  obtain ⟨a1, p1, rfl, _⟩ := id h1
  obtain ⟨a2, p2, rfl, _⟩ := id h2
  exact ⟨a1, p1, a2, p2, rfl, h1, h2⟩

theorem byteM_spec (v : Int) (w : World) : Calls Tryd.prog 77 #[.int .i64 v] w fun e w' => e = .returned (.bool (inB v 0 255)) ∧ w' = w := by
  go_enter Tryd.func77, Tryd.ntmps77
  go_wp2_with (go_at_call 76; refine (in_spec _ _ _ _).mono ?_; rintro e w' ⟨rfl, rfl⟩)
  go_ret
  exact ⟨rfl, rfl⟩
set_option maxRecDepth 100000 in
theorem bytes_spec (v : Value) (zs : List Int) (n : Nat) (w : World) (h : RowR w v zs) (hl : zs.length ≤ 1000000000) (hn : n ≤ 1000000000) :
    Calls Tryd.prog 68 #[v, .int .i64 n] w fun e w' => e = .returned (.bool (bytesB zs n)) ∧ w' = w := by
  obtain ⟨a, cap, rfl, h⟩ := h
  replace h := hid h
  have hno : Hid (∀ k, k < zs.length → inB (zs.getD k 0) 0 255 = false → bytesB zs n = false) := fun k hk => bytes_no hk
  have hall : Hid ((∀ i, i < zs.length → inB (zs.getD i 0) 0 255 = true) → bytesB zs n = decide (zs.length = n)) := bytes_all
  go_enter Tryd.func68, Tryd.ntmps68
  go_wp2
  go_loop [5] (fun i => ∃ k : Nat, k ≤ zs.length ∧ i = .int .i64 k ∧ ∀ j, j < k → inB (zs.getD j 0) 0 255 = true) (fun i => zs.length - (intOf i).toNat)
  case atStart => exact ⟨0, by omega, rfl, fun j hj => by omega⟩
  case round =>
    obtain ⟨k, hk, rfl, hj⟩ := hrel
    by_cases hlt : k < zs.length
    · obtain ⟨b, off, rfl, c1⟩ := row_some h.out hlt
      cases hb : inB (zs.getD k 0) 0 255
      · have hE := hid (hno.out k hlt hb)
        clear h hj hno hall
        generalize zs.getD k 0 = z at *
        go_wp2_with (go_at_call 77; refine (byteM_spec _ _).mono ?_; rintro e w' ⟨rfl, rfl⟩; rw [hb])
        go_ret
        exact ⟨ret_bool hE.out.symm, rfl⟩
      · have hj2 : Hid (∀ j, j < k + 1 → inB (zs.getD j 0) 0 255 = true) := fun j hj1 => by
          by_cases e : j = k
          · rw [e]; exact hb
          · exact hj j (by omega)
        clear h hj hno hall
        generalize zs.getD k 0 = z at *
        go_wp2_with (go_at_call 77; refine (byteM_spec _ _).mono ?_; rintro e w' ⟨rfl, rfl⟩; rw [hb])
        go_round
        case rel => exact ⟨k + 1, by omega, by go_num, hj2.out⟩
        case measure => simp [intOf]; omega
    · obtain rfl : k = zs.length := by omega
      have hE := hid (hall.out hj)
      clear hj h hno hall
      go_wp2
      go_ret
      exact ⟨ret_bool (by rw [hE.out, Bool.eq_iff_iff]; simp; omega), rfl⟩
set_option maxRecDepth 100000 in
theorem ok_spec (v : Value) (M : Mem) (w : World) (h : MemR w v M) (hl : M.rom.length ≤ 1000000000) (hm : M.ram.length ≤ 1000000000) (hr : ∀ i, i < M.ram.length → (M.ram.getD i []).length ≤ 1000000000) :
    Calls Tryd.prog 85 #[v] w fun e w' => e = .returned (.bool (okM M)) ∧ Below w.heap.size w w' := by
  obtain ⟨a1, p1, a2, p2, rfl, h1, h2⟩ := h.form
  have hB : Hid (∀ o, Below w.heap.size w (w.alloc o)) := fun o => (Below.refl _ _).alloc (Nat.le_refl _) _
  have k1 : Hid (∀ o, RowR (w.alloc o) (.slice a1 M.rom.length p1) M.rom) := fun o => h1.below (hB.out o)
  have k2 : Hid (RowsR w (.slice a2 M.ram.length p2) M.ram) := h2
  replace hr := hid hr
  clear h h1 h2
  cases hb1 : bytesB M.rom 64
  · rw [okM_false (.inl hb1)]
    go_enter Tryd.func85, Tryd.ntmps85
    go_wp2_with (go_at_call 68; refine (bytes_spec _ M.rom 64 _ (k1.out _) hl (by omega)).mono ?_; rintro e w' ⟨rfl, rfl⟩; rw [hb1])
    go_ret
    exact ⟨rfl, hB.out _⟩
  · by_cases h4 : M.ram.length = 4
    · cases hp : inB M.page 0 3
      · rw [okM_false (.inr (.inr (.inl hp)))]
        have h4' : ((M.ram.length : Int) != 4) = false := by simp; omega
        clear h4
        go_enter Tryd.func85, Tryd.ntmps85
        go_wp2_with (first | (go_at_call 68; refine (bytes_spec _ M.rom 64 _ (k1.out _) hl (by omega)).mono ?_; rintro e w' ⟨rfl, rfl⟩; rw [hb1]) | (go_at_call 76; refine (in_spec _ _ _ _).mono ?_; rintro e w' ⟨rfl, rfl⟩; rw [hp]))
        go_ret
        exact ⟨rfl, hB.out _⟩
      · by_cases hs : M.screen = 1 ∨ M.screen = 3
        · have h4' : ((M.ram.length : Int) != 4) = false := by simp; omega
          have hno : Hid (∀ k, k < 4 → bytesB (M.ram.getD k []) 64 = false → okM M = false) := fun k hk => ram_no (by omega)
          have hall : Hid ((∀ i, i < 4 → bytesB (M.ram.getD i []) 64 = true) → okM M = true) := ok_all hb1 h4 hp hs
          have hs1 : ((M.screen != 1) && (M.screen != 3)) = false := by
            rcases hs with hs | hs <;> simp [hs]
          have hs2 : M.screen = 1 ∨ (M.screen != 1) = true ∧ (M.screen != 3) = false := by
            rcases hs with hs | hs
            · exact .inl hs
            · exact .inr (by simp [hs])
          have h4n := hid h4
          clear h4 hs hs1
          generalize M.screen = sc at *
          rcases hs2 with rfl | ⟨hs3, hs4⟩
          all_goals
            go_enter Tryd.func85, Tryd.ntmps85
            go_wp2_with (first | (go_at_call 68; refine (bytes_spec _ M.rom 64 _ (k1.out _) hl (by omega)).mono ?_; rintro e w' ⟨rfl, rfl⟩; rw [hb1]) | (go_at_call 76; refine (in_spec _ _ _ _).mono ?_; rintro e w' ⟨rfl, rfl⟩; rw [hp]))
            go_loop [3] (fun i => ∃ k : Nat, k ≤ 4 ∧ i = .int .i64 k ∧ ∀ j, j < k → bytesB (M.ram.getD j []) 64 = true) (fun i => 4 - (intOf i).toNat)
            case atStart => exact ⟨0, by omega, rfl, fun j hj => by omega⟩
            case round =>
              obtain ⟨k, hk, rfl, hj⟩ := hrel
              by_cases hlt : k < 4
              · have hh := k2.out.disj
                obtain ⟨b, off, a3, p3, rfl, c1, r1⟩ := rows_some hh (k := k) (by have := h4n.out; omega)
                have hbl := World.block_lt_of_cell? w _ c1
                dsimp only at hbl
                have hrl := hr.out k (by have := h4n.out; omega)
                have hlt2 : k < M.ram.length := by have := h4n.out; omega
                replace r1 := hid r1
                cases hb : bytesB (M.ram.getD k []) 64
                · have hE := hid (hno.out k hlt hb)
                  clear hj hno hall hh
                  generalize M.ram.getD k [] = z at *
                  go_wp2_with (go_at_call 68; refine (bytes_spec _ z 64 _ (r1.out.below (hB.out _)) hrl (by omega)).mono ?_; rintro e w' ⟨rfl, rfl⟩; rw [hb])
                  go_ret
                  exact ⟨ret_bool hE.out.symm, hB.out _⟩
                · have hj2 : Hid (∀ j, j < k + 1 → bytesB (M.ram.getD j []) 64 = true) := fun j hj1 => by
                    by_cases e : j = k
                    · rw [e]; exact hb
                    · exact hj j (by omega)
                  clear hj hno hall hh
                  generalize M.ram.getD k [] = z at *
                  go_wp2_with (go_at_call 68; refine (bytes_spec _ z 64 _ (r1.out.below (hB.out _)) hrl (by omega)).mono ?_; rintro e w' ⟨rfl, rfl⟩; rw [hb])
                  go_round
                  case rel => exact ⟨k + 1, by omega, by go_num, hj2.out⟩
                  case measure => simp [intOf]; omega
              · obtain rfl : k = 4 := by omega
                have hE := hid (hall.out hj)
                clear hj hno hall
                go_wp2
                go_ret
                exact ⟨ret_bool hE.out.symm, hB.out _⟩
        · rw [okM_false (.inr (.inr (.inr hs)))]
          have h4' : ((M.ram.length : Int) != 4) = false := by simp; omega
          have hs1 : (M.screen != 1) = true := by simp; exact fun e => hs (.inl e)
          have hs2 : (M.screen != 3) = true := by simp; exact fun e => hs (.inr e)
          clear h4 hs
          go_enter Tryd.func85, Tryd.ntmps85
          go_wp2_with (first | (go_at_call 68; refine (bytes_spec _ M.rom 64 _ (k1.out _) hl (by omega)).mono ?_; rintro e w' ⟨rfl, rfl⟩; rw [hb1]) | (go_at_call 76; refine (in_spec _ _ _ _).mono ?_; rintro e w' ⟨rfl, rfl⟩; rw [hp]))
          go_ret
          exact ⟨rfl, hB.out _⟩
    · rw [okM_false (.inr (.inl h4))]
      have h4' : ((M.ram.length : Int) != 4) = true := by simp; omega
      clear h4
      go_enter Tryd.func85, Tryd.ntmps85
      go_wp2_with (go_at_call 68; refine (bytes_spec _ M.rom 64 _ (k1.out _) hl (by omega)).mono ?_; rintro e w' ⟨rfl, rfl⟩; rw [hb1])
      go_ret
      exact ⟨rfl, hB.out _⟩
end Go.Proofs.YtneagomkohoceabDoor
