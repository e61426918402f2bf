/- What the specification says of a memory that is right, and of what is asked of one. -/
import Derived.Test.YtgpmpfikeindfaaGreatDoorV00
import Derived.Deep.Cut
namespace Go.Proofs.YtgpmpfikeindfaaGreatDoor
open Go.ChangeShapes Go.WideShapes Go.ChangeAt Go.RowKit
set_option linter.unusedVariables false

/-- so many bytes -/
def bytesB (zs : List Int) (n : Nat) : Bool := zs.all (fun z => inB z 0 255) && decide (zs.length = n)
/-- a memory that is right -/
def okM (M : Mem) : Bool := bytesB M.rom 64 && decide (M.ram.length = 4) && inB M.page 0 3 && (decide (M.screen = 1) || decide (M.screen = 3)) && M.ram.all (fun r => bytesB r 64)
theorem bytes_no {zs : List Int} {k n : Nat} (hk : k < zs.length) (h : inB (zs.getD k 0) 0 255 = false) : bytesB zs n = false := by
  unfold bytesB
  rw [Bool.and_eq_false_iff]
  left
  rw [List.all_eq_false]
  refine ⟨zs[k], List.getElem_mem hk, ?_⟩
  rw [List.getD_eq_getElem?_getD, List.getElem?_eq_getElem hk] at h
  simpa using h
theorem bytes_all {zs : List Int} {n : Nat} (h : ∀ i, i < zs.length → inB (zs.getD i 0) 0 255 = true) : bytesB zs n = decide (zs.length = n) := by
  unfold bytesB
  have : zs.all (fun z => inB z 0 255) = true := by
    rw [List.all_eq_true]
    intro z hz
    obtain ⟨i, hi, rfl⟩ := List.mem_iff_getElem.1 hz
    have := h i hi
    simpa [List.getD_eq_getElem?_getD, List.getElem?_eq_getElem hi] using this
  rw [this, Bool.true_and]
theorem bytes_len {zs : List Int} {n : Nat} (h : bytesB zs n = true) : zs.length = n := by
  unfold bytesB at h
  simp at h
  exact h.2
theorem bytes_at {zs : List Int} {n i : Nat} (h : bytesB zs n = true) (hi : i < zs.length) : inB (zs.getD i 0) 0 255 = true := by
  cases e : inB (zs.getD i 0) 0 255
  · rw [bytes_no hi e] at h
    cases h
  · rfl
theorem bytes_bd {zs : List Int} {n i : Nat} (h : bytesB zs n = true) (hi : i < zs.length) : 0 ≤ zs.getD i 0 ∧ zs.getD i 0 ≤ 255 := by
  have := bytes_at h hi
  simpa [inB] using this
theorem ok_parts {M : Mem} (h : okM M = true) : bytesB M.rom 64 = true ∧ M.ram.length = 4 ∧ (0 ≤ M.page ∧ M.page ≤ 3) ∧ (M.screen = 1 ∨ M.screen = 3) ∧ ∀ i, i < M.ram.length → bytesB (M.ram.getD i []) 64 = true := by
  unfold okM at h
  simp only [Bool.and_eq_true, Bool.or_eq_true, decide_eq_true_eq] at h
  obtain ⟨⟨⟨⟨h1, h2⟩, h3⟩, h4⟩, h5⟩ := h
  refine ⟨h1, h2, by simpa [inB] using h3, h4, fun i hi => ?_⟩
  rw [List.all_eq_true] at h5
  have := h5 _ (List.getElem_mem hi)
  simpa [List.getD_eq_getElem?_getD, List.getElem?_eq_getElem hi] using this
theorem ram_no {M : Mem} {k : Nat} (hk : k < M.ram.length) (h : bytesB (M.ram.getD k []) 64 = false) : okM M = false := by
  cases e : okM M
  · rfl
  · have := (ok_parts e).2.2.2.2 k hk
    rw [h] at this
    cases this
theorem ok_all {M : Mem} (h1 : bytesB M.rom 64 = true) (h2 : M.ram.length = 4) (h3 : inB M.page 0 3 = true) (h4 : M.screen = 1 ∨ M.screen = 3) (h5 : ∀ i, i < 4 → bytesB (M.ram.getD i []) 64 = true) : okM M = true := by
  unfold okM
  simp only [Bool.and_eq_true, Bool.or_eq_true, decide_eq_true_eq]
  refine ⟨⟨⟨⟨h1, h2⟩, h3⟩, h4⟩, ?_⟩
  rw [List.all_eq_true]
  intro z hz
  obtain ⟨i, hi, rfl⟩ := List.mem_iff_getElem.1 hz
  have := h5 i (by omega)
  simpa [List.getD_eq_getElem?_getD, List.getElem?_eq_getElem hi] using this
theorem okM_false {M : Mem} (h : bytesB M.rom 64 = false ∨ ¬ M.ram.length = 4 ∨ inB M.page 0 3 = false ∨ ¬ (M.screen = 1 ∨ M.screen = 3)) : okM M = false := by
  cases e : okM M
  · rfl
  · obtain ⟨h1, h2, h3, h4, _⟩ := ok_parts e
    rcases h with h | h | h | h
    · rw [h1] at h; cases h
    · exact absurd h2 h
    · rw [in_yes h3.1 h3.2] at h; cases h
    · exact absurd h4 h
theorem MemR.form {w : World} {v : Value} {M : Mem} (h : MemR w v M) : ∃ a1 p1 a2 p2, v = memV (.slice a1 M.rom.length p1) (.slice a2 M.ram.length p2) M.page M.screen M.locked ∧ RowR w (.slice a1 M.rom.length p1) M.rom ∧ RowsR w (.slice a2 M.ram.length p2) M.ram := by
  obtain ⟨vr, vm, rfl, h1, h2⟩ := h
  obtain ⟨a1, p1, rfl, _⟩ := id h1
  obtain ⟨a2, p2, rfl, _⟩ := id h2
  exact ⟨a1, p1, a2, p2, rfl, h1, h2⟩

theorem byteM_spec (v : Int) (w : World) : Calls Tryz.prog 24 #[.int .i64 v] w fun e w' => e = .returned (.bool (inB v 0 255)) ∧ w' = w := by
  go_enter Tryz.func24, Tryz.ntmps24
  go_wp2_with (go_at_call 47; refine (in_spec _ _ _ _).mono ?_; rintro e w' ⟨rfl, rfl⟩)
  go_ret
  exact ⟨rfl, rfl⟩
set_option maxRecDepth 100000 in
theorem bytes_spec (v : Value) (zs : List Int) (n : Nat) (w : World) (h : RowR w v zs) (hl : zs.length ≤ 1000000000) (hn : n ≤ 1000000000) :
    Calls Tryz.prog 103 #[v, .int .i64 n] w fun e w' => e = .returned (.bool (bytesB zs n)) ∧ w' = w := by
  obtain ⟨a, cap, rfl, h⟩ := h
  replace h := hid h
  have hno : Hid (∀ k, k < zs.length → inB (zs.getD k 0) 0 255 = false → bytesB zs n = false) := fun k hk => bytes_no hk
  have hall : Hid ((∀ i, i < zs.length → inB (zs.getD i 0) 0 255 = true) → bytesB zs n = decide (zs.length = n)) := bytes_all
  go_enter Tryz.func103, Tryz.ntmps103
  go_wp2
  go_loop [5] (fun i => ∃ k : Nat, k ≤ zs.length ∧ i = .int .i64 k ∧ ∀ j, j < k → inB (zs.getD j 0) 0 255 = true) (fun i => zs.length - (intOf i).toNat)
  case atStart => exact ⟨0, by omega, rfl, fun j hj => by omega⟩
  case round =>
    obtain ⟨k, hk, rfl, hj⟩ := hrel
    by_cases hlt : k < zs.length
    · obtain ⟨b, off, rfl, c1⟩ := row_some h.out hlt
      cases hb : inB (zs.getD k 0) 0 255
      · have hE := hid (hno.out k hlt hb)
        clear h hj hno hall
        generalize zs.getD k 0 = z at *
        go_wp2_with (go_at_call 24; refine (byteM_spec _ _).mono ?_; rintro e w' ⟨rfl, rfl⟩; rw [hb])
        go_ret
        exact ⟨ret_bool hE.out.symm, rfl⟩
      · have hj2 : Hid (∀ j, j < k + 1 → inB (zs.getD j 0) 0 255 = true) := fun j hj1 => by
          by_cases e : j = k
          · rw [e]; exact hb
          · exact hj j (by omega)
        clear h hj hno hall
        generalize zs.getD k 0 = z at *
        go_wp2_with (go_at_call 24; refine (byteM_spec _ _).mono ?_; rintro e w' ⟨rfl, rfl⟩; rw [hb])
        go_round
        case rel => exact ⟨k + 1, by omega, by go_num, hj2.out⟩
        case measure => simp [intOf]; omega
    · obtain rfl : k = zs.length := by omega
      have hE := hid (hall.out hj)
      clear hj h hno hall
      go_wp2
      go_ret
      exact ⟨ret_bool (by rw [hE.out, Bool.eq_iff_iff]; simp; omega), rfl⟩
set_option maxRecDepth 100000 in
theorem ok_spec (v : Value) (M : Mem) (w : World) (h : MemR w v M) (hl : M.rom.length ≤ 1000000000) (hm : M.ram.length ≤ 1000000000) (hr : ∀ i, i < M.ram.length → (M.ram.getD i []).length ≤ 1000000000) :
    Calls Tryz.prog 46 #[v] w fun e w' => e = .returned (.bool (okM M)) ∧ Below w.heap.size w w' := by
  obtain ⟨a1, p1, a2, p2, rfl, h1, h2⟩ := h.form
  have hB : Hid (∀ o, Below w.heap.size w (w.alloc o)) := fun o => (Below.refl _ _).alloc (Nat.le_refl _) _
  have k1 : Hid (∀ o, RowR (w.alloc o) (.slice a1 M.rom.length p1) M.rom) := fun o => h1.below (hB.out o)
  have k2 : Hid (RowsR w (.slice a2 M.ram.length p2) M.ram) := h2
  replace hr := hid hr
  clear h h1 h2
  cases hb1 : bytesB M.rom 64
  · rw [okM_false (.inl hb1)]
    go_enter Tryz.func46, Tryz.ntmps46
    go_wp2_with (go_at_call 103; refine (bytes_spec _ M.rom 64 _ (k1.out _) hl (by omega)).mono ?_; rintro e w' ⟨rfl, rfl⟩; rw [hb1])
    go_ret
    exact ⟨rfl, hB.out _⟩
  · by_cases h4 : M.ram.length = 4
    · cases hp : inB M.page 0 3
      · rw [okM_false (.inr (.inr (.inl hp)))]
        have h4' : ((M.ram.length : Int) != 4) = false := by simp; omega
        clear h4
        go_enter Tryz.func46, Tryz.ntmps46
        go_wp2_with (first | (go_at_call 103; refine (bytes_spec _ M.rom 64 _ (k1.out _) hl (by omega)).mono ?_; rintro e w' ⟨rfl, rfl⟩; rw [hb1]) | (go_at_call 47; refine (in_spec _ _ _ _).mono ?_; rintro e w' ⟨rfl, rfl⟩; rw [hp]))
        go_ret
        exact ⟨rfl, hB.out _⟩
      · by_cases hs : M.screen = 1 ∨ M.screen = 3
        · have h4' : ((M.ram.length : Int) != 4) = false := by simp; omega
          have hno : Hid (∀ k, k < 4 → bytesB (M.ram.getD k []) 64 = false → okM M = false) := fun k hk => ram_no (by omega)
          have hall : Hid ((∀ i, i < 4 → bytesB (M.ram.getD i []) 64 = true) → okM M = true) := ok_all hb1 h4 hp hs
          have hs1 : ((M.screen != 1) && (M.screen != 3)) = false := by
            rcases hs with hs | hs <;> simp [hs]
          have hs2 : M.screen = 1 ∨ (M.screen != 1) = true ∧ (M.screen != 3) = false := by
            rcases hs with hs | hs
            · exact .inl hs
            · exact .inr (by simp [hs])
          have h4n := hid h4
          clear h4 hs hs1
          generalize M.screen = sc at *
          rcases hs2 with rfl | ⟨hs3, hs4⟩
          all_goals
            go_enter Tryz.func46, Tryz.ntmps46
            go_wp2_with (first | (go_at_call 103; refine (bytes_spec _ M.rom 64 _ (k1.out _) hl (by omega)).mono ?_; rintro e w' ⟨rfl, rfl⟩; rw [hb1]) | (go_at_call 47; refine (in_spec _ _ _ _).mono ?_; rintro e w' ⟨rfl, rfl⟩; rw [hp]))
            go_loop [3] (fun i => ∃ k : Nat, k ≤ 4 ∧ i = .int .i64 k ∧ ∀ j, j < k → bytesB (M.ram.getD j []) 64 = true) (fun i => 4 - (intOf i).toNat)
            case atStart => exact ⟨0, by omega, rfl, fun j hj => by omega⟩
            case round =>
              obtain ⟨k, hk, rfl, hj⟩ := hrel
              by_cases hlt : k < 4
              · have hh := k2.out.disj
                obtain ⟨b, off, a3, p3, rfl, c1, r1⟩ := rows_some hh (k := k) (by have := h4n.out; omega)
                have hbl := World.block_lt_of_cell? w _ c1
                dsimp only at hbl
                have hrl := hr.out k (by have := h4n.out; omega)
                have hlt2 : k < M.ram.length := by have := h4n.out; omega
                replace r1 := hid r1
                cases hb : bytesB (M.ram.getD k []) 64
                · have hE := hid (hno.out k hlt hb)
                  clear hj hno hall hh
                  generalize M.ram.getD k [] = z at *
                  go_wp2_with (go_at_call 103; refine (bytes_spec _ z 64 _ (r1.out.below (hB.out _)) hrl (by omega)).mono ?_; rintro e w' ⟨rfl, rfl⟩; rw [hb])
                  go_ret
                  exact ⟨ret_bool hE.out.symm, hB.out _⟩
                · have hj2 : Hid (∀ j, j < k + 1 → bytesB (M.ram.getD j []) 64 = true) := fun j hj1 => by
                    by_cases e : j = k
                    · rw [e]; exact hb
                    · exact hj j (by omega)
                  clear hj hno hall hh
                  generalize M.ram.getD k [] = z at *
                  go_wp2_with (go_at_call 103; refine (bytes_spec _ z 64 _ (r1.out.below (hB.out _)) hrl (by omega)).mono ?_; rintro e w' ⟨rfl, rfl⟩; rw [hb])
                  go_round
                  case rel => exact ⟨k + 1, by omega, by go_num, hj2.out⟩
                  case measure => simp [intOf]; omega
              · obtain rfl : k = 4 := by omega
                have hE := hid (hall.out hj)
                clear hj hno hall
                go_wp2
                go_ret
                exact ⟨ret_bool hE.out.symm, hB.out _⟩
        · rw [okM_false (.inr (.inr (.inr hs)))]
          have h4' : ((M.ram.length : Int) != 4) = false := by simp; omega
          have hs1 : (M.screen != 1) = true := by simp; exact fun e => hs (.inl e)
          have hs2 : (M.screen != 3) = true := by simp; exact fun e => hs (.inr e)
          clear h4 hs
          go_enter Tryz.func46, Tryz.ntmps46
          go_wp2_with (first | (go_at_call 103; refine (bytes_spec _ M.rom 64 _ (k1.out _) hl (by omega)).mono ?_; rintro e w' ⟨rfl, rfl⟩; rw [hb1]) | (go_at_call 47; refine (in_spec _ _ _ _).mono ?_; rintro e w' ⟨rfl, rfl⟩; rw [hp]))
          go_ret
          exact ⟨rfl, hB.out _⟩
    · rw [okM_false (.inr (.inl h4))]
      have h4' : ((M.ram.length : Int) != 4) = true := by simp; omega
      clear h4
      go_enter Tryz.func46, Tryz.ntmps46
      go_wp2_with (go_at_call 103; refine (bytes_spec _ M.rom 64 _ (k1.out _) hl (by omega)).mono ?_; rintro e w' ⟨rfl, rfl⟩; rw [hb1])
      go_ret
      exact ⟨rfl, hB.out _⟩
end Go.Proofs.YtgpmpfikeindfaaGreatDoor

/- What the specification says of a processor that is right. -/
namespace Go.Proofs.YtgpmpfikeindfaaGreatDoor
open Go.ChangeShapes Go.WideShapes Go.ChangeAt Go.RowKit
set_option linter.unusedVariables false
set_option linter.unusedSimpArgs false

/-- a processor as it comes in: any numbers -/
structure Cu where
  r0 : Int
  r1 : Int
  r2 : Int
  r3 : Int
  r4 : Int
  r5 : Int
  r6 : Int
  r7 : Int
  f : Int
  sp : Int
  pc : Int
  iff : Bool
  ei : Bool
  halt : Bool
abbrev cuA (c : Cu) : Array Value := #[.int .i64 c.r0, .int .i64 c.r1, .int .i64 c.r2, .int .i64 c.r3, .int .i64 c.r4, .int .i64 c.r5, .int .i64 c.r6, .int .i64 c.r7, .int .i64 c.f, .int .i64 c.sp, .int .i64 c.pc, .bool c.iff, .bool c.ei, .bool c.halt]
abbrev cuV (c : Cu) : Value := .agg (cuA c)
def Cu.reg (c : Cu) : Nat → Int
  | 0 => c.r0
  | 1 => c.r1
  | 2 => c.r2
  | 3 => c.r3
  | 4 => c.r4
  | 5 => c.r5
  | 6 => c.r6
  | _ => c.r7
def regsB (c : Cu) : Bool := (List.range 8).all (fun i => inB (c.reg i) 0 255)
def okC (c : Cu) : Bool := regsB c && decide (c.r6 = 0) && inB c.f 0 255 && inB c.sp 0 255 && inB c.pc 0 255 && (!c.ei || c.iff)
theorem regs_no {c : Cu} {k : Nat} (hk : k < 8) (h : inB (c.reg k) 0 255 = false) : okC c = false := by
  have : regsB c = false := by
    unfold regsB
    rw [List.all_eq_false]
    exact ⟨k, List.mem_range.2 hk, by simp [h]⟩
  simp [okC, this]
theorem regs_all {c : Cu} (h : ∀ i, i < 8 → inB (c.reg i) 0 255 = true) : regsB c = true := by
  unfold regsB
  rw [List.all_eq_true]
  exact fun i hi => h i (List.mem_range.1 hi)
set_option maxRecDepth 100000 in
set_option maxHeartbeats 1000000 in
theorem cpuok_spec (c : Cu) (w : World) : Calls Tryz.prog 45 #[cuV c] w fun e w' => e = .returned (.bool (okC c)) ∧ Below w.heap.size w w' := by
  have hno : Hid (∀ k, k < 8 → inB (c.reg k) 0 255 = false → okC c = false) := fun k hk => regs_no hk
  have hall : Hid ((∀ i, i < 8 → inB (c.reg i) 0 255 = true) → okC c = (decide (c.r6 = 0) && inB c.f 0 255 && inB c.sp 0 255 && inB c.pc 0 255 && (!c.ei || c.iff))) := fun h => by unfold okC; rw [regs_all h, Bool.true_and]
  have hB := hid ((Below.refl w.heap.size w).alloc (Nat.le_refl _) (.cells (cuA c) 25))
  have q1 := (Blk.new w (cuA c) 25).cell
  obtain ⟨Q, hQ⟩ : ∃ Q, okC c = Q := ⟨_, rfl⟩
  rw [hQ] at hno hall ⊢
  clear hQ
  go_enter Tryz.func45, Tryz.ntmps45
  go_upto_region 1 with fail
  obtain ⟨V, hV⟩ : ∃ V, w.alloc (Obj.cells (cuA c) 25) = V := ⟨_, rfl⟩
  rw [hV] at hB q1 ⊢
  clear hV
  go_wp2
  go_loop [3] (fun i => ∃ k : Nat, k ≤ 8 ∧ i = .int .i64 k ∧ ∀ j, j < k → inB (c.reg j) 0 255 = true) (fun i => 8 - (intOf i).toNat)
  case atStart => exact ⟨0, by omega, rfl, fun j hj => by omega⟩
  case round =>
    obtain ⟨k, hk, rfl, hj⟩ := hrel
    by_cases hlt : k < 8
    · have hk8 : k = 0 ∨ k = 1 ∨ k = 2 ∨ k = 3 ∨ k = 4 ∨ k = 5 ∨ k = 6 ∨ k = 7 := by omega
      cases hb : inB (c.reg k) 0 255
      · have hE := hid (hno.out k hlt hb)
        clear hj hno hall hk hlt
        rcases hk8 with rfl | rfl | rfl | rfl | rfl | rfl | rfl | rfl
        all_goals
          simp only [Cu.reg] at hb
          go_wp2_with (go_at_call 24; refine (byteM_spec _ _).mono ?_; rintro e w' ⟨rfl, rfl⟩; rw [hb])
          go_ret
          exact ⟨ret_bool hE.out.symm, hB.out⟩
      · have hj2 : Hid (∀ j, j < k + 1 → inB (c.reg j) 0 255 = true) := fun j hj1 => by
          by_cases e : j = k
          · rw [e]; exact hb
          · exact hj j (by omega)
        clear hj hno hall hk hlt
        rcases hk8 with rfl | rfl | rfl | rfl | rfl | rfl | rfl | rfl
        all_goals
          simp only [Cu.reg] at hb
          go_wp2_with (go_at_call 24; refine (byteM_spec _ _).mono ?_; rintro e w' ⟨rfl, rfl⟩; rw [hb])
          go_round
          case rel => exact ⟨_, by omega, by go_num, hj2.out⟩
          case measure => simp [intOf]
    · obtain rfl : k = 8 := by omega
      have hE := hall.out hj
      clear hj hno hall hk hlt
      by_cases h6 : c.r6 = 0
      · have h62 : (c.r6 == 0) = true := by simp [h6]
        rw [decide_eq_true h6, Bool.true_and] at hE
        clear h6
        cases h1 : inB c.f 0 255
        · rw [h1] at hE
          replace hE := hid hE
          go_wp2_with (go_at_call 24; refine (byteM_spec _ _).mono ?_; rintro e w' ⟨rfl, rfl⟩; rw [h1])
          go_ret
          exact ⟨ret_bool (by rw [hE.out]; rfl), hB.out⟩
        · cases h2 : inB c.sp 0 255
          · rw [h1, h2] at hE
            replace hE := hid hE
            go_wp2_with (go_at_call 24; refine (byteM_spec _ _).mono ?_; rintro e w' ⟨rfl, rfl⟩; first | rw [h1] | rw [h2])
            go_ret
            exact ⟨ret_bool (by rw [hE.out]; rfl), hB.out⟩
          · cases h3 : inB c.pc 0 255
            · rw [h1, h2, h3] at hE
              replace hE := hid hE
              go_wp2_with (go_at_call 24; refine (byteM_spec _ _).mono ?_; rintro e w' ⟨rfl, rfl⟩; first | rw [h1] | rw [h2] | rw [h3])
              go_ret
              exact ⟨ret_bool (by rw [hE.out]; rfl), hB.out⟩
            · rw [h1, h2, h3] at hE
              cases h4 : c.ei
              · rw [h4] at hE
                replace hE := hid hE
                go_wp2_with (go_at_call 24; refine (byteM_spec _ _).mono ?_; rintro e w' ⟨rfl, rfl⟩; first | rw [h1] | rw [h2] | rw [h3])
                go_ret
                exact ⟨ret_bool (by rw [hE.out]; rfl), hB.out⟩
              · rw [h4] at hE
                replace hE := hid hE
                go_wp2_with (go_at_call 24; refine (byteM_spec _ _).mono ?_; rintro e w' ⟨rfl, rfl⟩; first | rw [h1] | rw [h2] | rw [h3])
                go_ret
                exact ⟨ret_bool (by rw [hE.out]; simp), hB.out⟩
      · have h62 : (c.r6 == 0) = false := by simp [h6]
        rw [decide_eq_false h6, Bool.false_and, Bool.false_and, Bool.false_and, Bool.false_and] at hE
        replace hE := hid hE
        clear h6
        go_wp2
        go_ret
        exact ⟨ret_bool (by rw [hE.out]), hB.out⟩
end Go.Proofs.YtgpmpfikeindfaaGreatDoor
