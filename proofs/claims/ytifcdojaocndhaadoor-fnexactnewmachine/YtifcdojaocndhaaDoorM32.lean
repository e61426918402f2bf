/- What the program's banks answer: a bank of numbers, whether it is whole, what is shown. -/
import Derived.Test.YtifcdojaocndhaaDoorM02
import Derived.Test.YtifcdojaocndhaaDoorM14
import Derived.OwnWalk
import Derived.Deep.RegionWith
namespace Go.Proofs.YtifcdojaocndhaaDoor
open Go.ChangeShapes Go.WideShapes Go.ChangeAt Go.RowKit
set_option linter.unusedVariables false
set_option linter.unusedSimpArgs false

theorem byte_impl (v : Int) (w : World) : Calls Tryd.prog 68 #[.int .i64 v] w fun e w' => e = .returned (.bool (inB v 0 255)) ∧ w' = w := by
  go_enter Tryd.func68, Tryd.ntmps68
  go_wp2
  all_goals go_ret
  all_goals exact ⟨ret_bool (by rw [Bool.eq_iff_iff]; simp [inB]; try omega), rfl⟩
theorem within_impl (n a b : Int) (w : World) : Calls Tryd.prog 114 #[.int .i64 n, .int .i64 a, .int .i64 b] w fun e w' => e = .returned (.bool (inB n a b)) ∧ w' = w := by
  go_enter Tryd.func114, Tryd.ntmps114
  go_wp2
  all_goals go_ret
  all_goals exact ⟨ret_bool (by rw [Bool.eq_iff_iff]; simp [inB]; try omega), rfl⟩
theorem screen_impl (n : Int) (w : World) : Calls Tryd.prog 147 #[.int .i64 n] w fun e w' => e = .returned (.bool (decide (n = 1 ∨ n = 3))) ∧ w' = w := by
  go_enter Tryd.func147, Tryd.ntmps147
  go_wp2
  all_goals go_ret
  all_goals exact ⟨ret_bool (by rw [Bool.eq_iff_iff]; simp; try omega), rfl⟩
theorem bankOf_impl (a : Option Addr) (n c : Nat) (w : World) : Calls Tryd.prog 167 #[.slice a n c] w fun e w' => e = .returned (.pointer (some ⟨w.heap.size, 0, none⟩)) ∧ w' = w.alloc (.cells #[.slice a n c] 123) := by
  go_enter Tryd.func167, Tryd.ntmps167
  go_wp2
  go_ret
  exact ⟨rfl, rfl⟩
set_option maxRecDepth 100000 in
theorem whole_impl (p : Nat) (a : Option Addr) (cap : Nat) (zs : List Int) (n : Nat) (w : World) (hp : w.cell? ⟨p, 0, none⟩ = some (.slice a zs.length cap)) (h : RowR w (.slice a zs.length cap) zs) (hl : zs.length ≤ 1000000000) (hn : n ≤ 1000000000) :
    Calls Tryd.prog 168 #[.pointer (some ⟨p, 0, none⟩), .int .i64 n] w fun e w' => e = .returned (.bool (bytesB zs n)) ∧ w' = w := by
  replace h := hid h.disj
  by_cases hne : zs.length = n
  · have hno : Hid (∀ k, k < zs.length → inB (zs.getD k 0) 0 255 = false → bytesB zs n = false) := fun k hk => bytes_no hk
    have hall : Hid ((∀ i, i < zs.length → inB (zs.getD i 0) 0 255 = true) → bytesB zs n = true) := fun h => by rw [bytes_all h]; exact decide_eq_true hne
    have hne2 : ((zs.length : Int) != (n : Int)) = false := by simp; omega
    replace hne := hid hne
    go_enter Tryd.func168, Tryd.ntmps168
    go_wp2
    go_loop [19] (fun i => ∃ k : Nat, k ≤ zs.length ∧ i = .int .i64 k ∧ ∀ j, j < k → inB (zs.getD j 0) 0 255 = true) (fun i => zs.length - (intOf i).toNat)
    case atStart => exact ⟨0, by omega, rfl, fun j hj => by omega⟩
    case round =>
      obtain ⟨k, hk, rfl, hj⟩ := hrel
      by_cases hlt : k < zs.length
      · obtain ⟨b, off, rfl, c1⟩ := row_some h.out hlt
        cases hb : inB (zs.getD k 0) 0 255
        · have hE := hid (hno.out k hlt hb)
          clear h hj hno hall
          generalize zs.getD k 0 = z at *
          go_wp2_with (go_at_call 68; refine (byte_impl _ _).mono ?_; rintro e w' ⟨rfl, rfl⟩; rw [hb])
          go_ret
          exact ⟨ret_bool hE.out.symm, rfl⟩
        · have hj2 : Hid (∀ j, j < k + 1 → inB (zs.getD j 0) 0 255 = true) := fun j hj1 => by
            by_cases e : j = k
            · rw [e]; exact hb
            · exact hj j (by omega)
          clear h hj hno hall
          generalize zs.getD k 0 = z at *
          go_wp2_with (go_at_call 68; refine (byte_impl _ _).mono ?_; rintro e w' ⟨rfl, rfl⟩; rw [hb])
          go_round
          case rel => exact ⟨k + 1, by omega, by go_num, hj2.out⟩
          case measure => simp [intOf]; omega
      · obtain rfl : k = zs.length := by omega
        have hE := hid (hall.out hj)
        clear hj h hno hall
        go_wp2
        go_ret
        exact ⟨ret_bool hE.out.symm, rfl⟩
  · have e : bytesB zs n = false := by unfold bytesB; rw [decide_eq_false hne, Bool.and_false]
    have hne2 : ((zs.length : Int) != (n : Int)) = true := by simp; omega
    rw [e]
    clear e hne
    go_enter Tryd.func168, Tryd.ntmps168
    go_wp2
    go_ret
    exact ⟨rfl, rfl⟩
theorem banks_impl (a1 a2 : Option Addr) (n1 p1 n2 p2 : Nat) (pg sc : Int) (l : Bool) (w : World) :
    Calls Tryd.prog 169 #[memV (.slice a1 n1 p1) (.slice a2 n2 p2) pg sc l] w fun e w' => e = .returned (.agg #[.int .i64 (-1), .int .i64 1, .int .i64 2, .int .i64 pg]) ∧ Below w.heap.size w w' := by
  go_enter Tryd.func169, Tryd.ntmps169
  go_wp2
  refine bodyPost_ret (v := .agg #[.int .i64 (-1), .int .i64 1, .int .i64 2, .int .i64 pg]) (by simp [results, Tryd.results169, go_sem]) rfl ⟨rfl, ?_⟩
  exact ((Below.refl _ _).alloc (Nat.le_refl _) _).alloc (by simp) _
theorem bank_impl (a1 a2 : Option Addr) (n1 p1 n2 p2 : Nat) (pg sc : Int) (l : Bool) (a : Int) (w : World) (h0 : 0 ≤ a) (h1 : a ≤ 255) :
    Calls Tryd.prog 148 #[memV (.slice a1 n1 p1) (.slice a2 n2 p2) pg sc l, .int .i64 a] w fun e w' => e = .returned (.int .i64 (bankI pg a)) ∧ Below w.heap.size w w' := by
  have hB : Hid (∀ o, Below w.heap.size w (w.alloc o)) := fun o => (Below.refl _ _).alloc (Nat.le_refl _) _
  have h4 : a / 64 = 0 ∨ a / 64 = 1 ∨ a / 64 = 2 ∨ a / 64 = 3 := by omega
  have e : (a / 64 = 0 → bankI pg a = -1) ∧ (a / 64 = 1 → bankI pg a = 1) ∧ (a / 64 = 2 → bankI pg a = 2) ∧ (a / 64 = 3 → bankI pg a = pg) := by
    unfold bankI
    refine ⟨fun h => ?_, fun h => ?_, fun h => ?_, fun h => ?_⟩
    · rw [if_pos (by omega)]
    · rw [if_neg (by omega), if_pos (by omega)]
    · rw [if_neg (by omega), if_neg (by omega), if_pos (by omega)]
    · rw [if_neg (by omega), if_neg (by omega), if_neg (by omega)]
  have i0 : ∀ w : World, (Instr.index 188 (.agg #[.int .i64 (-1), .int .i64 1, .int .i64 2, .int .i64 pg]) (.int .i64 0)).run Tryd.prog w = .ok (.int .i64 (-1)) w := fun _ => by kernel_rfl
  have i1 : ∀ w : World, (Instr.index 188 (.agg #[.int .i64 (-1), .int .i64 1, .int .i64 2, .int .i64 pg]) (.int .i64 1)).run Tryd.prog w = .ok (.int .i64 1) w := fun _ => by kernel_rfl
  have i2 : ∀ w : World, (Instr.index 188 (.agg #[.int .i64 (-1), .int .i64 1, .int .i64 2, .int .i64 pg]) (.int .i64 2)).run Tryd.prog w = .ok (.int .i64 2) w := fun _ => by kernel_rfl
  have i3 : ∀ w : World, (Instr.index 188 (.agg #[.int .i64 (-1), .int .i64 1, .int .i64 2, .int .i64 pg]) (.int .i64 3)).run Tryd.prog w = .ok (.int .i64 pg) w := fun _ => by kernel_rfl
  rcases h4 with h4 | h4 | h4 | h4
  · rw [e.1 h4]
    clear e
    go_enter Tryd.func148, Tryd.ntmps148
    go_wp2_with (go_at_call 169; refine (banks_impl _ _ _ _ _ _ _ _ _ _).mono ?_; rintro e w1 ⟨rfl, hb1⟩; replace hb1 := hid hb1)
    go_ret
    exact ⟨rfl, new_trans (hB.out _) hb1.out⟩
  · rw [e.2.1 h4]
    clear e
    go_enter Tryd.func148, Tryd.ntmps148
    go_wp2_with (go_at_call 169; refine (banks_impl _ _ _ _ _ _ _ _ _ _).mono ?_; rintro e w1 ⟨rfl, hb1⟩; replace hb1 := hid hb1)
    go_ret
    exact ⟨rfl, new_trans (hB.out _) hb1.out⟩
  · rw [e.2.2.1 h4]
    clear e
    go_enter Tryd.func148, Tryd.ntmps148
    go_wp2_with (go_at_call 169; refine (banks_impl _ _ _ _ _ _ _ _ _ _).mono ?_; rintro e w1 ⟨rfl, hb1⟩; replace hb1 := hid hb1)
    go_ret
    exact ⟨rfl, new_trans (hB.out _) hb1.out⟩
  · rw [e.2.2.2 h4]
    clear e
    go_enter Tryd.func148, Tryd.ntmps148
    go_wp2_with (go_at_call 169; refine (banks_impl _ _ _ _ _ _ _ _ _ _).mono ?_; rintro e w1 ⟨rfl, hb1⟩; replace hb1 := hid hb1)
    go_ret
    exact ⟨rfl, new_trans (hB.out _) hb1.out⟩
end Go.Proofs.YtifcdojaocndhaaDoor

/- What the program answers whether a memory is right, and what is at fault with what is asked of one. -/
namespace Go.Proofs.YtifcdojaocndhaaDoor
open Go.ChangeShapes Go.WideShapes Go.ChangeAt Go.RowKit
set_option linter.unusedVariables false
set_option linter.unusedSimpArgs false

theorem cell_new1 (W : World) (v : Value) (t : TypeId) : (W.alloc (.cells #[v] t)).cell? ⟨W.heap.size, 0, none⟩ = some v := (Blk.new W #[v] t).cell 0
theorem cell_new2 (W : World) (o : Obj) (v : Value) (t : TypeId) : ((W.alloc o).alloc (.cells #[v] t)).cell? ⟨W.heap.size + 1, 0, none⟩ = some v := by
  have := cell_new1 (W.alloc o) v t
  rw [World.size_alloc] at this
  exact this
set_option maxRecDepth 100000 in
set_option maxHeartbeats 1000000 in
theorem ok_impl (v : Value) (M : Mem) (w : World) (h : MemR w v M) (hl : M.rom.length ≤ 1000000000) (hm : M.ram.length ≤ 1000000000) (hr : ∀ i, i < M.ram.length → (M.ram.getD i []).length ≤ 1000000000) :
    Calls Tryd.prog 141 #[v] w fun e w' => e = .returned (.bool (okM M)) ∧ Below w.heap.size w w' := by
  obtain ⟨a1, p1, a2, p2, rfl, h1, h2⟩ := h.form
  have hB : Hid (∀ o o', Below w.heap.size w ((w.alloc o).alloc o')) := fun o o' => ((Below.refl _ _).alloc (Nat.le_refl _) _).alloc (by simp) _
  have k1 : Hid (∀ o o', RowR ((w.alloc o).alloc o') (.slice a1 M.rom.length p1) M.rom) := fun o o' => h1.below (hB.out o o')
  have k2 : Hid (∀ W', Below w.heap.size w W' → RowsR W' (.slice a2 M.ram.length p2) M.ram) := fun W' hb => h2.below hb
  replace hr := hid hr
  clear h h1 h2
  cases hb1 : bytesB M.rom 64
  · rw [okM_false (.inl hb1)]
    go_enter Tryd.func141, Tryd.ntmps141
    go_wp2_with (first | (go_at_call 167; refine (bankOf_impl _ _ _ _).mono ?_; rintro e w' ⟨rfl, rfl⟩) | (go_at_call 168; refine (whole_impl _ _ _ M.rom 64 _ (cell_new2 _ _ _ _) (k1.out _ _) hl (by omega)).mono ?_; rintro e w' ⟨rfl, rfl⟩; rw [hb1]))
    go_ret
    exact ⟨rfl, hB.out _ _⟩
  · by_cases h4 : M.ram.length = 4
    · have h4' : ((M.ram.length : Int) != 4) = false := by simp; omega
      have hno : Hid (∀ k, k < 4 → bytesB (M.ram.getD k []) 64 = false → okM M = false) := fun k hk => ram_no (by omega)
      have hend : Hid ((∀ i, i < 4 → bytesB (M.ram.getD i []) 64 = true) → okM M = (inB M.page 0 3 && decide (M.screen = 1 ∨ M.screen = 3))) := fun hj => by
        cases hp : inB M.page 0 3
        · rw [okM_false (.inr (.inr (.inl hp))), Bool.false_and]
        · by_cases hs : M.screen = 1 ∨ M.screen = 3
          · rw [ok_all hb1 h4 hp hs hj, decide_eq_true hs]; rfl
          · rw [okM_false (.inr (.inr (.inr hs))), decide_eq_false hs]; rfl
      have S : Hid (∀ o o', Blk ((w.alloc (.cells #[.slice a1 M.rom.length p1, .slice a2 M.ram.length p2, .int .i64 M.page, .int .i64 M.screen, .bool M.locked] o)).alloc o') w.heap.size #[.slice a1 M.rom.length p1, .slice a2 M.ram.length p2, .int .i64 M.page, .int .i64 M.screen, .bool M.locked]) := fun o o' => (Blk.new w _ o).alloc o'
      have h4n := hid h4
      clear h4
      go_enter Tryd.func141, Tryd.ntmps141
      go_wp2_with (first | (go_at_call 167; refine (bankOf_impl _ _ _ _).mono ?_; rintro e w' ⟨rfl, rfl⟩) | (go_at_call 168; refine (whole_impl _ _ _ M.rom 64 _ (cell_new2 _ _ _ _) (k1.out _ _) hl (by omega)).mono ?_; rintro e w' ⟨rfl, rfl⟩; rw [hb1]))
      go_loopw [19] (fun i wr => ∃ k : Nat, k ≤ 4 ∧ i = .int .i64 k ∧ (∀ j, j < k → bytesB (M.ram.getD j []) 64 = true) ∧ Below w.heap.size w wr ∧ Blk wr w.heap.size #[.slice a1 M.rom.length p1, .slice a2 M.ram.length p2, .int .i64 M.page, .int .i64 M.screen, .bool M.locked]) (fun i _ => 4 - (intOf i).toNat)
      case atStart => exact ⟨0, by omega, rfl, fun j hj => by omega, hB.out _ _, S.out _ _⟩
      case round =>
        obtain ⟨k, hk, rfl, hj, hb, q⟩ := hrel
        replace hb := hid hb
        clear S
        by_cases hlt : k < 4
        · obtain ⟨b, off, a3, p3, rfl, c1, hbl, r3⟩ := rows_at (k2.out _ hb.out) (k := k) (by rw [h4n.out]; exact hlt)
          have hrl := hr.out k (by rw [h4n.out]; exact hlt)
          have hr3 : Hid (∀ o, RowR (wr.alloc o) (.slice a3 (M.ram.getD k []).length p3) (M.ram.getD k [])) := fun o => r3.below ((Below.refl _ _).alloc (Nat.le_refl _) _)
          have hkk : (k : Int) < (M.ram.length : Int) := by rw [h4n.out]; omega
          have hB2 : Hid (∀ o, Below w.heap.size w (wr.alloc o)) := fun o => hb.out.alloc hb.out.size _
          have hq2 := hid (fun o : Obj => q.alloc o)
          clear q r3
          cases hbb : bytesB (M.ram.getD k []) 64
          · have hE := hid (hno.out k hlt hbb)
            clear hj hno hend
            generalize M.ram.getD k [] = z at *
            go_wp2_with (first | (go_at_call 167; refine (bankOf_impl _ _ _ _).mono ?_; rintro e w' ⟨rfl, rfl⟩) | (go_at_call 168; refine (whole_impl _ _ _ z 64 _ (cell_new1 _ _ _) (hr3.out _) hrl (by omega)).mono ?_; rintro e w' ⟨rfl, rfl⟩; rw [hbb]))
            go_ret
            exact ⟨ret_bool hE.out.symm, hB2.out _⟩
          · have hj2 : Hid (∀ j, j < k + 1 → bytesB (M.ram.getD j []) 64 = true) := fun j hj1 => by
              by_cases e : j = k
              · rw [e]; exact hbb
              · exact hj j (by omega)
            clear hj hno hend
            generalize M.ram.getD k [] = z at *
            go_wp2_with (first | (go_at_call 167; refine (bankOf_impl _ _ _ _).mono ?_; rintro e w' ⟨rfl, rfl⟩) | (go_at_call 168; refine (whole_impl _ _ _ z 64 _ (cell_new1 _ _ _) (hr3.out _) hrl (by omega)).mono ?_; rintro e w' ⟨rfl, rfl⟩; rw [hbb]))
            go_roundw
            case rel => exact ⟨k + 1, by omega, by go_num, hj2.out, hB2.out _, hq2.out _⟩
            case measure => simp [intOf]; omega
        · obtain rfl : k = 4 := by omega
          have hE := hid (hend.out hj)
          have hkk : ¬ ((4 : Int) < (M.ram.length : Int)) := by rw [h4n.out]; omega
          have x := q.cell
          clear hj hno hend q
          cases hp : inB M.page 0 3
          · go_wp2_with (go_at_call 114; refine (within_impl _ _ _ _).mono ?_; rintro e w' ⟨rfl, rfl⟩; rw [hp])
            go_ret
            exact ⟨ret_bool (by rw [hE.out, hp]; rfl), hb.out⟩
          · go_wp2_with (first | (go_at_call 114; refine (within_impl _ _ _ _).mono ?_; rintro e w' ⟨rfl, rfl⟩; rw [hp]) | (go_at_call 147; refine (screen_impl _ _).mono ?_; rintro e w' ⟨rfl, rfl⟩))
            go_ret
            exact ⟨ret_bool (by rw [hE.out, hp, Bool.true_and, Bool.eq_iff_iff]; simp), hb.out⟩
    · rw [okM_false (.inr (.inl h4))]
      have h4' : ((M.ram.length : Int) != 4) = true := by simp; omega
      clear h4
      go_enter Tryd.func141, Tryd.ntmps141
      go_wp2_with (first | (go_at_call 167; refine (bankOf_impl _ _ _ _).mono ?_; rintro e w' ⟨rfl, rfl⟩) | (go_at_call 168; refine (whole_impl _ _ _ M.rom 64 _ (cell_new2 _ _ _ _) (k1.out _ _) hl (by omega)).mono ?_; rintro e w' ⟨rfl, rfl⟩; rw [hb1]))
      go_ret
      exact ⟨rfl, hB.out _ _⟩
/-- the code that these numbers beside a memory get -/
def faultM (M : Mem) (zs : List Int) : Int := if okM M = true then (if zs.all (fun z => inB z 0 255) = true then 0 else 4) else 1
theorem fault_one (M : Mem) (a : Int) : faultM M [a] = askM M a := by
  unfold faultM askM
  simp
theorem fault_no {M : Mem} {zs : List Int} {k : Nat} (ho : okM M = true) (hk : k < zs.length) (h : inB (zs.getD k 0) 0 255 = false) : faultM M zs = 4 := by
  unfold faultM
  rw [if_pos ho, if_neg]
  rw [Bool.not_eq_true, List.all_eq_false]
  refine ⟨zs[k], List.getElem_mem hk, ?_⟩
  rw [List.getD_eq_getElem?_getD, List.getElem?_eq_getElem hk] at h
  simpa using h
theorem fault_all {M : Mem} {zs : List Int} (ho : okM M = true) (h : ∀ i, i < zs.length → inB (zs.getD i 0) 0 255 = true) : faultM M zs = 0 := by
  unfold faultM
  rw [if_pos ho, if_pos]
  rw [List.all_eq_true]
  intro z hz
  obtain ⟨i, hi, rfl⟩ := List.mem_iff_getElem.1 hz
  have := h i hi
  simpa [List.getD_eq_getElem?_getD, List.getElem?_eq_getElem hi] using this
end Go.Proofs.YtifcdojaocndhaaDoor

/- What the program's copies answer: a bank's, and a memory's, in blocks of its own. -/
namespace Go.Proofs.YtifcdojaocndhaaDoor
open Go.ChangeShapes Go.WideShapes Go.ChangeAt Go.RowKit
set_option linter.unusedVariables false
set_option linter.unusedSimpArgs false

/-- a row of its own at the end of the heap, and a bank that points to it behind it -/
structure Copied (w w' : World) (zs : List Int) : Prop where
  bank : Blk w' (w.heap.size + 1) #[.slice (some ⟨w.heap.size, 0, none⟩) zs.length zs.length]
  row : RowO w' w.heap.size (.slice (some ⟨w.heap.size, 0, none⟩) zs.length zs.length) zs
  bel : Below w.heap.size w w'
theorem ret_ptr {a b : Nat} (h : a = b) : Ending.returned (.pointer (some ⟨a, 0, none⟩)) = Ending.returned (.pointer (some ⟨b, 0, none⟩)) := by rw [h]
/-- one row more, wherever it was made -/
theorem Built.stepG {w wr w1 : World} {zss : List (List Int)} {k g : Nat} {u : Value} (h : Built w wr zss k) (hk : k < zss.length) (hr : RowO w1 g u (zss.getD k [])) (hg : wr.heap.size ≤ g) (hb : Below wr.heap.size wr w1) :
    Built w (w1.setCell ⟨w.heap.size, k, none⟩ u) zss (k + 1) := by
  have hl := h.lt
  obtain ⟨c, t, G, V, h1, h2, h3, h4⟩ := h
  have h1' : w1.heap[w.heap.size]? = some (.cells c t (0, 0)) := (hb.block _ hl).trans h1
  have hs : (w1.setCell ⟨w.heap.size, k, none⟩ u).heap.size = w1.heap.size := by simp [World.setCell]
  have hlt := hr.lt
  refine ⟨c.setIfInBounds k u, t, fun i => if i = k then g else G i, fun i => if i = k then u else V i, heap_setCell_same' _ _ _ _ _ _ h1', by simpa using h2, fun i hi => ?_, fun i j hi hj e => ?_⟩
  · by_cases e : i = k
    · subst e
      simp only [if_true, hs]
      refine ⟨by rw [Array.getElem?_setIfInBounds]; simp; omega, hr.kept (Below.heap_setCell _ _ _ _ (by simp; omega)), by omega, hlt⟩
    · simp only [if_neg e, hs]
      obtain ⟨k1, k2, k3, k4⟩ := h3 i (by omega)
      refine ⟨by rw [Array.getElem?_setIfInBounds, if_neg (fun h => e h.symm)]; exact k1, k2.kept ((Below.heap_setCell _ _ _ _ (by simp; omega)).trans (hb.block _ k4)), k3, by have := hb.size; omega⟩
  · by_cases e1 : i = k
    · by_cases e2 : j = k
      · rw [e1, e2]
      · simp only [if_pos e1, if_neg e2] at e
        have := (h3 j (by omega)).2.2.2
        omega
    · by_cases e2 : j = k
      · simp only [if_neg e1, if_pos e2] at e
        have := (h3 i (by omega)).2.2.2
        omega
      · simp only [if_neg e1, if_neg e2] at e
        exact h4 i j (by omega) (by omega) e
theorem Built.keptB {w wr w' : World} {zss : List (List Int)} {k : Nat} (h : Built w wr zss k) (hs : wr.heap.size ≤ w'.heap.size) (hk : ∀ b, w.heap.size ≤ b → b < wr.heap.size → w'.heap[b]? = wr.heap[b]?) : Built w w' zss k := by
  have hl := h.lt
  obtain ⟨c, t, G, V, h1, h2, h3, h4⟩ := h
  exact ⟨c, t, G, V, (hk _ (Nat.le_refl _) hl).trans h1, h2, fun i hi => by
    obtain ⟨k1, k2, k3, k4⟩ := h3 i hi
    exact ⟨k1, k2.kept (hk _ (by omega) k4), k3, by omega⟩, h4⟩
/-- a memory in blocks of its own, told by their numbers -/
structure Lies (w : World) (lo hi r s : Nat) (G : Nat → Nat) (M : Mem) : Prop where
  rom : RowO w r (.slice (some ⟨r, 0, none⟩) M.rom.length M.rom.length) M.rom
  ram : RowsO w s G (.slice (some ⟨s, 0, none⟩) M.ram.length M.ram.length) M.ram
  br : lo ≤ r ∧ r < hi
  bs : lo ≤ s ∧ s < hi
  bg : ∀ i, i < M.ram.length → lo ≤ G i ∧ G i < hi
  rs : r ≠ s
  gn : ∀ i, i < M.ram.length → G i ≠ r ∧ G i ≠ s
  inj : ∀ i j, i < M.ram.length → j < M.ram.length → G i = G j → i = j
theorem Lies.memO {w : World} {lo hi r s : Nat} {G : Nat → Nat} {M : Mem} (h : Lies w lo hi r s G M) : MemO w lo hi (memV (.slice (some ⟨r, 0, none⟩) M.rom.length M.rom.length) (.slice (some ⟨s, 0, none⟩) M.ram.length M.ram.length) M.page M.screen M.locked) M :=
  .inr ⟨_, _, r, s, G, rfl, h.rom, h.ram, h.br, h.bs, h.bg, h.rs, h.gn, h.inj⟩
theorem Lies.kept {w w' : World} {lo hi r s : Nat} {G : Nat → Nat} {M : Mem} (h : Lies w lo hi r s G M) (k : ∀ b, lo ≤ b → b < hi → w'.heap[b]? = w.heap[b]?) : Lies w' lo hi r s G M :=
  ⟨h.rom.kept (k _ h.br.1 h.br.2), h.ram.kept (k _ h.bs.1 h.bs.2) (fun i hi => k _ (h.bg i hi).1 (h.bg i hi).2), h.br, h.bs, h.bg, h.rs, h.gn, h.inj⟩
/-- while the rows of a memory are being copied -/
structure CmSt (w w6 wr : World) (r : Nat) (A0 A2 : Array Value) (M : Mem) (k : Nat) : Prop where
  q0 : Blk wr w.heap.size A0
  q1 : Blk wr (w.heap.size + 1) #[.slice none 0 0, .slice none 0 0, .int .i64 0, .int .i64 0, .bool false]
  q2 : Blk wr (w.heap.size + 1 + 1) A2
  row : RowO wr r (.slice (some ⟨r, 0, none⟩) M.rom.length M.rom.length) M.rom
  ord : w.heap.size + 1 + 1 < r ∧ r < w6.heap.size
  built : Built w6 wr M.ram k
  bel : Below w.heap.size w wr
theorem CmSt.step {w w6 wr w1 : World} {r : Nat} {A0 A2 : Array Value} {M : Mem} {k g : Nat} {u : Value} (h : CmSt w w6 wr r A0 A2 M k) (hk : k < M.ram.length) (hr : RowO w1 g u (M.ram.getD k [])) (hg : wr.heap.size ≤ g) (hb : Below wr.heap.size wr w1) :
    CmSt w w6 (w1.setCell ⟨w6.heap.size, k, none⟩ u) r A0 A2 M (k + 1) := by
  obtain ⟨q0, q1, q2, row, ord, built, bel⟩ := h
  have hl := built.lt
  exact ⟨(q0.below hb (by omega)).other (by simp; omega) _, (q1.below hb (by omega)).other (by simp; omega) _, (q2.below hb (by omega)).other (by simp; omega) _, row.kept ((Below.heap_setCell _ _ _ _ (by simp; omega)).trans (hb.block _ (by omega))), ord, built.stepG hk hr hg hb, (bel.trans (hb.mono bel.size)).setCell (p := ⟨w6.heap.size, k, none⟩) (by simp; omega) _⟩
theorem CmSt.lies {w w6 wr W' : World} {r : Nat} {A0 A2 : Array Value} {M : Mem} (h : CmSt w w6 wr r A0 A2 M M.ram.length) (hs : wr.heap.size ≤ W'.heap.size) (hk : ∀ b, w.heap.size + 1 + 1 < b → b < wr.heap.size → W'.heap[b]? = wr.heap[b]?) : ∃ G, Lies W' w.heap.size W'.heap.size r w6.heap.size G M := by
  obtain ⟨q0, q1, q2, row, ord, built, bel⟩ := h
  have hl := built.lt
  obtain ⟨c, t, G, V, h1, h2, h3, h4⟩ := built
  refine ⟨G, row.kept (hk _ ord.1 (by omega)), ⟨_, c, t, V, rfl, (hk _ (by omega) hl).trans h1, fun i hi => (h3 i hi).1, fun i hi => (h3 i hi).2.1.kept (hk _ (by have := (h3 i hi).2.2.1; omega) (h3 i hi).2.2.2)⟩, by omega, by omega, fun i hi => by have := (h3 i hi).2.2; omega, by omega, fun i hi => by have := (h3 i hi).2.2; omega, h4⟩
end Go.Proofs.YtifcdojaocndhaaDoor
