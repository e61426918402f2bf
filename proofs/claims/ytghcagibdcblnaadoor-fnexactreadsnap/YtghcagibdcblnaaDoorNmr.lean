/- A reader's memory and its end; a bank takes the place of another one: the program. -/
import Derived.Test.YtghcagibdcblnaaDoorNlr
namespace Go.Proofs.YtghcagibdcblnaaDoor
open Go.ChangeShapes Go.WideShapes Go.ChangeAt Go.RowKit
set_option linter.unusedVariables false
set_option linter.unusedSimpArgs false

/-- a row of its own takes the place of a bank -/
theorem memO_row {W W' : World} {lo hi i g : Nat} {vr vm u : Value} {M : Mem} {L : List Int} (h : MemO W lo hi (memV vr vm M.page M.screen M.locked) M) (hi' : i < M.ram.length) (hr : RowO W' g u L) (hg : hi ≤ g) (hk : ∀ b, lo ≤ b → b < hi → W'.heap[b]? = W.heap[b]?) :
    ∃ s c x, vm = .slice (some ⟨s, 0, none⟩) M.ram.length c ∧ W'.cell? ⟨s, i, none⟩ = some x ∧ W'.frozen? ⟨s, i, none⟩ = false ∧ (lo ≤ s ∧ s < hi) ∧ s < W'.heap.size ∧
      MemO (W'.setCell ⟨s, i, none⟩ u) lo W'.heap.size (memV vr vm M.page M.screen M.locked) { M with ram := M.ram.set i L } := by
  rcases h.kept hk with ⟨_, _, e2⟩ | ⟨vr', vm', r, s, G, e, h1, ⟨cap, c, t, V, hv, hs, hc, hrow⟩, b1, b2, b3, d1, d2, d3⟩
  · rw [e2] at hi'
    cases hi'
  · simp only [memV, Value.agg.injEq, Array.mk.injEq, List.cons.injEq, and_true, true_and] at e
    obtain ⟨rfl, rfl⟩ := e
    subst hv
    have hsl : s < W'.heap.size := (Array.getElem?_eq_some_iff.1 hs).1
    have hgl := hr.lt
    have hrl := h1.lt
    refine ⟨s, cap, V i, rfl, by simp [World.cell?, hs, hc i hi'], by simp [World.frozen?, hs], b2, hsl, .inr ⟨vr, _, r, s, fun j => if j = i then g else G j, rfl, h1.kept (Below.heap_setCell _ _ _ _ (by simp; omega)), ⟨cap, c.setIfInBounds i u, t, fun j => if j = i then u else V j, by simp, heap_setCell_same' _ _ _ _ _ _ hs, fun j hj => ?_, fun j hj => ?_⟩, ⟨b1.1, hrl⟩, ⟨b2.1, hsl⟩, fun j hj => ?_, d1, fun j hj => ?_, fun j k hj hkk ejk => ?_⟩⟩
    · have hj' : j < M.ram.length := by simpa using hj
      have hcl : i < c.size := (Array.getElem?_eq_some_iff.1 (hc i hi')).1
      rw [Array.getElem?_setIfInBounds]
      by_cases e : i = j
      · subst e
        simp [hcl]
      · rw [if_neg e]
        show c[j]? = some (if j = i then u else V j)
        rw [if_neg (fun h : j = i => e h.symm)]
        exact hc j hj'
    · have hj' : j < M.ram.length := by simpa using hj
      by_cases e : j = i
      · subst e
        simp only [if_true]
        have : (M.ram.set j L).getD j [] = L := by rw [List.getD_eq_getElem?_getD, List.getElem?_set_self hj']; rfl
        rw [this]
        exact hr.kept (Below.heap_setCell _ _ _ _ (by simp; omega))
      · simp only [if_neg e]
        have : (M.ram.set i L).getD j [] = M.ram.getD j [] := by rw [List.getD_eq_getElem?_getD, List.getD_eq_getElem?_getD, List.getElem?_set_ne (fun h => e h.symm)]
        rw [this]
        exact (hrow j hj').kept (Below.heap_setCell _ _ _ _ (by simp; exact (d2 j hj').2))
    · have hj' : j < M.ram.length := by simpa using hj
      by_cases e : j = i
      · simp only [if_pos e]
        have := b1.1
        exact ⟨by omega, hgl⟩
      · simp only [if_neg e]
        exact ⟨(b3 j hj').1, (hrow j hj').lt⟩
    · have hj' : j < M.ram.length := by simpa using hj
      by_cases e : j = i
      · simp only [if_pos e]
        exact ⟨by omega, by omega⟩
      · simp only [if_neg e]
        exact d2 j hj'
    · have hj' : j < M.ram.length := by simpa using hj
      have hk' : k < M.ram.length := by simpa using hkk
      by_cases e1 : j = i
      · by_cases e2 : k = i
        · rw [e1, e2]
        · simp only [if_pos e1, if_neg e2] at ejk
          have := (b3 k hk').2
          omega
      · by_cases e2 : k = i
        · simp only [if_neg e1, if_pos e2] at ejk
          have := (b3 j hj').2
          omega
        · simp only [if_neg e1, if_neg e2] at ejk
          exact d3 j k hj' hk' ejk
abbrev zM : Array Value := #[.slice none 0 0, .slice none 0 0, .int .i64 0, .int .i64 0, .bool false]
theorem mC_lay (vr vm : Value) (M : Mem) (a0 a1 a2 a3 a4 : Value) : layE 0 (mC vr vm M).toList #[a0, a1, a2, a3, a4] = mC vr vm M := rfl
theorem mC_oneN {vr vm : Value} (M : Mem) (h1 : vr.oneCell' = true) (h2 : vm.oneCell' = true) : (mC vr vm M).all (·.oneCell') = true := by
  simp [h1, h2]
  simp [Value.oneCell']
set_option maxRecDepth 100000 in
set_option maxHeartbeats 1000000 in
theorem memory_bad (p : Value) (rom : ByteArray) (w : World) (hs : rom.size ≤ 65536) (h : rom.size ≠ 64) :
    Calls Tryd.prog 25 #[p, .string rom] w fun e w' => e = .panicked (ftV 8) ∧ Below w.heap.size w w' := by
  have hN := hid (fun W => new_impl rom W (by unfold maxLen; omega))
  have hc : newC rom = 8 := by unfold newC; rw [if_neg (by omega), if_neg h]
  rw [hc] at hN
  have hA := hid (fun p w => ask_bad p 8 w (by decide))
  have hB := hid ((Below.refl w.heap.size w).alloc (Nat.le_refl _) (.cells zM 28))
  clear hc h hs
  go_enter Tryd.func25, Tryd.ntmps25
  go_upto_region 1 with fail
  obtain ⟨V, hV⟩ : ∃ V, w.alloc (Obj.cells zM 28) = V := ⟨_, rfl⟩
  rw [hV] at hB ⊢
  clear hV
  go_wp2_with fail
  refine (hN.out _).mono ?_
  rintro e w1 ⟨u, rfl, hm, hb⟩
  obtain ⟨vr, vm, rfl, o1, o2⟩ := memO_form hm
  have hB1 := hid (new_trans hB.out hb)
  have hB2 := hid (hB1.out.alloc hB1.out.size (.cells zM 28))
  have q2 := hid (Blk.new w1 zM 28)
  have hth := hid (blk_there q2.out (o := 0) (n := (mC vr vm (newM rom)).size) (by show 0 + 5 ≤ 5; omega))
  have hon := hid (mC_oneN (newM rom) o1 o2)
  obtain ⟨wF, hwF⟩ : ∃ X, (w1.alloc (.cells zM 28)).setCells w1.heap.size 0 (mC vr vm (newM rom)).toList = X := ⟨_, rfl⟩
  have hBF : Hid (Below w.heap.size w wF) := by rw [← hwF]; exact layE_below _ 0 _ hB1.out.size hB2.out
  replace hwF := hid hwF
  clear hm hb hN hB o1 o2 q2 hB1 hB2
  generalize newM rom = M at *
  go_upto_region 2 with (guard_target = wpList _ _ _ (Oper.mk _ (Op.store _ _ _) _ _ _ _ :: _) _ _; refine wpList_store_mid rfl 28 _ _ rfl w1.heap.size 0 (mC vr vm M) rfl rfl hth.out (szM2 _ _ _) hon.out ?_; rw [hwF.out])
  go_wp2_with fail
  refine (hA.out _ _).mono ?_
  rintro e w3 ⟨rfl, rfl⟩
  exact ⟨rfl, rfl, hBF.out⟩
set_option maxRecDepth 100000 in
set_option maxHeartbeats 1000000 in
theorem memory_good (p : Value) (rom : ByteArray) (w : World) (h : rom.size = 64) :
    Calls Tryd.prog 25 #[p, .string rom] w fun e w' => ∃ vr vm, e = .returned (memV vr vm 0 1 false) ∧ MemO w' w.heap.size w'.heap.size (memV vr vm 0 1 false) (newM rom) ∧ Below w.heap.size w w' := by
  have hN := hid (fun W => new_impl rom W (by unfold maxLen; omega))
  have hc : newC rom = 0 := by unfold newC; rw [if_neg (by omega), if_pos h]
  rw [hc] at hN
  have hA := hid (fun p w => ask_ok p w)
  have hB := hid ((Below.refl w.heap.size w).alloc (Nat.le_refl _) (.cells zM 28))
  have q0 := hid (Blk.new w zM 28)
  have hM : (newM rom).page = 0 ∧ (newM rom).screen = 1 ∧ (newM rom).locked = false := by unfold newM; rw [if_pos h]; exact ⟨rfl, rfl, rfl⟩
  clear hc h
  generalize newM rom = M at *
  obtain ⟨R0, R1, pg, sc, lk⟩ := M
  obtain ⟨rfl, rfl, rfl⟩ := hM
  go_enter Tryd.func25, Tryd.ntmps25
  go_upto_region 1 with fail
  obtain ⟨V, hV⟩ : ∃ V, w.alloc (Obj.cells zM 28) = V := ⟨_, rfl⟩
  have hVs : Hid (V.heap.size = w.heap.size + 1) := by unfold Hid; rw [← hV]; simp
  rw [hV] at hB q0 ⊢
  clear hV
  go_wp2_with fail
  refine (hN.out _).mono ?_
  rintro e w1 ⟨u, rfl, hm, hb⟩
  obtain ⟨vr, vm, rfl, o1, o2⟩ := memO_form hm
  have hB1 := hid (new_trans hB.out hb)
  have q1 := hid (q0.out.below hb q0.out.lt)
  have hB2 := hid (hB1.out.alloc hB1.out.size (.cells zM 28))
  have q2 := hid (Blk.new w1 zM 28)
  have q3 := hid (q1.out.alloc (.cells zM 28))
  have hth := hid (blk_there q2.out (o := 0) (n := (mC vr vm ⟨R0, R1, 0, 1, false⟩).size) (by show 0 + 5 ≤ 5; omega))
  have hon := hid (mC_oneN ⟨R0, R1, 0, 1, false⟩ o1 o2)
  have hm2 : Hid (MemO (w1.alloc (.cells zM 28)) w.heap.size w1.heap.size (memV vr vm 0 1 false) ⟨R0, R1, 0, 1, false⟩) := (hm.mono (by have := hVs.out; omega) (Nat.le_refl _)).kept (fun b _ hb => Below.heap_alloc _ _ _ hb)
  have hne : w.heap.size ≠ w1.heap.size := by have := q1.out.lt; omega
  have hw1 : Hid (w.heap.size ≤ w1.heap.size) := hB1.out.size
  have hlow : Hid (∀ b, w.heap.size < b → b < w1.heap.size → True) := fun _ _ _ => trivial
  have hm3 : Hid (MemO (w1.alloc (.cells zM 28)) V.heap.size w1.heap.size (memV vr vm 0 1 false) ⟨R0, R1, 0, 1, false⟩) := hm.kept (fun b _ hb => Below.heap_alloc _ _ _ hb)
  obtain ⟨wF, hwF⟩ : ∃ X, (w1.alloc (.cells zM 28)).setCells w1.heap.size 0 (mC vr vm ⟨R0, R1, 0, 1, false⟩).toList = X := ⟨_, rfl⟩
  have hBF : Hid (Below w.heap.size w wF) := by rw [← hwF]; exact layE_below _ 0 _ hB1.out.size hB2.out
  have qF : Hid (Blk wF w1.heap.size (mC vr vm ⟨R0, R1, 0, 1, false⟩)) := by
    rw [← hwF]
    exact layE_blk w1.heap.size (mC vr vm ⟨R0, R1, 0, 1, false⟩).toList _ 0 _ q2.out
  have qG : Hid (Blk wF w.heap.size zM) := by rw [← hwF]; exact layE_other hne _ _ _ q3.out
  have mF : Hid (MemO wF V.heap.size w1.heap.size (memV vr vm 0 1 false) ⟨R0, R1, 0, 1, false⟩) := by
    rw [← hwF]
    exact hm3.out.kept (fun b _ hb => layE_heap _ _ _ _ (by omega))
  have hsF : Hid (wF.heap.size = w1.heap.size + 1) := by unfold Hid; rw [← hwF, size_cells, World.size_alloc]
  replace hwF := hid hwF
  clear hm hb hN hB o1 o2 q0 q1 q2 q3 hB1 hB2 hm2 hm3 hlow
  go_upto_region 2 with (guard_target = wpList _ _ _ (Oper.mk _ (Op.store _ _ _) _ _ _ _ :: _) _ _; refine wpList_store_mid rfl 28 _ _ rfl w1.heap.size 0 (mC vr vm ⟨R0, R1, 0, 1, false⟩) rfl rfl hth.out (szM2 _ _ _) hon.out ?_; rw [hwF.out])
  go_wp2_with fail
  refine (hA.out _ _).mono ?_
  rintro e w3 ⟨rfl, hww⟩
  obtain rfl := hww.symm
  have x1 : Hid (wF.rangeAt w1.heap.size 0 [vr, vm, .int .i64 0, .int .i64 1, .bool false]) := hid (blk_range qF.out [] _ [] rfl)
  have hth2 := hid (blk_there qG.out (o := 0) (n := (mC vr vm ⟨R0, R1, 0, 1, false⟩).size) (by show 0 + 5 ≤ 5; omega))
  obtain ⟨wZ, hwZ⟩ : ∃ X, wF.setCells w.heap.size 0 (mC vr vm ⟨R0, R1, 0, 1, false⟩).toList = X := ⟨_, rfl⟩
  have qZ : Hid (Blk wZ w.heap.size (mC vr vm ⟨R0, R1, 0, 1, false⟩)) := by
    rw [← hwZ]
    exact layE_blk w.heap.size (mC vr vm ⟨R0, R1, 0, 1, false⟩).toList _ 0 _ qG.out
  have hBZ : Hid (Below w.heap.size w wZ) := by rw [← hwZ]; exact layE_below _ 0 _ (Nat.le_refl _) hBF.out
  have mZ : Hid (MemO wZ w.heap.size wZ.heap.size (memV vr vm 0 1 false) ⟨R0, R1, 0, 1, false⟩) := by
    have hz : wZ.heap.size = w1.heap.size + 1 := by rw [← hwZ, size_cells]; exact hsF.out
    have hv := hVs.out
    rw [hz]
    have := mF.out.kept (w' := wZ) (fun b hb1 hb2 => by rw [← hwZ]; exact layE_heap _ _ _ _ (by omega))
    exact this.mono (by omega) (by omega)
  replace hwZ := hid hwZ
  clear qF qG mF hBF hA hth hwF
  go_wp2_with (first | (refine wpList_load_mid rfl 28 _ rfl w1.heap.size 0 rfl [vr, vm, .int .i64 0, .int .i64 1, .bool false] _ x1.out Tryd.underlying28 rfl (szM _ _ _ _ _) ?_) | (guard_target = wpList _ _ _ (Oper.mk _ (Op.store _ _ _) _ _ _ _ :: _) _ _; refine wpList_store_mid rfl 28 _ _ rfl w.heap.size 0 (mC vr vm ⟨R0, R1, 0, 1, false⟩) rfl rfl hth2.out (szM2 _ _ _) hon.out ?_; rw [hwZ.out]))
  obtain ⟨tt, htt⟩ := qZ.out
  exact bodyPost_ret (v := memV vr vm 0 1 false) (results_cell_row Tryd.results25 _ _ w.heap.size tt (mC vr vm ⟨R0, R1, 0, 1, false⟩) (0, 0) _ rfl htt Tryd.underlying28 rfl (szM2 _ _ _)) rfl ⟨vr, vm, rfl, mZ.out, hBZ.out⟩
set_option maxRecDepth 100000 in
set_option maxHeartbeats 1000000 in
theorem end_good {w0 W : World} {e0 e1 e2 : Addr} {B a : Nat} {t : ByteArray} (h : Rdr w0 W e0 e1 e2 B t a) (he : a = t.size) :
    Calls Tryd.prog 28 #[.pointer (some ⟨B, 0, none⟩)] W fun e w' => e = .returned (.tuple #[]) ∧ Below W.heap.size W w' := by
  have hW := hid (fun w => whenS_impl false 8 w)
  have hA := hid (fun p w => ask_ok p w)
  have hz : whS false 8 = 0 := rfl
  rw [hz] at hW
  have x0 := h.blk.cell
  have hlt : decide ((a : Int) < (t.size : Int)) = false := decide_eq_false (by omega)
  have hlt2 : decide (a < t.size) = false := decide_eq_false (by omega)
  clear hz h he
  go_enter Tryd.func28, Tryd.ntmps28
  go_upto_region 0 with fail
  go_region_with (first | (go_at_call 47; refine (hW.out _).mono ?_; rintro e w' ⟨rfl, hww⟩; obtain rfl := hww.symm) | (go_at_call 40; refine (hA.out _ _).mono ?_; rintro e w' ⟨rfl, hww⟩; obtain rfl := hww.symm))
  all_goals go_wp2_with fail
  all_goals exact bodyPost_end (v := .tuple #[]) (by simp [results, Tryd.results28]) rfl ⟨rfl, (Below.refl _ _).drew⟩
set_option maxRecDepth 100000 in
set_option maxHeartbeats 1000000 in
theorem end_bad {w0 W : World} {e0 e1 e2 : Addr} {B a : Nat} {t : ByteArray} (h : Rdr w0 W e0 e1 e2 B t a) (he : a < t.size) :
    Calls Tryd.prog 28 #[.pointer (some ⟨B, 0, none⟩)] W fun e w' => e = .panicked (ftV 8) ∧ Below W.heap.size W w' := by
  have hW := hid (fun w => whenS_impl true 8 w)
  have hA := hid (fun p w => ask_bad p 8 w (by decide))
  have hz : whS true 8 = 8 := rfl
  rw [hz] at hW
  clear hz
  go_enter Tryd.func28, Tryd.ntmps28
  go_upto_region 0 with fail
  refine ne_reg _ W _ B a t (ftV 8) (fun W w' => w' = W) rfl (fun W' hb => (h.blk.below hb h.blk.lt).cell 0) (fun W' hb => (h.blk.below hb h.blk.lt).cell 1) he hW.out (fun W' hb => hA.out _ _) (fun a W' w' hd _ hb k => ?_) (by simp) (fun _ _ h => h.elim)
  subst k
  exact ⟨hd, rfl, hb⟩
end Go.Proofs.YtghcagibdcblnaaDoor
