/- A bank of a snapshot's text is read: the program. -/
import Derived.Test.YtghcagibdcblnaaGreatDoorF39
import Derived.Test.YtghcagibdcblnaaGreatDoorF22
import Derived.Test.YtghcagibdcblnaaGreatDoorF42
import Derived.Test.YtghcagibdcblnaaGreatDoorBjf
namespace Go.Proofs.YtghcagibdcblnaaGreatDoor
open Go.ChangeShapes Go.WideShapes Go.ChangeAt Go.RowKit
set_option linter.unusedVariables false
set_option linter.unusedSimpArgs false

theorem romL_bts (s : ByteArray) : romL s = bts s := by
  refine List.ext_getElem? (fun i => ?_)
  by_cases h : i < s.size
  · rw [bts_at s h]
    simp [romL, List.getElem?_range h]
  · rw [List.getElem?_eq_none (by rw [romL_len]; omega), List.getElem?_eq_none (by rw [bts_len]; omega)]
def bkN (t : ByteArray) (a : Nat) : Nat := (byt t a + 256 * byt t (a + 1)).toNat
/-- what stands packed at a place -/
def bkX (t : ByteArray) (a : Nat) : ByteArray := t.extract (a + 2) (a + 2 + bkN t a)
/-- the code of the bank at a place -/
def bkC (t : ByteArray) (a : Nat) : Int := if t.size < a + 2 then 9 else if t.size < a + 2 + bkN t a then 9 else (expE 64 (bts (bkX t a)) []).2
def bkL (t : ByteArray) (a : Nat) : List Int := (expE 64 (bts (bkX t a)) []).1
theorem bkN_le (t : ByteArray) (a : Nat) : bkN t a ≤ 65535 ∧ byt t a + 256 * byt t (a + 1) = (bkN t a : Int) := by
  have h1 := byt_bd t a
  have h2 := byt_bd t (a + 1)
  unfold bkN
  omega
theorem exp2_64 {p : ByteArray} (h : p.size ≤ 65536) : exp2 p 64 = (strOfNums (expE 64 (bts p) []).1, (expE 64 (bts p) []).2) := by
  unfold exp2
  rw [if_neg (by omega), if_pos (by decide)]
  rfl
/-- the word is taken, and what it tells of -/
theorem bank_word {a : Nat} {t : ByteArray} (W : World) (hn : a + 2 ≤ t.size) :
    Calls Tryz.prog 78 #[.string (t.extract a (a + 2))] W fun e w' => e = .returned (.int .i64 (bkN t a : Int)) ∧ w' = W.drew := by
  have := wordOf_impl (t.extract a (a + 2)) W (by rw [ByteArray.size_extract]; omega)
  have e0 : byt (t.extract a (a + 2)) 0 = byt t a := by
    have := byt_extract t (i := a) (e := a + 2) (j := 0) (by omega) hn
    simpa using this
  rw [e0, byt_extract t (i := a) (e := a + 2) (j := 1) (by omega) hn, (bkN_le t a).2] at this
  exact this
set_option maxRecDepth 100000 in
set_option maxHeartbeats 2000000 in
theorem bank_bad {w0 W : World} {e0 e1 e2 : Addr} {B a : Nat} {t : ByteArray} (h : Rdr w0 W e0 e1 e2 B t a) (hc : bkC t a ≠ 0) :
    Calls Tryz.prog 44 #[.pointer (some ⟨B, 0, none⟩)] W fun e w' => e = .panicked (ftV (bkC t a)) ∧ Kd [B] W w' := by
  by_cases h1 : t.size < a + 2
  · have hE : bkC t a = 9 := by unfold bkC; rw [if_pos h1]
    rw [hE]
    have hT := hid (bytes_end h 2 h1 (by omega))
    clear hE hc h1
    go_enter Tryz.func44, Tryz.ntmps44
    go_wp2_with fail
    refine hT.out.mono ?_
    rintro e w1 ⟨rfl, hb⟩
    exact ⟨rfl, rfl, Kd.of_below hb⟩
  have hT := hid (bytes_ok h 2 (by omega))
  have hw := hid (fun X => bank_word (a := a) (t := t) X (by omega))
  have hnl := (bkN_le t a).1
  have hC := hid (fun X (hX : Rdr w0 X e0 e1 e2 B t (a + 2)) (hh : t.size < a + 2 + bkN t a) => bytes_end hX (bkN t a) hh (by omega))
  have hC2 := hid (fun X (hX : Rdr w0 X e0 e1 e2 B t (a + 2)) (hh : a + 2 + bkN t a ≤ t.size) => bytes_ok hX (bkN t a) hh)
  have hE : bkC t a = if t.size < a + 2 + bkN t a then 9 else (expE 64 (bts (bkX t a)) []).2 := by unfold bkC; rw [if_neg h1]
  have hX0 : t.extract (a + 2) (a + 2 + bkN t a) = bkX t a := rfl
  have hXs : (bkX t a).size ≤ 65536 := by have := h.sz; unfold bkX; rw [ByteArray.size_extract]; omega
  rw [hX0] at hC2
  rw [hE] at hc ⊢
  have hP := hid (fun X (hE' : Errs X e0 e1 e2) => exp_implE (bkX t a) 64 e0 e1 e2 X (by unfold maxLen; omega) hE')
  rw [exp2_64 hXs] at hP
  dsimp only at hP
  generalize t.extract a (a + 2) = Y at *
  generalize bkX t a = X at *
  generalize bkN t a = n at *
  clear h hE hX0 hXs hnl
  by_cases h2 : t.size < a + 2 + n
  · rw [if_pos h2] at hc ⊢
    replace h1 := hid h1
    replace h2 := hid h2
    clear hP hC2 hc
    go_enter Tryz.func44, Tryz.ntmps44
    go_wp2_with fail
    refine hT.out.mono ?_
    rintro e w1 ⟨rfl, r1, k1⟩
    replace r1 := hid r1
    replace k1 := hid k1
    clear hT
    go_wp2_with fail
    refine (hw.out _).mono ?_
    rintro e w2 ⟨rfl, rfl⟩
    have r2 := hid (r1.out.below (Below.refl w1.heap.size w1).drew)
    have k2 := hid (k1.out.trans (Kd.of_below (xs := [B]) (Below.refl w1.heap.size w1).drew))
    go_wp2_with fail
    refine (hC.out _ r2.out h2.out).mono ?_
    rintro e w3 ⟨rfl, hb⟩
    exact ⟨rfl, rfl, k2.out.trans (Kd.of_below hb)⟩
  · rw [if_neg h2] at hc ⊢
    have hA := hid (fun p w => ask_bad p (expE 64 (bts X) []).2 w hc)
    generalize strOfNums (expE 64 (bts X) []).1 = Z at *
    generalize (expE 64 (bts X) []).2 = c at *
    replace h1 := hid h1
    replace h2 : Hid (a + 2 + n ≤ t.size) := by unfold Hid; omega
    clear hC hc
    go_enter Tryz.func44, Tryz.ntmps44
    go_wp2_with fail
    refine hT.out.mono ?_
    rintro e w1 ⟨rfl, r1, k1⟩
    replace r1 := hid r1
    replace k1 := hid k1
    clear hT
    go_wp2_with fail
    refine (hw.out _).mono ?_
    rintro e w2 ⟨rfl, rfl⟩
    have r2 := hid (r1.out.below (Below.refl w1.heap.size w1).drew)
    have k2 := hid (k1.out.trans (Kd.of_below (xs := [B]) (Below.refl w1.heap.size w1).drew))
    clear r1 k1
    go_wp2_with fail
    refine (hC2.out _ r2.out h2.out).mono ?_
    rintro e w3 ⟨rfl, r3, k3⟩
    replace r3 := hid r3
    have k4 := hid (k2.out.trans k3)
    clear r2 k2 k3 hw hC2
    go_wp2_with fail
    refine (hP.out _ r3.out.errsW).mono ?_
    rintro e w4 ⟨rfl, hb⟩
    have k5 : Hid (Kd [B] W w4) := k4.out.trans (Kd.of_below hb)
    clear hb k4 r3 hP
    go_wp2_with fail
    refine (hA.out _ _).mono ?_
    rintro e w5 ⟨rfl, rfl⟩
    exact ⟨rfl, rfl, k5.out⟩
set_option maxRecDepth 100000 in
set_option maxHeartbeats 2000000 in
theorem bank_good {w0 W : World} {e0 e1 e2 : Addr} {B a : Nat} {t : ByteArray} (h : Rdr w0 W e0 e1 e2 B t a) (hc : bkC t a = 0) :
    Calls Tryz.prog 44 #[.pointer (some ⟨B, 0, none⟩)] W fun e w' => ∃ g, e = .returned (.slice (some ⟨g, 0, none⟩) 64 64) ∧ W.heap.size ≤ g ∧ RowO w' g (.slice (some ⟨g, 0, none⟩) 64 64) (bkL t a) ∧ Rdr w0 w' e0 e1 e2 B t (a + 2 + bkN t a) ∧ Kd [B] W w' := by
  have h1 : ¬ t.size < a + 2 := fun h1 => by unfold bkC at hc; rw [if_pos h1] at hc; cases hc
  have h2 : ¬ t.size < a + 2 + bkN t a := fun h2 => by unfold bkC at hc; rw [if_neg h1, if_pos h2] at hc; cases hc
  have hcz : (expE 64 (bts (bkX t a)) []).2 = 0 := by unfold bkC at hc; rw [if_neg h1, if_neg h2] at hc; exact hc
  obtain ⟨hz1, hz2⟩ := bank_ok hcz
  have hT := hid (bytes_ok h 2 (by omega))
  have hw := hid (fun X => bank_word (a := a) (t := t) X (by omega))
  have hC2 := hid (fun X (hX : Rdr w0 X e0 e1 e2 B t (a + 2)) => bytes_ok hX (bkN t a) (by omega))
  have hX0 : t.extract (a + 2) (a + 2 + bkN t a) = bkX t a := rfl
  have hXs : (bkX t a).size ≤ 65536 := by have := h.sz; unfold bkX; rw [ByteArray.size_extract]; omega
  rw [hX0] at hC2
  have hP := hid (fun X (hE' : Errs X e0 e1 e2) => exp_implE (bkX t a) 64 e0 e1 e2 X (by unfold maxLen; omega) hE')
  rw [exp2_64 hXs, hcz] at hP
  dsimp only at hP
  have hA := hid (fun p w => ask_ok p w)
  have hrow : Hid (romL (strOfNums (expE 64 (bts (bkX t a)) []).1) = bkL t a) := by
    unfold Hid
    rw [romL_bts, hz2]
    rfl
  generalize bkL t a = L at *
  generalize t.extract a (a + 2) = Y at *
  generalize strOfNums (expE 64 (bts (bkX t a)) []).1 = Z at *
  generalize bkX t a = X at *
  generalize bkN t a = n at *
  have hcv := hid (fun W' => convT Z W')
  have hcp := hid (fun p b cap W' hp hh => bcopied_impl p b cap Z W' hp hh (by omega))
  have hzs := hid hz1
  rw [hz1] at hcv hcp
  clear h hX0 hXs hc h1 h2 hcz hz2 hz1
  go_enter Tryz.func44, Tryz.ntmps44
  go_wp2_with fail
  refine hT.out.mono ?_
  rintro e w1 ⟨rfl, r1, k1⟩
  replace r1 := hid r1
  replace k1 := hid k1
  clear hT
  go_wp2_with fail
  refine (hw.out _).mono ?_
  rintro e w2 ⟨rfl, rfl⟩
  have r2 := hid (r1.out.below (Below.refl w1.heap.size w1).drew)
  have k2 := hid (k1.out.trans (Kd.of_below (xs := [B]) (Below.refl w1.heap.size w1).drew))
  clear r1 k1
  go_wp2_with fail
  refine (hC2.out _ r2.out).mono ?_
  rintro e w3 ⟨rfl, r3, k3⟩
  replace r3 := hid r3
  have k4 := hid (k2.out.trans k3)
  clear r2 k2 k3 hw hC2
  go_wp2_with fail
  refine (hP.out _ r3.out.errsW).mono ?_
  rintro e w4 ⟨rfl, hb⟩
  have r5 := hid (r3.out.below hb)
  have k5 : Hid (Kd [B] W w4) := k4.out.trans (Kd.of_below hb)
  clear hb k4 r3 hP
  go_wp2_with fail
  refine (hA.out _ _).mono ?_
  rintro e w5 ⟨rfl, rfl⟩
  obtain ⟨cp, w6, hcvr, hcpp, hcell, hs6, hb6⟩ := hcv.out w5
  have r6 := hid (r5.out.below hb6)
  have k6 : Hid (Kd [B] W w6) := k5.out.trans (Kd.of_below hb6)
  have hl5 : Hid (W.heap.size ≤ w5.heap.size) := k5.out.size
  replace hcell := hid hcell
  clear hb6 r5 k5 hA hcv
  go_upto_region 5 with fail
  have r7 := hid (r6.out.below ((Below.refl w6.heap.size w6).alloc (Nat.le_refl _) (.cells #[.slice (some ⟨w5.heap.size, 0, none⟩) 64 cp] 115)))
  have k7 := hid (k6.out.alloc (.cells #[.slice (some ⟨w5.heap.size, 0, none⟩) 64 cp] 115))
  have q7 := hid (Blk.new w6 #[.slice (some ⟨w5.heap.size, 0, none⟩) 64 cp] 115)
  have hcell7 : Hid (∀ i, i < 64 → (w6.alloc (.cells #[.slice (some ⟨w5.heap.size, 0, none⟩) 64 cp] 115)).cell? ⟨w5.heap.size, i, none⟩ = some (.int .u8 (byt Z i))) := fun i hi => by
    rw [((Below.refl w6.heap.size w6).alloc (Nat.le_refl _) (.cells #[.slice (some ⟨w5.heap.size, 0, none⟩) 64 cp] 115)).cell (p := ⟨w5.heap.size, i, none⟩) (by simp; omega)]
    exact hcell.out i (by rw [hzs.out]; exact hi)
  rw [hs6] at q7
  obtain ⟨V, hV⟩ : ∃ V, w6.alloc (Obj.cells #[.slice (some ⟨w5.heap.size, 0, none⟩) 64 cp] 115) = V := ⟨_, rfl⟩
  rw [hV] at r7 k7 q7 hcell7 ⊢
  obtain ⟨G, hG⟩ : ∃ G, w5.heap.size = G := ⟨_, rfl⟩
  rw [hG] at hl5 q7 hcell7 ⊢
  clear hV hG hcvr r6 k6 hcell hs6 hcpp
  go_wp2_with fail
  refine (hcp.out (G + 1) G cp V (q7.out.cell 0) hcell7.out).mono ?_
  rintro e w8 ⟨g, rfl, hg, qb, row, hb⟩
  have r8 := hid (r7.out.below hb)
  have k8 : Hid (Kd [B] W w8) := k7.out.trans (Kd.of_below hb)
  have hgl : Hid (W.heap.size ≤ g) := by have := k7.out.size; unfold Hid; omega
  rw [hrow.out] at row
  replace row := hid row
  have x0 := qb.cell
  have xl := qb.lt
  clear hb r7 k7 hcp q7 hcell7 hg qb
  go_wp2_with fail
  go_ret
  exact ⟨g, rfl, hgl.out, row.out, r8.out, k8.out⟩
end Go.Proofs.YtghcagibdcblnaaGreatDoor

/- A reader's memory and its end; a bank takes the place of another one: the program. -/
namespace Go.Proofs.YtghcagibdcblnaaGreatDoor
open Go.ChangeShapes Go.WideShapes Go.ChangeAt Go.RowKit
set_option linter.unusedVariables false
set_option linter.unusedSimpArgs false

/-- a row of its own takes the place of a bank -/
theorem memO_row {W W' : World} {lo hi i g : Nat} {vr vm u : Value} {M : Mem} {L : List Int} (h : MemO W lo hi (memV vr vm M.page M.screen M.locked) M) (hi' : i < M.ram.length) (hr : RowO W' g u L) (hg : hi ≤ g) (hk : ∀ b, lo ≤ b → b < hi → W'.heap[b]? = W.heap[b]?) :
    ∃ s c x, vm = .slice (some ⟨s, 0, none⟩) M.ram.length c ∧ W'.cell? ⟨s, i, none⟩ = some x ∧ W'.frozen? ⟨s, i, none⟩ = false ∧ (lo ≤ s ∧ s < hi) ∧ s < W'.heap.size ∧
      MemO (W'.setCell ⟨s, i, none⟩ u) lo W'.heap.size (memV vr vm M.page M.screen M.locked) { M with ram := M.ram.set i L } := by
  rcases h.kept hk with ⟨_, _, e2⟩ | ⟨vr', vm', r, s, G, e, h1, ⟨cap, c, t, V, hv, hs, hc, hrow⟩, b1, b2, b3, d1, d2, d3⟩
  · rw [e2] at hi'
    cases hi'
  · simp only [memV, Value.agg.injEq, Array.mk.injEq, List.cons.injEq, and_true, true_and] at e
    obtain ⟨rfl, rfl⟩ := e
    subst hv
    have hsl : s < W'.heap.size := (Array.getElem?_eq_some_iff.1 hs).1
    have hgl := hr.lt
    have hrl := h1.lt
    refine ⟨s, cap, V i, rfl, by simp [World.cell?, hs, hc i hi'], by simp [World.frozen?, hs], b2, hsl, .inr ⟨vr, _, r, s, fun j => if j = i then g else G j, rfl, h1.kept (Below.heap_setCell _ _ _ _ (by simp; omega)), ⟨cap, c.setIfInBounds i u, t, fun j => if j = i then u else V j, by simp, heap_setCell_same' _ _ _ _ _ _ hs, fun j hj => ?_, fun j hj => ?_⟩, ⟨b1.1, hrl⟩, ⟨b2.1, hsl⟩, fun j hj => ?_, d1, fun j hj => ?_, fun j k hj hkk ejk => ?_⟩⟩
    · have hj' : j < M.ram.length := by simpa using hj
      have hcl : i < c.size := (Array.getElem?_eq_some_iff.1 (hc i hi')).1
      rw [Array.getElem?_setIfInBounds]
      by_cases e : i = j
      · subst e
        simp [hcl]
      · rw [if_neg e]
        show c[j]? = some (if j = i then u else V j)
        rw [if_neg (fun h : j = i => e h.symm)]
        exact hc j hj'
    · have hj' : j < M.ram.length := by simpa using hj
      by_cases e : j = i
      · subst e
        simp only [if_true]
        have : (M.ram.set j L).getD j [] = L := by rw [List.getD_eq_getElem?_getD, List.getElem?_set_self hj']; rfl
        rw [this]
        exact hr.kept (Below.heap_setCell _ _ _ _ (by simp; omega))
      · simp only [if_neg e]
        have : (M.ram.set i L).getD j [] = M.ram.getD j [] := by rw [List.getD_eq_getElem?_getD, List.getD_eq_getElem?_getD, List.getElem?_set_ne (fun h => e h.symm)]
        rw [this]
        exact (hrow j hj').kept (Below.heap_setCell _ _ _ _ (by simp; exact (d2 j hj').2))
    · have hj' : j < M.ram.length := by simpa using hj
      by_cases e : j = i
      · simp only [if_pos e]
        have := b1.1
        exact ⟨by omega, hgl⟩
      · simp only [if_neg e]
        exact ⟨(b3 j hj').1, (hrow j hj').lt⟩
    · have hj' : j < M.ram.length := by simpa using hj
      by_cases e : j = i
      · simp only [if_pos e]
        exact ⟨by omega, by omega⟩
      · simp only [if_neg e]
        exact d2 j hj'
    · have hj' : j < M.ram.length := by simpa using hj
      have hk' : k < M.ram.length := by simpa using hkk
      by_cases e1 : j = i
      · by_cases e2 : k = i
        · rw [e1, e2]
        · simp only [if_pos e1, if_neg e2] at ejk
          have := (b3 k hk').2
          omega
      · by_cases e2 : k = i
        · simp only [if_neg e1, if_pos e2] at ejk
          have := (b3 j hj').2
          omega
        · simp only [if_neg e1, if_neg e2] at ejk
          exact d3 j k hj' hk' ejk
abbrev zM : Array Value := #[.slice none 0 0, .slice none 0 0, .int .i64 0, .int .i64 0, .bool false]
theorem mC_lay (vr vm : Value) (M : Mem) (a0 a1 a2 a3 a4 : Value) : layE 0 (mC vr vm M).toList #[a0, a1, a2, a3, a4] = mC vr vm M := rfl
theorem mC_oneN {vr vm : Value} (M : Mem) (h1 : vr.oneCell' = true) (h2 : vm.oneCell' = true) : (mC vr vm M).all (·.oneCell') = true := by
  simp [h1, h2]
  simp [Value.oneCell']
set_option maxRecDepth 100000 in
set_option maxHeartbeats 1000000 in
theorem memory_bad (p : Value) (rom : ByteArray) (w : World) (hs : rom.size ≤ 65536) (h : rom.size ≠ 64) :
    Calls Tryz.prog 42 #[p, .string rom] w fun e w' => e = .panicked (ftV 8) ∧ Below w.heap.size w w' := by
  have hN := hid (fun W => new_impl rom W (by unfold maxLen; omega))
  have hc : newC rom = 8 := by unfold newC; rw [if_neg (by omega), if_neg h]
  rw [hc] at hN
  have hA := hid (fun p w => ask_bad p 8 w (by decide))
  have hB := hid ((Below.refl w.heap.size w).alloc (Nat.le_refl _) (.cells zM 29))
  clear hc h hs
  go_enter Tryz.func42, Tryz.ntmps42
  go_upto_region 1 with fail
  obtain ⟨V, hV⟩ : ∃ V, w.alloc (Obj.cells zM 29) = V := ⟨_, rfl⟩
  rw [hV] at hB ⊢
  clear hV
  go_wp2_with fail
  refine (hN.out _).mono ?_
  rintro e w1 ⟨u, rfl, hm, hb⟩
  obtain ⟨vr, vm, rfl, o1, o2⟩ := memO_form hm
  have hB1 := hid (new_trans hB.out hb)
  have hB2 := hid (hB1.out.alloc hB1.out.size (.cells zM 29))
  have q2 := hid (Blk.new w1 zM 29)
  have hth := hid (blk_there q2.out (o := 0) (n := (mC vr vm (newM rom)).size) (by show 0 + 5 ≤ 5; omega))
  have hon := hid (mC_oneN (newM rom) o1 o2)
  obtain ⟨wF, hwF⟩ : ∃ X, (w1.alloc (.cells zM 29)).setCells w1.heap.size 0 (mC vr vm (newM rom)).toList = X := ⟨_, rfl⟩
  have hBF : Hid (Below w.heap.size w wF) := by rw [← hwF]; exact layE_below _ 0 _ hB1.out.size hB2.out
  replace hwF := hid hwF
  clear hm hb hN hB o1 o2 q2 hB1 hB2
  generalize newM rom = M at *
  go_upto_region 2 with (guard_target = wpList _ _ _ (Oper.mk _ (Op.store _ _ _) _ _ _ _ :: _) _ _; refine wpList_store_mid rfl 29 _ _ rfl w1.heap.size 0 (mC vr vm M) rfl rfl hth.out (szM2 _ _ _) hon.out ?_; rw [hwF.out])
  go_wp2_with fail
  refine (hA.out _ _).mono ?_
  rintro e w3 ⟨rfl, rfl⟩
  exact ⟨rfl, rfl, hBF.out⟩
set_option maxRecDepth 100000 in
set_option maxHeartbeats 1000000 in
theorem memory_good (p : Value) (rom : ByteArray) (w : World) (h : rom.size = 64) :
    Calls Tryz.prog 42 #[p, .string rom] w fun e w' => ∃ vr vm, e = .returned (memV vr vm 0 1 false) ∧ MemO w' w.heap.size w'.heap.size (memV vr vm 0 1 false) (newM rom) ∧ Below w.heap.size w w' := by
  have hN := hid (fun W => new_impl rom W (by unfold maxLen; omega))
  have hc : newC rom = 0 := by unfold newC; rw [if_neg (by omega), if_pos h]
  rw [hc] at hN
  have hA := hid (fun p w => ask_ok p w)
  have hB := hid ((Below.refl w.heap.size w).alloc (Nat.le_refl _) (.cells zM 29))
  have q0 := hid (Blk.new w zM 29)
  have hM : (newM rom).page = 0 ∧ (newM rom).screen = 1 ∧ (newM rom).locked = false := by unfold newM; rw [if_pos h]; exact ⟨rfl, rfl, rfl⟩
  clear hc h
  generalize newM rom = M at *
  obtain ⟨R0, R1, pg, sc, lk⟩ := M
  obtain ⟨rfl, rfl, rfl⟩ := hM
  go_enter Tryz.func42, Tryz.ntmps42
  go_upto_region 1 with fail
  obtain ⟨V, hV⟩ : ∃ V, w.alloc (Obj.cells zM 29) = V := ⟨_, rfl⟩
  have hVs : Hid (V.heap.size = w.heap.size + 1) := by unfold Hid; rw [← hV]; simp
  rw [hV] at hB q0 ⊢
  clear hV
  go_wp2_with fail
  refine (hN.out _).mono ?_
  rintro e w1 ⟨u, rfl, hm, hb⟩
  obtain ⟨vr, vm, rfl, o1, o2⟩ := memO_form hm
  have hB1 := hid (new_trans hB.out hb)
  have q1 := hid (q0.out.below hb q0.out.lt)
  have hB2 := hid (hB1.out.alloc hB1.out.size (.cells zM 29))
  have q2 := hid (Blk.new w1 zM 29)
  have q3 := hid (q1.out.alloc (.cells zM 29))
  have hth := hid (blk_there q2.out (o := 0) (n := (mC vr vm ⟨R0, R1, 0, 1, false⟩).size) (by show 0 + 5 ≤ 5; omega))
  have hon := hid (mC_oneN ⟨R0, R1, 0, 1, false⟩ o1 o2)
  have hm2 : Hid (MemO (w1.alloc (.cells zM 29)) w.heap.size w1.heap.size (memV vr vm 0 1 false) ⟨R0, R1, 0, 1, false⟩) := (hm.mono (by have := hVs.out; omega) (Nat.le_refl _)).kept (fun b _ hb => Below.heap_alloc _ _ _ hb)
  have hne : w.heap.size ≠ w1.heap.size := by have := q1.out.lt; omega
  have hw1 : Hid (w.heap.size ≤ w1.heap.size) := hB1.out.size
  have hlow : Hid (∀ b, w.heap.size < b → b < w1.heap.size → True) := fun _ _ _ => trivial
  have hm3 : Hid (MemO (w1.alloc (.cells zM 29)) V.heap.size w1.heap.size (memV vr vm 0 1 false) ⟨R0, R1, 0, 1, false⟩) := hm.kept (fun b _ hb => Below.heap_alloc _ _ _ hb)
  obtain ⟨wF, hwF⟩ : ∃ X, (w1.alloc (.cells zM 29)).setCells w1.heap.size 0 (mC vr vm ⟨R0, R1, 0, 1, false⟩).toList = X := ⟨_, rfl⟩
  have hBF : Hid (Below w.heap.size w wF) := by rw [← hwF]; exact layE_below _ 0 _ hB1.out.size hB2.out
  have qF : Hid (Blk wF w1.heap.size (mC vr vm ⟨R0, R1, 0, 1, false⟩)) := by
    rw [← hwF]
    exact layE_blk w1.heap.size (mC vr vm ⟨R0, R1, 0, 1, false⟩).toList _ 0 _ q2.out
  have qG : Hid (Blk wF w.heap.size zM) := by rw [← hwF]; exact layE_other hne _ _ _ q3.out
  have mF : Hid (MemO wF V.heap.size w1.heap.size (memV vr vm 0 1 false) ⟨R0, R1, 0, 1, false⟩) := by
    rw [← hwF]
    exact hm3.out.kept (fun b _ hb => layE_heap _ _ _ _ (by omega))
  have hsF : Hid (wF.heap.size = w1.heap.size + 1) := by unfold Hid; rw [← hwF, size_cells, World.size_alloc]
  replace hwF := hid hwF
  clear hm hb hN hB o1 o2 q0 q1 q2 q3 hB1 hB2 hm2 hm3 hlow
  go_upto_region 2 with (guard_target = wpList _ _ _ (Oper.mk _ (Op.store _ _ _) _ _ _ _ :: _) _ _; refine wpList_store_mid rfl 29 _ _ rfl w1.heap.size 0 (mC vr vm ⟨R0, R1, 0, 1, false⟩) rfl rfl hth.out (szM2 _ _ _) hon.out ?_; rw [hwF.out])
  go_wp2_with fail
  refine (hA.out _ _).mono ?_
  rintro e w3 ⟨rfl, hww⟩
  obtain rfl := hww.symm
  have x1 : Hid (wF.rangeAt w1.heap.size 0 [vr, vm, .int .i64 0, .int .i64 1, .bool false]) := hid (blk_range qF.out [] _ [] rfl)
  have hth2 := hid (blk_there qG.out (o := 0) (n := (mC vr vm ⟨R0, R1, 0, 1, false⟩).size) (by show 0 + 5 ≤ 5; omega))
  obtain ⟨wZ, hwZ⟩ : ∃ X, wF.setCells w.heap.size 0 (mC vr vm ⟨R0, R1, 0, 1, false⟩).toList = X := ⟨_, rfl⟩
  have qZ : Hid (Blk wZ w.heap.size (mC vr vm ⟨R0, R1, 0, 1, false⟩)) := by
    rw [← hwZ]
    exact layE_blk w.heap.size (mC vr vm ⟨R0, R1, 0, 1, false⟩).toList _ 0 _ qG.out
  have hBZ : Hid (Below w.heap.size w wZ) := by rw [← hwZ]; exact layE_below _ 0 _ (Nat.le_refl _) hBF.out
  have mZ : Hid (MemO wZ w.heap.size wZ.heap.size (memV vr vm 0 1 false) ⟨R0, R1, 0, 1, false⟩) := by
    have hz : wZ.heap.size = w1.heap.size + 1 := by rw [← hwZ, size_cells]; exact hsF.out
    have hv := hVs.out
    rw [hz]
    have := mF.out.kept (w' := wZ) (fun b hb1 hb2 => by rw [← hwZ]; exact layE_heap _ _ _ _ (by omega))
    exact this.mono (by omega) (by omega)
  replace hwZ := hid hwZ
  clear qF qG mF hBF hA hth hwF
  go_wp2_with (first | (refine wpList_load_mid rfl 29 _ rfl w1.heap.size 0 rfl [vr, vm, .int .i64 0, .int .i64 1, .bool false] _ x1.out Tryz.underlying29 rfl (szM _ _ _ _ _) ?_) | (guard_target = wpList _ _ _ (Oper.mk _ (Op.store _ _ _) _ _ _ _ :: _) _ _; refine wpList_store_mid rfl 29 _ _ rfl w.heap.size 0 (mC vr vm ⟨R0, R1, 0, 1, false⟩) rfl rfl hth2.out (szM2 _ _ _) hon.out ?_; rw [hwZ.out]))
  obtain ⟨tt, htt⟩ := qZ.out
  exact bodyPost_ret (v := memV vr vm 0 1 false) (results_cell_row Tryz.results42 _ _ w.heap.size tt (mC vr vm ⟨R0, R1, 0, 1, false⟩) (0, 0) _ rfl htt Tryz.underlying29 rfl (szM2 _ _ _)) rfl ⟨vr, vm, rfl, mZ.out, hBZ.out⟩
set_option maxRecDepth 100000 in
set_option maxHeartbeats 1000000 in
theorem end_good {w0 W : World} {e0 e1 e2 : Addr} {B a : Nat} {t : ByteArray} (h : Rdr w0 W e0 e1 e2 B t a) (he : a = t.size) :
    Calls Tryz.prog 45 #[.pointer (some ⟨B, 0, none⟩)] W fun e w' => e = .returned (.tuple #[]) ∧ Below W.heap.size W w' := by
  have hW := hid (fun w => whenS_impl false 8 w)
  have hA := hid (fun p w => ask_ok p w)
  have hz : whS false 8 = 0 := rfl
  rw [hz] at hW
  have x0 := h.blk.cell
  have hlt : decide ((a : Int) < (t.size : Int)) = false := decide_eq_false (by omega)
  have hlt2 : decide (a < t.size) = false := decide_eq_false (by omega)
  clear hz h he
  go_enter Tryz.func45, Tryz.ntmps45
  go_upto_region 0 with fail
  go_region_with (first | (go_at_call 77; refine (hW.out _).mono ?_; rintro e w' ⟨rfl, hww⟩; obtain rfl := hww.symm) | (go_at_call 70; refine (hA.out _ _).mono ?_; rintro e w' ⟨rfl, hww⟩; obtain rfl := hww.symm))
  all_goals go_wp2_with fail
  all_goals exact bodyPost_end (v := .tuple #[]) (by simp [results, Tryz.results45]) rfl ⟨rfl, (Below.refl _ _).drew⟩
set_option maxRecDepth 100000 in
set_option maxHeartbeats 1000000 in
theorem end_bad {w0 W : World} {e0 e1 e2 : Addr} {B a : Nat} {t : ByteArray} (h : Rdr w0 W e0 e1 e2 B t a) (he : a < t.size) :
    Calls Tryz.prog 45 #[.pointer (some ⟨B, 0, none⟩)] W fun e w' => e = .panicked (ftV 8) ∧ Below W.heap.size W w' := by
  have hW := hid (fun w => whenS_impl true 8 w)
  have hA := hid (fun p w => ask_bad p 8 w (by decide))
  have hz : whS true 8 = 8 := rfl
  rw [hz] at hW
  clear hz
  go_enter Tryz.func45, Tryz.ntmps45
  go_upto_region 0 with fail
  refine ne_reg _ W _ B a t (ftV 8) (fun W w' => w' = W) rfl (fun W' hb => (h.blk.below hb h.blk.lt).cell 0) (fun W' hb => (h.blk.below hb h.blk.lt).cell 1) he hW.out (fun W' hb => hA.out _ _) (fun a W' w' hd _ hb k => ?_) (by simp) (fun _ _ h => h.elim)
  subst k
  exact ⟨hd, rfl, hb⟩
end Go.Proofs.YtghcagibdcblnaaGreatDoor
