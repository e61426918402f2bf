/- A bank of a snapshot's text is read: the program. -/
import Derived.Test.YtghcagibdcblnaaDoorNjr
import Derived.Test.YtghcagibdcblnaaDoorEpr
import Derived.Test.YtghcagibdcblnaaDoorLtr
import Derived.Test.YtghcagibdcblnaaDoorBjr
namespace Go.Proofs.YtghcagibdcblnaaDoor
open Go.ChangeShapes Go.WideShapes Go.ChangeAt Go.RowKit
set_option linter.unusedVariables false
set_option linter.unusedSimpArgs false

theorem romL_bts (s : ByteArray) : romL s = bts s := by
  refine List.ext_getElem? (fun i => ?_)
  by_cases h : i < s.size
  · rw [bts_at s h]
    simp [romL, List.getElem?_range h]
  · rw [List.getElem?_eq_none (by rw [romL_len]; omega), List.getElem?_eq_none (by rw [bts_len]; omega)]
def bkN (t : ByteArray) (a : Nat) : Nat := (byt t a + 256 * byt t (a + 1)).toNat
/-- what stands packed at a place -/
def bkX (t : ByteArray) (a : Nat) : ByteArray := t.extract (a + 2) (a + 2 + bkN t a)
/-- the code of the bank at a place -/
def bkC (t : ByteArray) (a : Nat) : Int := if t.size < a + 2 then 9 else if t.size < a + 2 + bkN t a then 9 else (expE 64 (bts (bkX t a)) []).2
def bkL (t : ByteArray) (a : Nat) : List Int := (expE 64 (bts (bkX t a)) []).1
theorem bkN_le (t : ByteArray) (a : Nat) : bkN t a ≤ 65535 ∧ byt t a + 256 * byt t (a + 1) = (bkN t a : Int) := by
  have h1 := byt_bd t a
  have h2 := byt_bd t (a + 1)
  unfold bkN
  omega
theorem exp2_64 {p : ByteArray} (h : p.size ≤ 65536) : exp2 p 64 = (strOfNums (expE 64 (bts p) []).1, (expE 64 (bts p) []).2) := by
  unfold exp2
  rw [if_neg (by omega), if_pos (by decide)]
  rfl
/-- the word is taken, and what it tells of -/
theorem bank_word {a : Nat} {t : ByteArray} (W : World) (hn : a + 2 ≤ t.size) :
    Calls Tryd.prog 49 #[.string (t.extract a (a + 2))] W fun e w' => e = .returned (.int .i64 (bkN t a : Int)) ∧ w' = W.drew := by
  have := wordOf_impl (t.extract a (a + 2)) W (by rw [ByteArray.size_extract]; omega)
  have e0 : byt (t.extract a (a + 2)) 0 = byt t a := by
    have := byt_extract t (i := a) (e := a + 2) (j := 0) (by omega) hn
    simpa using this
  rw [e0, byt_extract t (i := a) (e := a + 2) (j := 1) (by omega) hn, (bkN_le t a).2] at this
  exact this
set_option maxRecDepth 100000 in
set_option maxHeartbeats 2000000 in
theorem bank_bad {w0 W : World} {e0 e1 e2 : Addr} {B a : Nat} {t : ByteArray} (h : Rdr w0 W e0 e1 e2 B t a) (hc : bkC t a ≠ 0) :
    Calls Tryd.prog 27 #[.pointer (some ⟨B, 0, none⟩)] W fun e w' => e = .panicked (ftV (bkC t a)) ∧ Kd [B] W w' := by
  by_cases h1 : t.size < a + 2
  · have hE : bkC t a = 9 := by unfold bkC; rw [if_pos h1]
    rw [hE]
    have hT := hid (bytes_end h 2 h1 (by omega))
    clear hE hc h1
    go_enter Tryd.func27, Tryd.ntmps27
    go_wp2_with fail
    refine hT.out.mono ?_
    rintro e w1 ⟨rfl, hb⟩
    exact ⟨rfl, rfl, Kd.of_below hb⟩
  have hT := hid (bytes_ok h 2 (by omega))
  have hw := hid (fun X => bank_word (a := a) (t := t) X (by omega))
  have hnl := (bkN_le t a).1
  have hC := hid (fun X (hX : Rdr w0 X e0 e1 e2 B t (a + 2)) (hh : t.size < a + 2 + bkN t a) => bytes_end hX (bkN t a) hh (by omega))
  have hC2 := hid (fun X (hX : Rdr w0 X e0 e1 e2 B t (a + 2)) (hh : a + 2 + bkN t a ≤ t.size) => bytes_ok hX (bkN t a) hh)
  have hE : bkC t a = if t.size < a + 2 + bkN t a then 9 else (expE 64 (bts (bkX t a)) []).2 := by unfold bkC; rw [if_neg h1]
  have hX0 : t.extract (a + 2) (a + 2 + bkN t a) = bkX t a := rfl
  have hXs : (bkX t a).size ≤ 65536 := by have := h.sz; unfold bkX; rw [ByteArray.size_extract]; omega
  rw [hX0] at hC2
  rw [hE] at hc ⊢
  have hP := hid (fun X (hE' : Errs X e0 e1 e2) => exp_implE (bkX t a) 64 e0 e1 e2 X (by unfold maxLen; omega) hE')
  rw [exp2_64 hXs] at hP
  dsimp only at hP
  generalize t.extract a (a + 2) = Y at *
  generalize bkX t a = X at *
  generalize bkN t a = n at *
  clear h hE hX0 hXs hnl
  by_cases h2 : t.size < a + 2 + n
  · rw [if_pos h2] at hc ⊢
    replace h1 := hid h1
    replace h2 := hid h2
    clear hP hC2 hc
    go_enter Tryd.func27, Tryd.ntmps27
    go_wp2_with fail
    refine hT.out.mono ?_
    rintro e w1 ⟨rfl, r1, k1⟩
    replace r1 := hid r1
    replace k1 := hid k1
    clear hT
    go_wp2_with fail
    refine (hw.out _).mono ?_
    rintro e w2 ⟨rfl, rfl⟩
    have r2 := hid (r1.out.below (Below.refl w1.heap.size w1).drew)
    have k2 := hid (k1.out.trans (Kd.of_below (xs := [B]) (Below.refl w1.heap.size w1).drew))
    go_wp2_with fail
    refine (hC.out _ r2.out h2.out).mono ?_
    rintro e w3 ⟨rfl, hb⟩
    exact ⟨rfl, rfl, k2.out.trans (Kd.of_below hb)⟩
  · rw [if_neg h2] at hc ⊢
    have hA := hid (fun p w => ask_bad p (expE 64 (bts X) []).2 w hc)
    generalize strOfNums (expE 64 (bts X) []).1 = Z at *
    generalize (expE 64 (bts X) []).2 = c at *
    replace h1 := hid h1
    replace h2 : Hid (a + 2 + n ≤ t.size) := by unfold Hid; omega
    clear hC hc
    go_enter Tryd.func27, Tryd.ntmps27
    go_wp2_with fail
    refine hT.out.mono ?_
    rintro e w1 ⟨rfl, r1, k1⟩
    replace r1 := hid r1
    replace k1 := hid k1
    clear hT
    go_wp2_with fail
    refine (hw.out _).mono ?_
    rintro e w2 ⟨rfl, rfl⟩
    have r2 := hid (r1.out.below (Below.refl w1.heap.size w1).drew)
    have k2 := hid (k1.out.trans (Kd.of_below (xs := [B]) (Below.refl w1.heap.size w1).drew))
    clear r1 k1
    go_wp2_with fail
    refine (hC2.out _ r2.out h2.out).mono ?_
    rintro e w3 ⟨rfl, r3, k3⟩
    replace r3 := hid r3
    have k4 := hid (k2.out.trans k3)
    clear r2 k2 k3 hw hC2
    go_wp2_with fail
    refine (hP.out _ r3.out.errsW).mono ?_
    rintro e w4 ⟨rfl, hb⟩
    have k5 : Hid (Kd [B] W w4) := k4.out.trans (Kd.of_below hb)
    clear hb k4 r3 hP
    go_wp2_with fail
    refine (hA.out _ _).mono ?_
    rintro e w5 ⟨rfl, rfl⟩
    exact ⟨rfl, rfl, k5.out⟩
set_option maxRecDepth 100000 in
set_option maxHeartbeats 2000000 in
theorem bank_good {w0 W : World} {e0 e1 e2 : Addr} {B a : Nat} {t : ByteArray} (h : Rdr w0 W e0 e1 e2 B t a) (hc : bkC t a = 0) :
    Calls Tryd.prog 27 #[.pointer (some ⟨B, 0, none⟩)] W fun e w' => ∃ g, e = .returned (.slice (some ⟨g, 0, none⟩) 64 64) ∧ W.heap.size ≤ g ∧ RowO w' g (.slice (some ⟨g, 0, none⟩) 64 64) (bkL t a) ∧ Rdr w0 w' e0 e1 e2 B t (a + 2 + bkN t a) ∧ Kd [B] W w' := by
  have h1 : ¬ t.size < a + 2 := fun h1 => by unfold bkC at hc; rw [if_pos h1] at hc; cases hc
  have h2 : ¬ t.size < a + 2 + bkN t a := fun h2 => by unfold bkC at hc; rw [if_neg h1, if_pos h2] at hc; cases hc
  have hcz : (expE 64 (bts (bkX t a)) []).2 = 0 := by unfold bkC at hc; rw [if_neg h1, if_neg h2] at hc; exact hc
  obtain ⟨hz1, hz2⟩ := bank_ok hcz
  have hT := hid (bytes_ok h 2 (by omega))
  have hw := hid (fun X => bank_word (a := a) (t := t) X (by omega))
  have hC2 := hid (fun X (hX : Rdr w0 X e0 e1 e2 B t (a + 2)) => bytes_ok hX (bkN t a) (by omega))
  have hX0 : t.extract (a + 2) (a + 2 + bkN t a) = bkX t a := rfl
  have hXs : (bkX t a).size ≤ 65536 := by have := h.sz; unfold bkX; rw [ByteArray.size_extract]; omega
  rw [hX0] at hC2
  have hP := hid (fun X (hE' : Errs X e0 e1 e2) => exp_implE (bkX t a) 64 e0 e1 e2 X (by unfold maxLen; omega) hE')
  rw [exp2_64 hXs, hcz] at hP
  dsimp only at hP
  have hA := hid (fun p w => ask_ok p w)
  have hrow : Hid (romL (strOfNums (expE 64 (bts (bkX t a)) []).1) = bkL t a) := by
    unfold Hid
    rw [romL_bts, hz2]
    rfl
  generalize bkL t a = L at *
  generalize t.extract a (a + 2) = Y at *
  generalize strOfNums (expE 64 (bts (bkX t a)) []).1 = Z at *
  generalize bkX t a = X at *
  generalize bkN t a = n at *
  have hcv := hid (fun W' => convT Z W')
  have hcp := hid (fun p b cap W' hp hh => bcopied_impl p b cap Z W' hp hh (by omega))
  have hzs := hid hz1
  rw [hz1] at hcv hcp
  clear h hX0 hXs hc h1 h2 hcz hz2 hz1
  go_enter Tryd.func27, Tryd.ntmps27
  go_wp2_with fail
  refine hT.out.mono ?_
  rintro e w1 ⟨rfl, r1, k1⟩
  replace r1 := hid r1
  replace k1 := hid k1
  clear hT
  go_wp2_with fail
  refine (hw.out _).mono ?_
  rintro e w2 ⟨rfl, rfl⟩
  have r2 := hid (r1.out.below (Below.refl w1.heap.size w1).drew)
  have k2 := hid (k1.out.trans (Kd.of_below (xs := [B]) (Below.refl w1.heap.size w1).drew))
  clear r1 k1
  go_wp2_with fail
  refine (hC2.out _ r2.out).mono ?_
  rintro e w3 ⟨rfl, r3, k3⟩
  replace r3 := hid r3
  have k4 := hid (k2.out.trans k3)
  clear r2 k2 k3 hw hC2
  go_wp2_with fail
  refine (hP.out _ r3.out.errsW).mono ?_
  rintro e w4 ⟨rfl, hb⟩
  have r5 := hid (r3.out.below hb)
  have k5 : Hid (Kd [B] W w4) := k4.out.trans (Kd.of_below hb)
  clear hb k4 r3 hP
  go_wp2_with fail
  refine (hA.out _ _).mono ?_
  rintro e w5 ⟨rfl, rfl⟩
  obtain ⟨cp, w6, hcvr, hcpp, hcell, hs6, hb6⟩ := hcv.out w5
  have r6 := hid (r5.out.below hb6)
  have k6 : Hid (Kd [B] W w6) := k5.out.trans (Kd.of_below hb6)
  have hl5 : Hid (W.heap.size ≤ w5.heap.size) := k5.out.size
  replace hcell := hid hcell
  clear hb6 r5 k5 hA hcv
  go_upto_region 5 with fail
  have r7 := hid (r6.out.below ((Below.refl w6.heap.size w6).alloc (Nat.le_refl _) (.cells #[.slice (some ⟨w5.heap.size, 0, none⟩) 64 cp] 87)))
  have k7 := hid (k6.out.alloc (.cells #[.slice (some ⟨w5.heap.size, 0, none⟩) 64 cp] 87))
  have q7 := hid (Blk.new w6 #[.slice (some ⟨w5.heap.size, 0, none⟩) 64 cp] 87)
  have hcell7 : Hid (∀ i, i < 64 → (w6.alloc (.cells #[.slice (some ⟨w5.heap.size, 0, none⟩) 64 cp] 87)).cell? ⟨w5.heap.size, i, none⟩ = some (.int .u8 (byt Z i))) := fun i hi => by
    rw [((Below.refl w6.heap.size w6).alloc (Nat.le_refl _) (.cells #[.slice (some ⟨w5.heap.size, 0, none⟩) 64 cp] 87)).cell (p := ⟨w5.heap.size, i, none⟩) (by simp; omega)]
    exact hcell.out i (by rw [hzs.out]; exact hi)
  rw [hs6] at q7
  obtain ⟨V, hV⟩ : ∃ V, w6.alloc (Obj.cells #[.slice (some ⟨w5.heap.size, 0, none⟩) 64 cp] 87) = V := ⟨_, rfl⟩
  rw [hV] at r7 k7 q7 hcell7 ⊢
  obtain ⟨G, hG⟩ : ∃ G, w5.heap.size = G := ⟨_, rfl⟩
  rw [hG] at hl5 q7 hcell7 ⊢
  clear hV hG hcvr r6 k6 hcell hs6 hcpp
  go_wp2_with fail
  refine (hcp.out (G + 1) G cp V (q7.out.cell 0) hcell7.out).mono ?_
  rintro e w8 ⟨g, rfl, hg, qb, row, hb⟩
  have r8 := hid (r7.out.below hb)
  have k8 : Hid (Kd [B] W w8) := k7.out.trans (Kd.of_below hb)
  have hgl : Hid (W.heap.size ≤ g) := by have := k7.out.size; unfold Hid; omega
  rw [hrow.out] at row
  replace row := hid row
  have x0 := qb.cell
  have xl := qb.lt
  clear hb r7 k7 hcp q7 hcell7 hg qb
  go_wp2_with fail
  go_ret
  exact ⟨g, rfl, hgl.out, row.out, r8.out, k8.out⟩
end Go.Proofs.YtghcagibdcblnaaDoor
