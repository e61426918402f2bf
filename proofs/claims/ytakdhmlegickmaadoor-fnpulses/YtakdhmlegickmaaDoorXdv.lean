/- The blocks that are heard, one by one to whoever asks for them: the program's iterator. -/
import Derived.Test.YtakdhmlegickmaaDoorXcv
import Derived.Test.YtakdhmlegickmaaDoorZuv
namespace Go.Proofs.YtakdhmlegickmaaDoor
open Go.ChangeShapes Go.WideShapes Go.ChangeAt Go.RowKit Go.Shelf
attribute [local go_sem] Oper.semAt_some
set_option linter.unusedVariables false
set_option linter.unusedSimpArgs false

/-- pulses, wherever they lie -/
def RowE (w : World) (a : Option Addr) (cap : Nat) (L : List Int) : Prop := L = [] ∨ ∃ b off, a = some ⟨b, off, none⟩ ∧ RowC w b off cap L
theorem RowC.back {w W : World} {b off cap : Nat} {L : List Int} (h : RowC W b off cap L) (hb : Below w.heap.size w W) (hl : b < w.heap.size) : RowC w b off cap L :=
  ⟨h.c, fun i hi => by rw [← hb.cell (p := ⟨b, off + i, none⟩) hl]; exact h.r i hi⟩
theorem Suf.all {R L : List Int} (h : Suf R L) (ha : allP R = true) : allP L = true := by
  obtain ⟨j, _, rfl⟩ := h
  exact allP_drop ha j
theorem hbB_code (P : List Int) : (hbB P).2 = 0 ∨ (hbB P).2 = 15 ∨ (hbB P).2 = 16 ∨ (hbB P).2 = 17 ∨ (hbB P).2 = 8 ∨ (hbB P).2 = 10 := by
  unfold hbB
  split
  · exact .inr (.inl rfl)
  split
  · exact .inr (.inr (.inl rfl))
  split
  · exact .inr (.inr (.inr (.inl rfl)))
  · have := ofB_code (strOfNums (hear (P.drop (pilC P + 2)) 0 0 []).1)
    show (ofB _).2 = 0 ∨ (ofB _).2 = 15 ∨ _
    omega
theorem decL_code : ∀ (f : Nat) (P : List Int) (acc : List (Int × ByteArray)), (decL f P acc).2 = 0 ∨ (decL f P acc).2 = 15 ∨ (decL f P acc).2 = 16 ∨ (decL f P acc).2 = 17 ∨ (decL f P acc).2 = 8 ∨ (decL f P acc).2 = 10 ∨ (decL f P acc).2 = 6 := by
  intro f
  induction f with
  | zero => intro P acc; exact .inl rfl
  | succ f ih =>
    intro P acc
    have e : decL (f + 1) P acc = if 0 < P.length then (if (hbB P).2 ≠ 0 then ([], (hbB P).2) else if acc.length = 6 then ([], 6) else decL f ((hbB P).1.2.drop 1) (acc ++ [(hbB P).1.1])) else (acc, 0) := rfl
    rw [e]
    have hc := hbB_code P
    split
    · split
      · show (hbB P).2 = 0 ∨ _
        omega
      · split
        · exact .inr (.inr (.inr (.inr (.inr (.inr rfl)))))
        · exact ih _ _
    · exact .inl rfl
theorem decL_len : ∀ (f : Nat) (P : List Int) (acc : List (Int × ByteArray)), acc.length ≤ 6 → (decL f P acc).1.length ≤ 6 := by
  intro f
  induction f with
  | zero => intro P acc h; exact h
  | succ f ih =>
    intro P acc h
    have e : decL (f + 1) P acc = if 0 < P.length then (if (hbB P).2 ≠ 0 then ([], (hbB P).2) else if acc.length = 6 then ([], 6) else decL f ((hbB P).1.2.drop 1) (acc ++ [(hbB P).1.1])) else (acc, 0) := rfl
    rw [e]
    split
    · split
      · exact Nat.zero_le _
      · split
        · exact Nat.zero_le _
        · exact ih _ _ (by rw [List.length_append]; simp; omega)
    · exact h
set_option maxRecDepth 100000 in
set_option maxHeartbeats 4000000 in
theorem heard_impl (p : Pk) (P : List Int) (a : Option Addr) (cap : Nat) (e3 e4 e5 e6 e7 e8 : Addr) (hE : ErrP p.w e3 e4 e6 e7 e8) (hY1 : Yok p) (hY2 : Yerr p) (hY3 : Ymany p e5) (W : World) (h : Ry p W (.slice none 0 0) []) (hl : P.length ≤ 4096) (ha : allP P = true) (BT : Nat) (hBT : Blk p.w BT #[.slice a P.length cap]) (hR : RowE p.w a cap P) :
    Calls Tryd.prog 70 #[.func (.yield p.L) #[] #[], .pointer (some ⟨BT, 0, none⟩)] W fun e W' => e = .returned (.tuple #[]) ∧ ItP p W' (decL (P.length + 1) P []).1 (errP e3 e4 e5 e6 e7 e8 (decL (P.length + 1) P []).2) := by
  have xbt := hBT.below h.bel hBT.lt
  have xb := xbt.cell
  have hbt := xbt.lt
  clear xbt hBT
  obtain ⟨Z, hZ⟩ : ∃ Z, decL (P.length + 1) P [] = Z := ⟨_, rfl⟩
  rw [hZ]
  replace hZ := hid hZ
  replace h := hid h
  replace hR := hid hR
  replace hY1 := hid hY1
  replace hY2 := hid hY2
  replace hY3 := hid hY3
  replace hE := hid hE
  replace ha := hid ha
  refine (callsIn_wide (n := 3)).1 (callsIn_of_wp Tryd.func70 rfl trivial ?_ rfl)
  simp only [Tryd.ntmps70, List.size_toArray, List.length_cons, List.length_nil, Nat.reduceAdd, Nat.reduceSub, Array.replicate_succ, Array.replicate_zero, List.push_toArray, List.append_toArray, List.nil_append, List.cons_append]
  gi_wp2
  clear xb hbt
  gi_loopw [3] (fun t3 wr => ∃ (f : Nat) (a : Option Addr) (cap : Nat) (L : List Int) (cv : Value) (acc : List (Int × ByteArray)), t3 = .slice a L.length cap ∧ RowE p.w a cap L ∧ Ry p wr cv acc ∧ decL f L acc = Z ∧ L.length < f ∧ allP L = true ∧ L.length ≤ 4096 ∧ acc.length ≤ 6) (fun t3 _ => slen t3)
  case atStart => exact ⟨P.length + 1, a, cap, P, _, [], rfl, hR.out, h.out, hZ.out, by omega, ha.out, hl, by simp⟩
  case round =>
    obtain ⟨f, a, cap, L, cv, acc, rfl, hRw, hRy, hZ2, hf, haL, hlL, hacc⟩ := hrel
    clear hZ h hR ha
    by_cases hlt : 0 < L.length
    · obtain ⟨f, rfl⟩ : ∃ f', f = f' + 1 := ⟨f - 1, by omega⟩
      obtain ⟨b, off, rfl, hC⟩ : ∃ b off, a = some ⟨b, off, none⟩ ∧ RowC p.w b off cap L := by
        rcases hRw with rfl | h'
        · simp at hlt
        · exact h'
      have hbl : b < p.w.heap.size := World.block_lt_of_cell? p.w _ (hC.r 0 hlt)
      have hT := hid (fun V (hV : RowC V b off cap L) (hV2 : ErrP V e3 e4 e6 e7 e8) => heardBlock_impl b off cap L e3 e4 e5 e6 e7 e8 V hV hlL haL hV2)
      have hk := @hbB_len L
      have hE9 : decL (f + 1) L acc = if 0 < L.length then (if (hbB L).2 ≠ 0 then ([], (hbB L).2) else if acc.length = 6 then ([], 6) else decL f ((hbB L).1.2.drop 1) (acc ++ [(hbB L).1.1])) else (acc, 0) := rfl
      rw [if_pos hlt, hZ2] at hE9
      clear hZ2
      obtain ⟨X, hX⟩ : ∃ X, hbB L = X := ⟨_, rfl⟩
      rw [hX] at hT hk hE9
      clear hX
      obtain ⟨⟨⟨F, D⟩, M⟩, c⟩ := X
      simp only at hk hE9 hT
      have hEr := hid (hE.out.below hRy.bel)
      have hCW := hid (hC.below hRy.bel)
      have hbelW := hid hRy.bel
      replace hRy := hid hRy
      replace hk := hid hk
      replace hE9 := hid hE9
      have hltb : decide ((0 : Int) < (L.length : Int)) = true := decide_eq_true (by omega)
      gi_wp2_with fail
      refine ⟨trivial, ?_⟩
      refine (callsIn_wide.2 (hT.out _ hCW.out hEr.out)).mono ?_
      rintro e w1 ⟨⟨sv, rfl, hSv⟩, hb⟩
      have hal : Below w1.heap.size w1 (w1.alloc (.cells (bkA F D) 33)) := (Below.refl _ _).alloc (Nat.le_refl _) _
      have q5 := hid (Blk.new w1 (bkA F D) 33)
      have hR1 := hid ((hRy.out.below hb).below hal)
      clear hal hb hRy hT hEr hCW
      by_cases hc : c = 0
      · subst hc
        obtain ⟨off', cap', hSu, hsv, hCr⟩ := hSv rfl
        simp only at hSu hsv hCr
        subst hsv
        have hML := hk.out rfl
        have hE2 := hE9.out
        rw [if_neg (by omega)] at hE2
        replace hE2 := hid hE2
        have hCr2 := hid (hCr.back hbelW.out hbl)
        have haM := hid (hSu.all haL)
        clear hE9 hk hSv hCr
        have er : errP e3 e4 e5 e6 e7 e8 0 = .nilIface := rfl
        dsimp only
        rw [er]
        clear er
        obtain ⟨b4, eb4⟩ : ∃ b, w1.heap.size = b := ⟨_, rfl⟩
        obtain ⟨W2, eW⟩ : ∃ W, w1.alloc (.cells (bkA F D) 33) = W := ⟨_, rfl⟩
        rw [eW, eb4] at q5
        rw [eW] at hR1
        have x5 := q5.out.cell
        by_cases h6 : acc.length = 6
        · have hE3 := hE2.out
          rw [if_pos h6] at hE3
          subst hE3
          obtain ⟨fn, tmps, assign, body, hy, hR⟩ := hY3.out 2 W2 cv acc F D hR1.out h6
          replace hR := hid hR
          clear hE2 h6
          gi_wp2
          refine hR.out.mono ?_
          rintro e W3 ⟨rfl, hx3⟩
          replace hx3 := hid hx3
          clear hy hR x5
          gi_wp2
          exact bodyPost_ret (results_none rfl _ _ _) rfl ⟨rfl, .inr ⟨rfl, e5, rfl, hx3.out⟩⟩
        · have hE3 := hE2.out
          rw [if_neg h6] at hE3
          replace hE3 := hid hE3
          obtain ⟨fn, tmps, assign, body, hy, hR⟩ := hY1.out 2 W2 cv acc F D hR1.out (by omega)
          replace hR := hid hR
          clear hE2
          gi_wp2
          refine hR.out.mono ?_
          rintro e W3 ⟨rfl, cv', hr3, _, _, _⟩
          replace hr3 := hid hr3
          have hcM := hCr2.out.c
          clear hy hR x5 eW eb4
          by_cases hM : 0 < M.length
          · have hm1 : min (1 : Int) (M.length : Int) = 1 := by omega
            have hM1 : (1 : Int) ≤ (M.length : Int) := by omega
            have hMc : 1 ≤ M.length := by omega
            gi_wp2
            go_roundw
            case rel =>
              by_cases hc2 : cap' = 1
              · exact ⟨f, some ⟨b, off', none⟩, cap' - 1, M.drop 1, cv', _, by first | rw [if_pos hc2, List.length_drop] | (subst hc2; rw [List.length_drop]; rfl), .inr ⟨b, off', rfl, by rw [List.length_drop]; omega, fun i hi => by rw [List.length_drop] at hi; omega⟩, hr3.out, hE3.out.symm, by rw [List.length_drop]; omega, allP_drop haM.out 1, by rw [List.length_drop]; omega, by rw [List.length_append]; simp; omega⟩
              · exact ⟨f, some ⟨b, off' + 1, none⟩, cap' - 1, M.drop 1, cv', _, by first | rw [if_neg hc2, List.length_drop] | (rw [List.length_drop]; rfl), .inr ⟨b, off' + 1, rfl, hCr2.out.drop 1 (by omega)⟩, hr3.out, hE3.out.symm, by rw [List.length_drop]; omega, allP_drop haM.out 1, by rw [List.length_drop]; omega, by rw [List.length_append]; simp; omega⟩
            case measure => simp [slen]; omega
          · have hM0 : M = [] := List.length_eq_zero_iff.1 (by omega)
            subst hM0
            gi_wp2
            go_roundw
            case rel => exact ⟨f, _, _, [], cv', _, rfl, .inl rfl, hr3.out, hE3.out.symm, by simp; omega, rfl, by simp, by rw [List.length_append]; simp; omega⟩
            case measure => simp [slen]; omega
      · have hE2 := hE9.out
        rw [if_pos hc] at hE2
        subst hE2
        obtain ⟨x, hx⟩ := errP_some e3 e4 e5 e6 e7 e8 c hc
        dsimp only
        rw [hx]
        replace hx := hid hx
        clear hE9 hk hSv
        obtain ⟨b4, eb4⟩ : ∃ b, w1.heap.size = b := ⟨_, rfl⟩
        obtain ⟨W2, eW⟩ : ∃ W, w1.alloc (.cells (bkA F D) 33) = W := ⟨_, rfl⟩
        rw [eW, eb4] at q5
        rw [eW] at hR1
        have x5 := q5.out.cell
        obtain ⟨fn, tmps, assign, body, hy, hR⟩ := hY2.out 2 W2 cv acc F D x hR1.out
        replace hR := hid hR
        gi_wp2
        refine hR.out.mono ?_
        rintro e W3 ⟨rfl, hx3⟩
        replace hx3 := hid hx3
        clear hy hR x5
        gi_wp2
        exact bodyPost_ret (results_none rfl _ _ _) rfl ⟨rfl, .inr ⟨rfl, x, hx.out, by show Rx p _ (errP e3 e4 e5 e6 e7 e8 c); rw [hx.out]; exact hx3.out⟩⟩
    · have hL0 : L = [] := List.length_eq_zero_iff.1 (by omega)
      subst hL0
      have hE9 : decL f [] acc = (acc, 0) := by
        cases f with
        | zero => rfl
        | succ f => rfl
      rw [hZ2] at hE9
      subst hE9
      replace hRy := hid hRy
      clear hZ2
      gi_wp2
      exact bodyPost_end (v := .tuple #[]) (by simp [results, Tryd.results70]) rfl ⟨rfl, .inl ⟨cv, hRy.out, rfl⟩⟩
end Go.Proofs.YtakdhmlegickmaaDoor
