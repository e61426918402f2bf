/- A block that is heard: the program. -/
import Derived.Test.YtakdhmlegickmaaDoorXbv
namespace Go.Proofs.YtakdhmlegickmaaDoor
open Go.ChangeShapes Go.WideShapes Go.ChangeAt Go.RowKit
set_option linter.unusedVariables false
set_option linter.unusedSimpArgs false

structure ErrP (w : World) (e3 e4 e6 e7 e8 : Addr) : Prop where
  b : ErrB w e3 e4
  c6 : w.cell? ⟨4, 0, none⟩ = some (iE e6)
  c7 : w.cell? ⟨5, 0, none⟩ = some (iE e7)
  c8 : w.cell? ⟨6, 0, none⟩ = some (iE e8)
theorem ErrP.below {w w' : World} {e3 e4 e6 e7 e8 : Addr} (h : ErrP w e3 e4 e6 e7 e8) (hb : Below w.heap.size w w') : ErrP w' e3 e4 e6 e7 e8 :=
  ⟨h.b.below hb, cell_keptU hb h.c6, cell_keptU hb h.c7, cell_keptU hb h.c8⟩
/-- the error that goes with a code -/
def errP (e3 e4 e5 e6 e7 e8 : Addr) (c : Int) : Value := if c = 0 then .nilIface else if c = 15 then iE e6 else if c = 16 then iE e7 else if c = 17 then iE e8 else if c = 8 then iE e3 else if c = 10 then iE e4 else iE e5
theorem errP_some (e3 e4 e5 e6 e7 e8 : Addr) (c : Int) (h : c ≠ 0) : ∃ x, errP e3 e4 e5 e6 e7 e8 c = iE x := by
  unfold errP
  rw [if_neg h]
  split
  · exact ⟨_, rfl⟩
  split
  · exact ⟨_, rfl⟩
  split
  · exact ⟨_, rfl⟩
  split
  · exact ⟨_, rfl⟩
  split
  · exact ⟨_, rfl⟩
  · exact ⟨_, rfl⟩
theorem ofB_code (t : ByteArray) : (ofB t).2 = 0 ∨ (ofB t).2 = 8 ∨ (ofB t).2 = 10 := by
  unfold ofB
  split
  · exact .inr (.inl rfl)
  · split
    · exact .inr (.inr rfl)
    · exact .inl rfl
def HbkR (w : World) (b : Nat) (P : List Int) (X : ((Int × ByteArray) × List Int) × Int) (sv : Value) : Prop :=
  X.2 = 0 → ∃ off cap, Suf P X.1.2 ∧ sv = .slice (some ⟨b, off, none⟩) X.1.2.length cap ∧ RowC w b off cap X.1.2
theorem HbkR.no {w : World} {b : Nat} {P : List Int} {X : ((Int × ByteArray) × List Int) × Int} {sv : Value} (h : X.2 ≠ 0) : HbkR w b P X sv := fun h0 => absurd h0 h
theorem Suf.trans {R L M : List Int} (h : Suf R L) (k : Suf L M) : Suf R M := by
  obtain ⟨j, hj, rfl⟩ := h
  obtain ⟨i, hi, rfl⟩ := k
  rw [List.length_drop] at hi
  exact ⟨j + i, by omega, by rw [List.drop_drop]⟩
theorem allP_drop {P : List Int} (h : allP P = true) (n : Nat) : allP (P.drop n) = true := by
  unfold allP at h ⊢
  rw [List.all_eq_true] at h ⊢
  exact fun x hx => h x (List.mem_of_mem_drop hx)
theorem errP_of6 (e3 e4 e5 e6 e7 e8 : Addr) (c : Int) (h : c = 0 ∨ c = 8 ∨ c = 10) : errV6 e3 e3 e3 e3 e4 e5 c = errP e3 e4 e5 e6 e7 e8 c := by
  rcases h with rfl | rfl | rfl
  · rfl
  · rfl
  · rfl
theorem synB_iff (P : List Int) (N : Nat) : SynB (P.drop N) ↔ (P.length < N + 2 ∨ 18 ≤ P.getD N 0 ∨ 18 ≤ P.getD (N + 1) 0) := by
  unfold SynB
  rw [List.length_drop, drop_getD, drop_getD, Nat.add_zero]
  omega
set_option maxRecDepth 100000 in
set_option maxHeartbeats 4000000 in
theorem heardBlock_impl (b off cap : Nat) (P : List Int) (e3 e4 e5 e6 e7 e8 : Addr) (w : World) (h : RowC w b off cap P) (hl : P.length ≤ 4096) (ha : allP P = true) (hE : ErrP w e3 e4 e6 e7 e8) :
    Calls Tryd.prog 71 #[.slice (some ⟨b, off, none⟩) P.length cap] w fun e w' => (∃ sv, e = .returned (.tuple #[bkV (hbB P).1.1.1 (hbB P).1.1.2, sv, errP e3 e4 e5 e6 e7 e8 (hbB P).2]) ∧ HbkR w b P (hbB P) sv) ∧ Below w.heap.size w w' := by
  have hB1 := (Below.refl w.heap.size w).alloc (Nat.le_refl _) (.cells (bkA 0 eS) 33)
  have hq1 := Blk.new w (bkA 0 eS) 33
  have hC1 := hid (h.below hB1)
  have hE1 := hid (hE.below hB1)
  have hPil := hid (fun W (hW : RowC W b off cap P) (hE : ErrP W e3 e4 e6 e7 e8) => behindPilot_impl b off cap P e6 W hW hl hE.c6)
  have hle := pilC_le P
  replace ha := hid ha
  replace h := hid h
  clear hE
  replace hB1 := hid hB1
  replace hq1 := hid hq1
  obtain ⟨X, hX⟩ : ∃ X, hbB P = X := ⟨_, rfl⟩
  rw [hX]
  have hX2 : Hid (hbB P = X) := hX
  clear hX
  go_enter Tryd.func71, Tryd.ntmps71
  go_upto_region 1 with fail
  obtain ⟨V, hV⟩ : ∃ V, w.alloc (.cells (bkA 0 eS) 33) = V := ⟨_, rfl⟩
  rw [hV] at hB1 hq1 hC1 hE1 ⊢
  obtain ⟨O, hO⟩ : ∃ O, w.heap.size = O := ⟨_, rfl⟩
  have hOs : Hid (w.heap.size = O) := hO
  rw [hO] at hq1 ⊢
  clear hV hO
  go_wp2_with fail
  refine (hPil.out _ hC1.out hE1.out).mono ?_
  rintro e w2 ⟨⟨v1, v2, rfl, hR⟩, hb2⟩
  have hB2 := hid (hB1.out.trans (hb2.mono hB1.out.size))
  have hq2 := hid (hq1.out.below hb2 hq1.out.lt)
  have hE2 := hid (hE1.out.below hb2)
  rcases hR with ⟨hn, rfl, rfl⟩ | ⟨hn, rfl, off2, rfl, hC2⟩
  · have e : hbB P = ((bkz, []), 15) := by unfold hbB; rw [if_pos hn]
    have eX : X = ((bkz, []), 15) := hX2.out.symm.trans e
    have x2 := hq2.out.cell
    have f2 := hq2.out.frozen
    have l2 := hq2.out.lt
    clear hb2 hPil hC1 hE1 hq1 e hX2
    subst eX
    go_wp2
    exact bodyPost_ret (v := .tuple #[bkV 0 eS, .slice none 0 0, iE e6]) (by simp [results, Tryd.results71, go_sem, x2, l2, f2]; try rfl) rfl ⟨⟨_, rfl, HbkR.no (by decide)⟩, by repeat (first | exact hB2.out | refine Below.setCell ?_ (by first | (show _ ≤ O; have := hOs.out; omega)) _)⟩
  · have hC2' := hid (hC2.below hb2)
    have hlQ : (P.drop (pilC P)).length ≤ 4096 := by rw [List.length_drop]; omega
    have haQ := hid (allP_drop ha.out (pilC P))
    have hSuQ : Hid (Suf P (P.drop (pilC P))) := ⟨pilC P, hle, rfl⟩
    have hE9 : Hid (hbB P = if ((P.drop (pilC P)).length < 2 ∨ 18 ≤ (P.drop (pilC P)).getD 0 0 ∨ 18 ≤ (P.drop (pilC P)).getD 1 0) then ((bkz, []), 16) else if (hear ((P.drop (pilC P)).drop 2) 0 0 []).2.1 ≠ 0 then ((bkz, []), 17) else (((ofB (strOfNums (hear ((P.drop (pilC P)).drop 2) 0 0 []).1)).1, (hear ((P.drop (pilC P)).drop 2) 0 0 []).2.2), (ofB (strOfNums (hear ((P.drop (pilC P)).drop 2) 0 0 []).1)).2)) := by
      unfold hbB Hid
      rw [if_neg (by omega), List.drop_drop]
      by_cases hs : (P.drop (pilC P)).length < 2 ∨ 18 ≤ (P.drop (pilC P)).getD 0 0 ∨ 18 ≤ (P.drop (pilC P)).getD 1 0
      · rw [if_pos hs, if_pos ((synB_iff P _).1 hs)]
      · rw [if_neg hs, if_neg (fun h => hs ((synB_iff P _).2 h))]
    obtain ⟨Q, hQ⟩ : ∃ Q, P.drop (pilC P) = Q := ⟨_, rfl⟩
    obtain ⟨cQ, hcQ⟩ : ∃ c, cap - pilC P = c := ⟨_, rfl⟩
    rw [hQ] at hlQ haQ hSuQ hE9
    rw [hQ, hcQ] at hC2'
    have hXE := hid (hX2.out.symm.trans hE9.out)
    rw [hQ, hcQ]
    have hSyn := hid (fun W (hW : RowC W b off2 cQ Q) (hE : ErrP W e3 e4 e6 e7 e8) => behindSync_impl b off2 cQ Q e7 W hW hlQ hE.c7)
    have x2 := hq2.out.cell
    have f2 := hq2.out.frozen
    have l2 := hq2.out.lt
    clear hb2 hPil hC1 hE1 hq1 hC2 hE9 hX2 hQ hcQ
    go_wp2_with fail
    refine (hSyn.out _ hC2'.out hE2.out).mono ?_
    rintro e w3 ⟨⟨v3, v4, rfl, hR⟩, hb3⟩
    have hB3 := hid (hB2.out.trans (hb3.mono hB2.out.size))
    have hq3 := hid (hq2.out.below hb3 hq2.out.lt)
    have hE3 := hid (hE2.out.below hb3)
    clear x2 f2 l2
    have x3 := hq3.out.cell
    have f3 := hq3.out.frozen
    have l3 := hq3.out.lt
    rcases hR with ⟨hs, rfl, rfl⟩ | ⟨hs, rfl, off3, rfl, hC3⟩
    · have eX := hXE.out
      have hs' : Q.length < 2 ∨ 18 ≤ Q.getD 0 0 ∨ 18 ≤ Q.getD 1 0 := hs
      rw [if_pos hs'] at eX
      clear hs'
      clear hb3 hSyn hC2' hE2 hq2 hXE
      subst eX
      go_wp2
      exact bodyPost_ret (v := .tuple #[bkV 0 eS, .slice none 0 0, iE e7]) (by simp [results, Tryd.results71, go_sem, x3, l3, f3]; try rfl) rfl ⟨⟨_, rfl, HbkR.no (by decide)⟩, by repeat (first | exact hB3.out | refine Below.setCell ?_ (by first | (show _ ≤ O; have := hOs.out; omega)) _)⟩
    · have eX := hXE.out
      have hs' : ¬ (Q.length < 2 ∨ 18 ≤ Q.getD 0 0 ∨ 18 ≤ Q.getD 1 0) := hs
      rw [if_neg hs'] at eX
      clear hs'
      have hC3' := hid (hC3.below hb3)
      have hlR : (Q.drop 2).length ≤ 4096 := by rw [List.length_drop]; omega
      have haR := hid (allP_drop haQ.out 2)
      have hQ2 : 2 ≤ Q.length := by
        rcases Nat.lt_or_ge Q.length 2 with h' | h'
        · exact absurd (.inl h') hs
        · exact h'
      have hSuR := hid (hSuQ.out.drop 2 hQ2)
      obtain ⟨R, hR⟩ : ∃ R, Q.drop 2 = R := ⟨_, rfl⟩
      obtain ⟨cR, hcR⟩ : ∃ c, cQ - 2 = c := ⟨_, rfl⟩
      rw [hR] at hlR haR hSuR eX
      rw [hR, hcR] at hC3'
      rw [hR, hcR]
      have hHb := hid (fun W (hW : RowC W b off3 cR R) (hE : ErrP W e3 e4 e6 e7 e8) => heardBytes_impl b off3 cR R e8 W hW hlR haR.out hE.c8)
      have hZl := (hear_len _ R (Nat.le_refl _) 0 0 []).2
      obtain ⟨Z, hZ⟩ : ∃ Z, hear R 0 0 [] = Z := ⟨_, rfl⟩
      rw [hZ] at hHb eX hZl
      replace eX := hid eX
      clear hb3 hSyn hC2' hE2 hq2 hXE hR hcR hC3 hZ hs
      go_wp2_with fail
      refine (hHb.out _ hC3'.out hE3.out).mono ?_
      rintro e w4 ⟨⟨s, sv, ev, rfl, hR⟩, hb4⟩
      have hB4 := hid (hB3.out.trans (hb4.mono hB3.out.size))
      have hq4 := hid (hq3.out.below hb4 hq3.out.lt)
      have hE4 := hid (hE3.out.below hb4)
      clear x3 f3 l3
      have x4 := hq4.out.cell
      have f4 := hq4.out.frozen
      have l4 := hq4.out.lt
      rcases hR with ⟨hz, rfl⟩ | ⟨hz, rfl, rfl, off4, cap4, hS4, rfl, hC4⟩
      · have eX2 := eX.out
        rw [if_pos hz] at eX2
        clear hb4 hHb hC3' hE3 hq3 eX
        subst eX2
        go_wp2
        exact bodyPost_ret (v := .tuple #[bkV 0 eS, .slice none 0 0, iE e8]) (by simp [results, Tryd.results71, go_sem, x4, l4, f4]; try rfl) rfl ⟨⟨_, rfl, HbkR.no (by decide)⟩, by repeat (first | exact hB4.out | refine Below.setCell ?_ (by first | (show _ ≤ O; have := hOs.out; omega)) _)⟩
      · have eX2 := eX.out
        rw [if_neg (by omega)] at eX2
        have hZ1 : (strOfNums Z.1).size ≤ 4096 := by rw [strOfNums_size]; simp at hZl; omega
        obtain ⟨tx, htx⟩ : ∃ tx, strOfNums Z.1 = tx := ⟨_, rfl⟩
        rw [htx] at eX2 hZ1 ⊢
        have hRB := hid (fun W (hE : ErrP W e3 e4 e6 e7 e8) => readBlockB_impl tx e3 e3 e3 e3 e4 e5 W (by unfold maxLen; omega) hE.b)
        have hcd := ofB_code tx
        obtain ⟨⟨⟨F, D⟩, c⟩, hY⟩ : ∃ Y, ofB tx = Y := ⟨_, rfl⟩
        rw [hY] at hRB eX2 hcd
        have hEr := errP_of6 e3 e4 e5 e6 e7 e8 c hcd
        unfold ofE at hRB
        dsimp only at hRB
        rw [hEr] at hRB
        clear hEr hcd hY htx hb4 hHb hC3' hE3 hq3 eX
        obtain ⟨EV, hEV⟩ : ∃ EV, errP e3 e4 e5 e6 e7 e8 c = EV := ⟨_, rfl⟩
        rw [hEV] at hRB
        replace hEV := hid hEV
        replace eX2 := hid eX2
        have hfin : Hid (HbkR w b P X (.slice (some ⟨b, off4, none⟩) Z.2.2.length cap4)) := fun _ => by
          rw [eX2.out]
          refine ⟨off4, cap4, hSuR.out.trans hS4, rfl, hC4.c, fun i hi => ?_⟩
          have h9 := hC4.r i hi
          have hlt : b < w.heap.size := World.block_lt_of_cell? w _ (h.out.r 0 (by omega))
          rw [hB3.out.cell (p := ⟨b, off4 + i, none⟩) hlt] at h9
          exact h9
        go_wp2_with fail
        refine (hRB.out _ hE4.out).mono ?_
        rintro e w5 ⟨rfl, hb5⟩
        have hB5 := hB4.out.trans (hb5.mono hB4.out.size)
        have hq5 := hid ((hq4.out.below hb5 hq4.out.lt).alloc (.cells (bkA F D) 33))
        have hn5 := hid (Blk.new w5 (bkA F D) 33)
        have hB6 := hid (hB5.alloc hB5.size (.cells (bkA F D) 33))
        have hne : ¬ O = w5.heap.size := fun e => by have := (hq4.out.below hb5 hq4.out.lt).lt; omega
        have hne2 : ¬ w5.heap.size = O := fun e => hne e.symm
        clear x4 f4 l4
        have x5 := hq5.out.cell
        have f5 := hq5.out.frozen
        have l5 := hq5.out.lt
        have y5 := hn5.out.cell
        clear hb5 hRB hE4 hq4 hB5
        go_upto_region 11 with fail
        obtain ⟨W5, hW5⟩ : ∃ W5, w5.alloc (.cells (bkA F D) 33) = W5 := ⟨_, rfl⟩
        rw [hW5] at hq5 hn5 hB6 x5 f5 l5 y5 ⊢
        clear hW5
        go_wp2
        exact bodyPost_ret (v := .tuple #[bkV F D, .slice (some ⟨b, off4, none⟩) Z.2.2.length cap4, EV]) (by simp [results, Tryd.results71, go_sem, x5, l5, f5]; try rfl) rfl ⟨⟨_, by rw [eX2.out, ← hEV.out], hfin.out⟩, by repeat (first | exact hB6.out | refine Below.setCell ?_ (by first | (show _ ≤ O; have := hOs.out; omega)) _)⟩
end Go.Proofs.YtakdhmlegickmaaDoor
