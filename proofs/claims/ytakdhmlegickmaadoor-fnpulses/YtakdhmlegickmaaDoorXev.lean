/- The errors of pulses and their codes; DecodePulses: the program. -/
import Derived.Test.YtakdhmlegickmaaDoorXdv
import Derived.Test.YtakdhmlegickmaaDoorVuv
import Derived.Deep.Onto
namespace Go.Proofs.YtakdhmlegickmaaDoor
open Go.ChangeShapes Go.WideShapes Go.ChangeAt Go.RowKit
set_option linter.unusedVariables false
set_option linter.unusedSimpArgs false

structure ErrX (w : World) (e3 e4 e5 e6 e7 e8 : Addr) : Prop where
  c3 : w.cell? ⟨1, 0, none⟩ = some (iE e3)
  c4 : w.cell? ⟨2, 0, none⟩ = some (iE e4)
  c5 : w.cell? ⟨0, 0, none⟩ = some (iE e5)
  c6 : w.cell? ⟨4, 0, none⟩ = some (iE e6)
  c7 : w.cell? ⟨5, 0, none⟩ = some (iE e7)
  c8 : w.cell? ⟨6, 0, none⟩ = some (iE e8)
  n34 : e3 ≠ e4
  n35 : e3 ≠ e5
  n36 : e3 ≠ e6
  n37 : e3 ≠ e7
  n38 : e3 ≠ e8
  n45 : e4 ≠ e5
  n46 : e4 ≠ e6
  n47 : e4 ≠ e7
  n48 : e4 ≠ e8
  n56 : e5 ≠ e6
  n57 : e5 ≠ e7
  n58 : e5 ≠ e8
  n67 : e6 ≠ e7
  n68 : e6 ≠ e8
  n78 : e7 ≠ e8
  b3 : ∃ ca ta, w.heap[e3.block]? = some (.cells ca ta (0, 0))
  b4 : ∃ ca ta, w.heap[e4.block]? = some (.cells ca ta (0, 0))
  b5 : ∃ ca ta, w.heap[e5.block]? = some (.cells ca ta (0, 0))
  b6 : ∃ ca ta, w.heap[e6.block]? = some (.cells ca ta (0, 0))
  b7 : ∃ ca ta, w.heap[e7.block]? = some (.cells ca ta (0, 0))
  b8 : ∃ ca ta, w.heap[e8.block]? = some (.cells ca ta (0, 0))
theorem ErrX.below {w w' : World} {e3 e4 e5 e6 e7 e8 : Addr} (h : ErrX w e3 e4 e5 e6 e7 e8) (hb : Below w.heap.size w w') : ErrX w' e3 e4 e5 e6 e7 e8 :=
  ⟨cell_keptU hb h.c3, cell_keptU hb h.c4, cell_keptU hb h.c5, cell_keptU hb h.c6, cell_keptU hb h.c7, cell_keptU hb h.c8, h.n34, h.n35, h.n36, h.n37, h.n38, h.n45, h.n46, h.n47, h.n48, h.n56, h.n57, h.n58, h.n67, h.n68, h.n78, (by obtain ⟨x, t, b⟩ := h.b3; exact ⟨x, t, (hb.block _ (lt_of_block b)).trans b⟩), (by obtain ⟨x, t, b⟩ := h.b4; exact ⟨x, t, (hb.block _ (lt_of_block b)).trans b⟩), (by obtain ⟨x, t, b⟩ := h.b5; exact ⟨x, t, (hb.block _ (lt_of_block b)).trans b⟩), (by obtain ⟨x, t, b⟩ := h.b6; exact ⟨x, t, (hb.block _ (lt_of_block b)).trans b⟩), (by obtain ⟨x, t, b⟩ := h.b7; exact ⟨x, t, (hb.block _ (lt_of_block b)).trans b⟩), (by obtain ⟨x, t, b⟩ := h.b8; exact ⟨x, t, (hb.block _ (lt_of_block b)).trans b⟩)⟩
theorem ErrX.p {w : World} {e3 e4 e5 e6 e7 e8 : Addr} (h : ErrX w e3 e4 e5 e6 e7 e8) : ErrP w e3 e4 e6 e7 e8 := ⟨⟨h.c3, h.c4⟩, h.c6, h.c7, h.c8⟩
theorem takeNil_impl (w : World) : Calls Tryd.prog 61 #[.nilIface] w fun e w' => e = .returned (.int .i64 0) ∧ w' = w := by
  go_enter Tryd.func61, Tryd.ntmps61
  go_wp2
  go_ret
  exact ⟨rfl, rfl⟩
set_option maxRecDepth 100000 in
theorem blockCodeX (e3 e4 e5 e6 e7 e8 : Addr) (c : Int) (w : World) (hE : ErrX w e3 e4 e5 e6 e7 e8) (hc : c = 0 ∨ c = 8 ∨ c = 10 ∨ c = 6) : Calls Tryd.prog 38 #[errP e3 e4 e5 e6 e7 e8 c] w fun e w' => e = .returned (.int .i64 c) ∧ w' = w := by
  obtain ⟨x3, t3, b3⟩ := hE.b3
  have g3 := hE.c3
  obtain ⟨x4, t4, b4⟩ := hE.b4
  have g4 := hE.c4
  obtain ⟨x5, t5, b5⟩ := hE.b5
  have g5 := hE.c5
  obtain ⟨x6, t6, b6⟩ := hE.b6
  have g6 := hE.c6
  obtain ⟨x7, t7, b7⟩ := hE.b7
  have g7 := hE.c7
  obtain ⟨x8, t8, b8⟩ := hE.b8
  have g8 := hE.c8
  have n34 := hE.n34
  have n35 := hE.n35
  have n36 := hE.n36
  have n37 := hE.n37
  have n38 := hE.n38
  have n45 := hE.n45
  have n46 := hE.n46
  have n47 := hE.n47
  have n48 := hE.n48
  have n56 := hE.n56
  have n57 := hE.n57
  have n58 := hE.n58
  have n67 := hE.n67
  have n68 := hE.n68
  have n78 := hE.n78
  clear hE
  rcases hc with rfl | rfl | rfl | rfl
  · show Calls _ _ #[.nilIface] _ _
    go_enter Tryd.func38, Tryd.ntmps38
    go_wp2_with fail
    refine (is_nil e3 _).mono ?_
    rintro e w1 ⟨rfl, hww⟩
    obtain rfl := hww.symm
    go_wp2_with fail
    refine (is_nil e4 _).mono ?_
    rintro e w1 ⟨rfl, hww⟩
    obtain rfl := hww.symm
    go_wp2_with fail
    refine (is_nil e5 _).mono ?_
    rintro e w1 ⟨rfl, hww⟩
    obtain rfl := hww.symm
    go_wp2_with fail
    refine (takeNil_impl _).mono ?_
    rintro e w1 ⟨rfl, hww⟩
    obtain rfl := hww.symm
    go_wp2_with fail
    go_ret
    exact ⟨rfl, rfl⟩
  · show Calls _ _ #[iE e3] _ _
    go_enter Tryd.func38, Tryd.ntmps38
    go_wp2_with fail
    refine (is_same e3 _).mono ?_
    rintro e w1 ⟨rfl, hww⟩
    obtain rfl := hww.symm
    go_wp2_with fail
    go_ret
    exact ⟨rfl, rfl⟩
  · show Calls _ _ #[iE e4] _ _
    go_enter Tryd.func38, Tryd.ntmps38
    go_wp2_with fail
    refine (is_other e4 e3 _ _ _ _ _ (Ne.symm n34) b4 b3).mono ?_
    rintro e w1 ⟨rfl, hww⟩
    obtain rfl := hww.symm
    go_wp2_with fail
    refine (is_same e4 _).mono ?_
    rintro e w1 ⟨rfl, hww⟩
    obtain rfl := hww.symm
    go_wp2_with fail
    go_ret
    exact ⟨rfl, rfl⟩
  · show Calls _ _ #[iE e5] _ _
    go_enter Tryd.func38, Tryd.ntmps38
    go_wp2_with fail
    refine (is_other e5 e3 _ _ _ _ _ (Ne.symm n35) b5 b3).mono ?_
    rintro e w1 ⟨rfl, hww⟩
    obtain rfl := hww.symm
    go_wp2_with fail
    refine (is_other e5 e4 _ _ _ _ _ (Ne.symm n45) b5 b4).mono ?_
    rintro e w1 ⟨rfl, hww⟩
    obtain rfl := hww.symm
    go_wp2_with fail
    refine (is_same e5 _).mono ?_
    rintro e w1 ⟨rfl, hww⟩
    obtain rfl := hww.symm
    go_wp2_with fail
    go_ret
    exact ⟨rfl, rfl⟩
set_option maxRecDepth 100000 in
theorem pulseCodeX (e3 e4 e5 e6 e7 e8 : Addr) (c : Int) (w : World) (hE : ErrX w e3 e4 e5 e6 e7 e8) (hc : c = 0 ∨ c = 15 ∨ c = 16 ∨ c = 17 ∨ c = 8 ∨ c = 10 ∨ c = 6) : Calls Tryd.prog 47 #[errP e3 e4 e5 e6 e7 e8 c] w fun e w' => e = .returned (.int .i64 c) ∧ w' = w := by
  have hBC := hid (fun c h => blockCodeX e3 e4 e5 e6 e7 e8 c w hE h)
  obtain ⟨x3, t3, b3⟩ := hE.b3
  have g3 := hE.c3
  obtain ⟨x4, t4, b4⟩ := hE.b4
  have g4 := hE.c4
  obtain ⟨x5, t5, b5⟩ := hE.b5
  have g5 := hE.c5
  obtain ⟨x6, t6, b6⟩ := hE.b6
  have g6 := hE.c6
  obtain ⟨x7, t7, b7⟩ := hE.b7
  have g7 := hE.c7
  obtain ⟨x8, t8, b8⟩ := hE.b8
  have g8 := hE.c8
  have n34 := hE.n34
  have n35 := hE.n35
  have n36 := hE.n36
  have n37 := hE.n37
  have n38 := hE.n38
  have n45 := hE.n45
  have n46 := hE.n46
  have n47 := hE.n47
  have n48 := hE.n48
  have n56 := hE.n56
  have n57 := hE.n57
  have n58 := hE.n58
  have n67 := hE.n67
  have n68 := hE.n68
  have n78 := hE.n78
  clear hE
  rcases hc with rfl | rfl | rfl | rfl | rfl | rfl | rfl
  · show Calls _ _ #[.nilIface] _ _
    go_enter Tryd.func47, Tryd.ntmps47
    go_wp2_with fail
    refine (is_nil e6 _).mono ?_
    rintro e w1 ⟨rfl, hww⟩
    obtain rfl := hww.symm
    go_wp2_with fail
    refine (is_nil e7 _).mono ?_
    rintro e w1 ⟨rfl, hww⟩
    obtain rfl := hww.symm
    go_wp2_with fail
    refine (is_nil e8 _).mono ?_
    rintro e w1 ⟨rfl, hww⟩
    obtain rfl := hww.symm
    go_wp2_with fail
    refine (hBC.out 0 (by simp)).mono ?_
    rintro e w1 ⟨rfl, hww⟩
    obtain rfl := hww.symm
    go_wp2_with fail
    go_ret
    exact ⟨rfl, rfl⟩
  · show Calls _ _ #[iE e6] _ _
    go_enter Tryd.func47, Tryd.ntmps47
    go_wp2_with fail
    refine (is_same e6 _).mono ?_
    rintro e w1 ⟨rfl, hww⟩
    obtain rfl := hww.symm
    go_wp2_with fail
    go_ret
    exact ⟨rfl, rfl⟩
  · show Calls _ _ #[iE e7] _ _
    go_enter Tryd.func47, Tryd.ntmps47
    go_wp2_with fail
    refine (is_other e7 e6 _ _ _ _ _ (Ne.symm n67) b7 b6).mono ?_
    rintro e w1 ⟨rfl, hww⟩
    obtain rfl := hww.symm
    go_wp2_with fail
    refine (is_same e7 _).mono ?_
    rintro e w1 ⟨rfl, hww⟩
    obtain rfl := hww.symm
    go_wp2_with fail
    go_ret
    exact ⟨rfl, rfl⟩
  · show Calls _ _ #[iE e8] _ _
    go_enter Tryd.func47, Tryd.ntmps47
    go_wp2_with fail
    refine (is_other e8 e6 _ _ _ _ _ (Ne.symm n68) b8 b6).mono ?_
    rintro e w1 ⟨rfl, hww⟩
    obtain rfl := hww.symm
    go_wp2_with fail
    refine (is_other e8 e7 _ _ _ _ _ (Ne.symm n78) b8 b7).mono ?_
    rintro e w1 ⟨rfl, hww⟩
    obtain rfl := hww.symm
    go_wp2_with fail
    refine (is_same e8 _).mono ?_
    rintro e w1 ⟨rfl, hww⟩
    obtain rfl := hww.symm
    go_wp2_with fail
    go_ret
    exact ⟨rfl, rfl⟩
  · show Calls _ _ #[iE e3] _ _
    go_enter Tryd.func47, Tryd.ntmps47
    go_wp2_with fail
    refine (is_other e3 e6 _ _ _ _ _ n36 b3 b6).mono ?_
    rintro e w1 ⟨rfl, hww⟩
    obtain rfl := hww.symm
    go_wp2_with fail
    refine (is_other e3 e7 _ _ _ _ _ n37 b3 b7).mono ?_
    rintro e w1 ⟨rfl, hww⟩
    obtain rfl := hww.symm
    go_wp2_with fail
    refine (is_other e3 e8 _ _ _ _ _ n38 b3 b8).mono ?_
    rintro e w1 ⟨rfl, hww⟩
    obtain rfl := hww.symm
    go_wp2_with fail
    refine (hBC.out 8 (by simp)).mono ?_
    rintro e w1 ⟨rfl, hww⟩
    obtain rfl := hww.symm
    go_wp2_with fail
    go_ret
    exact ⟨rfl, rfl⟩
  · show Calls _ _ #[iE e4] _ _
    go_enter Tryd.func47, Tryd.ntmps47
    go_wp2_with fail
    refine (is_other e4 e6 _ _ _ _ _ n46 b4 b6).mono ?_
    rintro e w1 ⟨rfl, hww⟩
    obtain rfl := hww.symm
    go_wp2_with fail
    refine (is_other e4 e7 _ _ _ _ _ n47 b4 b7).mono ?_
    rintro e w1 ⟨rfl, hww⟩
    obtain rfl := hww.symm
    go_wp2_with fail
    refine (is_other e4 e8 _ _ _ _ _ n48 b4 b8).mono ?_
    rintro e w1 ⟨rfl, hww⟩
    obtain rfl := hww.symm
    go_wp2_with fail
    refine (hBC.out 10 (by simp)).mono ?_
    rintro e w1 ⟨rfl, hww⟩
    obtain rfl := hww.symm
    go_wp2_with fail
    go_ret
    exact ⟨rfl, rfl⟩
  · show Calls _ _ #[iE e5] _ _
    go_enter Tryd.func47, Tryd.ntmps47
    go_wp2_with fail
    refine (is_other e5 e6 _ _ _ _ _ n56 b5 b6).mono ?_
    rintro e w1 ⟨rfl, hww⟩
    obtain rfl := hww.symm
    go_wp2_with fail
    refine (is_other e5 e7 _ _ _ _ _ n57 b5 b7).mono ?_
    rintro e w1 ⟨rfl, hww⟩
    obtain rfl := hww.symm
    go_wp2_with fail
    refine (is_other e5 e8 _ _ _ _ _ n58 b5 b8).mono ?_
    rintro e w1 ⟨rfl, hww⟩
    obtain rfl := hww.symm
    go_wp2_with fail
    refine (hBC.out 6 (by simp)).mono ?_
    rintro e w1 ⟨rfl, hww⟩
    obtain rfl := hww.symm
    go_wp2_with fail
    go_ret
    exact ⟨rfl, rfl⟩
theorem blocksHeard_impl (a : Option Addr) (n cap : Nat) (w : World) : Calls Tryd.prog 46 #[.slice a n cap] w fun e w' => e = .returned (.func (.func 70) #[] #[.pointer (some ⟨w.heap.size, 0, none⟩)]) ∧ w' = w.alloc (.cells #[.slice a n cap] 43) := by
  go_enter Tryd.func46, Tryd.ntmps46
  go_wp2
  go_ret
  exact ⟨rfl, rfl⟩
theorem RowE.row {w : World} {a : Option Addr} {cap : Nat} {L : List Int} (h : RowE w a cap L) : RowR w (.slice a L.length cap) L := by
  rcases h with rfl | ⟨b, off, rfl, hC⟩
  · exact ⟨a, cap, rfl, .inl rfl⟩
  · exact ⟨_, cap, rfl, .inr ⟨b, off, rfl, hC.r⟩⟩
theorem RowE.below {w w' : World} {a : Option Addr} {cap : Nat} {L : List Int} (h : RowE w a cap L) (hb : Below w.heap.size w w') : RowE w' a cap L := by
  rcases h with h | ⟨b, off, e, hC⟩
  · exact .inl h
  · exact .inr ⟨b, off, e, hC.below hb⟩
set_option maxRecDepth 100000 in
set_option maxHeartbeats 2000000 in
theorem decode_impl (a : Option Addr) (cap : Nat) (P : List Int) (e3 e4 e5 e6 e7 e8 : Addr) (w : World) (h : RowE w a cap P) (hl : P.length ≤ 1048576) (hE : ErrX w e3 e4 e5 e6 e7 e8) :
    Calls Tryd.prog 19 #[.slice a P.length cap] w fun e w' => ∃ v, e = .returned (.tuple #[v, .int .i64 (dec2 P).2]) ∧ w'.ownsRow w.heap.size 33 2 v (dec2 P).1.length (bkL (dec2 P).1) ∧ Below w.heap.size w w' := by
  have hF := hid (pfault_impl a cap P w h.row hl)
  by_cases h0 : fltP P = 0
  · have h1 : ¬ 4096 < P.length := fun h' => by
      unfold fltP at h0
      rw [if_pos h'] at h0
      cases h0
    have ha : allP P = true := by
      unfold fltP at h0
      rw [if_neg h1] at h0
      cases hb : allP P
      · rw [hb] at h0
        cases h0
      · rfl
    have e : dec2 P = decL (P.length + 1) P [] := by unfold dec2; rw [if_neg h1, if_pos ha]
    rw [e]
    rw [h0] at hF
    have hc := decL_code (P.length + 1) P []
    have hB := hid (fun W => blocksHeard_impl a P.length cap W)
    have hL := hid (fun W BT (hq : Blk W BT #[.slice a P.length cap]) (hR : RowE W a cap P) (hE : ErrX W e3 e4 e5 e6 e7 e8) => list_heard (.pointer (some ⟨BT, 0, none⟩)) (decL (P.length + 1) P []).1 (errP e3 e4 e5 e6 e7 e8 (decL (P.length + 1) P []).2) e5 W hE.c5 (fun p V hpw y1 y2 y3 hRy => heard_impl p P a cap e3 e4 e5 e6 e7 e8 (by rw [hpw]; exact hE.p) y1 y2 y3 V hRy (by omega) ha BT (by rw [hpw]; exact hq) (by rw [hpw]; exact hR)))
    obtain ⟨Z, hZ⟩ : ∃ Z, decL (P.length + 1) P [] = Z := ⟨_, rfl⟩
    rw [hZ] at hL hc ⊢
    have hPC := hid (fun W (hE : ErrX W e3 e4 e5 e6 e7 e8) => pulseCodeX e3 e4 e5 e6 e7 e8 Z.2 W hE hc)
    obtain ⟨EV, hEV⟩ : ∃ EV, errP e3 e4 e5 e6 e7 e8 Z.2 = EV := ⟨_, rfl⟩
    rw [hEV] at hL hPC
    clear hEV hZ e hc h0 ha
    replace h := hid h
    replace hE := hid hE
    go_enter Tryd.func19, Tryd.ntmps19
    go_wp2_with fail
    refine hF.out.mono ?_
    rintro e w1 ⟨rfl, hww⟩
    obtain rfl := hww.symm
    clear hF
    go_wp2_with fail
    refine (hB.out _).mono ?_
    rintro e w2 ⟨rfl, hw2⟩
    have hb2 : Below w.heap.size w w2 := by rw [hw2]; exact (Below.refl _ _).alloc (Nat.le_refl _) _
    have hq2 : Hid (Blk w2 w.heap.size #[.slice a P.length cap]) := by rw [hw2]; exact Blk.new w _ _
    have hE2 := hid (hE.out.below hb2)
    have hR2 := hid (h.out.below hb2)
    replace hb2 := hid hb2
    clear hw2 hB
    go_wp2_with fail
    refine (hL.out _ _ hq2.out hR2.out hE2.out).mono ?_
    rintro e w3 ⟨v, rfl, ho0, hb3⟩
    have ho := hid (ho0.mono hb2.out.size)
    have hb := hid (hb2.out.trans (hb3.mono hb2.out.size))
    have hE3 := hid (hE.out.below hb.out)
    clear ho0 hb3 hL
    go_wp2_with fail
    refine (hPC.out _ hE3.out).mono ?_
    rintro e w4 ⟨rfl, hww⟩
    obtain rfl := hww.symm
    go_wp2_with fail
    go_ret2
    exact ⟨_, rfl, ho.out, hb.out⟩
  · have e : dec2 P = ([], fltP P) := by
      unfold dec2 fltP
      by_cases h1 : 4096 < P.length
      · rw [if_pos h1, if_pos h1]
      · rw [if_neg h1, if_neg h1]
        cases hb : allP P
        · rfl
        · exact absurd (by unfold fltP; rw [if_neg h1, hb]; rfl) h0
    rw [e]
    have h0b : (fltP P == 0) = false := by simpa using h0
    generalize fltP P = c at *
    clear e h0
    go_enter Tryd.func19, Tryd.ntmps19
    go_wp2_with fail
    refine hF.out.mono ?_
    rintro e w1 ⟨rfl, hww⟩
    obtain rfl := hww.symm
    go_wp2_with fail
    go_ret2
    exact ⟨_, rfl, World.ownsRow_nil _ _ _ _, Below.refl _ _⟩
end Go.Proofs.YtakdhmlegickmaaDoor
