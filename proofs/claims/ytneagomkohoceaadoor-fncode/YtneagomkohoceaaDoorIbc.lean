/- What the specification decodes. -/
import Derived.Test.YtneagomkohoceaaDoorIac
import Derived.Test.YtneagomkohoceaaDoorMfc
namespace Go.Proofs.YtneagomkohoceaaDoor
open Go.ChangeShapes Go.WideShapes Go.ChangeAt Go.RowKit
set_option linter.unusedVariables false
set_option linter.unusedSimpArgs false

/-- the numbers of the instruction that two bytes are -/
def decO (x : Int) : Int := if 23 ≤ x / 8 then 23 else x / 8
def decA (x : Int) : Int := if 23 ≤ x / 8 then 0 else if hasC (x / 8).toNat 65 = true then x % 8 else 0
def decB (x y : Int) : Int := if 23 ≤ x / 8 then 0 else if hasC (x / 8).toNat 66 = true then y % 8 else 0
def decN (x y : Int) : Int := if 23 ≤ x / 8 then x else if hasC (x / 8).toNat 78 = true then y else 0
def decL (x : Int) : Int := if 23 ≤ x / 8 then 1 else 1 + bitI (hasC (x / 8).toNat 66 || hasC (x / 8).toNat 78)
abbrev dcdV (x y : Int) : Value := insV (decO x) (decA x) (decB x y) (decN x y) (decL x)
/-- while an instruction is being decoded -/
structure DSt (w W : World) (C : Array Value) : Prop where
  q0 : Blk W w.heap.size #[.int .i64 0, .int .i64 0, .int .i64 0, .int .i64 0, .int .i64 0]
  q1 : Blk W (w.heap.size + 1) C
  bel : Below w.heap.size w W
theorem two_newI {w w1 : World} {A0 A1 : Array Value} {t t1 : TypeId} (hb : Below ((w.alloc (.cells A0 t)).alloc (.cells A1 t1)).heap.size ((w.alloc (.cells A0 t)).alloc (.cells A1 t1)) w1) :
    Blk w1 w.heap.size A0 ∧ Blk w1 (w.heap.size + 1) A1 ∧ Below w.heap.size w w1 := by
  have hs : ((w.alloc (.cells A0 t)).alloc (.cells A1 t1)).heap.size = w.heap.size + 1 + 1 := by simp
  have q1 := Blk.new (w.alloc (.cells A0 t)) A1 t1
  simp only [World.size_alloc] at q1
  refine ⟨((Blk.new w A0 t).alloc _).below hb (by omega), q1.below hb (by omega), ?_⟩
  exact (((Below.refl _ _).alloc (Nat.le_refl _) _).alloc (by simp) _).trans (hb.mono (by omega))
theorem DSt.start {w w1 : World} {C : Array Value} {t t1 : TypeId} (hb : Below ((w.alloc (.cells #[.int .i64 0, .int .i64 0, .int .i64 0, .int .i64 0, .int .i64 0] t)).alloc (.cells C t1)).heap.size ((w.alloc (.cells #[.int .i64 0, .int .i64 0, .int .i64 0, .int .i64 0, .int .i64 0] t)).alloc (.cells C t1)) w1) : DSt w w1 C :=
  ⟨(two_newI hb).1, (two_newI hb).2.1, (two_newI hb).2.2⟩
theorem DSt.below {w W W' : World} {C : Array Value} (h : DSt w W C) (hb : Below W.heap.size W W') : DSt w W' C :=
  ⟨h.q0.below hb h.q0.lt, h.q1.below hb h.q1.lt, h.bel.trans (hb.mono h.bel.size)⟩
theorem DSt.set {w W : World} {C : Array Value} (h : DSt w W C) (i : Nat) (u : Value) : DSt w (W.setCell ⟨w.heap.size + 1, i, none⟩ u) (C.setIfInBounds i u) :=
  ⟨h.q0.other (by simp) _, h.q1.set i u, h.bel.setCell (p := ⟨w.heap.size + 1, i, none⟩) (by simp) _⟩
set_option maxRecDepth 100000 in
set_option maxHeartbeats 1000000 in
theorem dec0_spec (x y : Int) (w : World) (hx0 : 0 ≤ x) (hx1 : x ≤ 255) (hy0 : 0 ≤ y) (hy1 : y ≤ 255) :
    Calls Tryd.prog 56 #[.int .i64 x, .int .i64 y] w fun e w' => e = .returned (dcdV x y) ∧ Below w.heap.size w w' := by
  by_cases h23 : 23 ≤ x / 8
  · have e : dcdV x y = insV 23 0 0 x 1 := by unfold dcdV decO decA decB decN decL; rw [if_pos h23, if_pos h23, if_pos h23, if_pos h23, if_pos h23]
    rw [e]
    clear e
    go_enter Tryd.func56, Tryd.ntmps56
    go_wp2
    refine bodyPost_ret (v := insV 23 0 0 x 1) (by simp [results, Tryd.results56, go_sem]) rfl ⟨rfl, ?_⟩
    exact (Below.refl _ _).alloc (Nat.le_refl _) _
  obtain ⟨o, ho⟩ : ∃ o : Nat, x / 8 = (o : Int) := ⟨(x / 8).toNat, by omega⟩
  obtain ⟨r, hr⟩ : ∃ o : Int, x % 8 = o := ⟨_, rfl⟩
  obtain ⟨t, ht⟩ : ∃ o : Int, y % 8 = o := ⟨_, rfl⟩
  have ho1 : o < 23 := by omega
  have e : dcdV x y = insV (o : Int) (if hasC o 65 = true then r else 0) (if hasC o 66 = true then t else 0) (if hasC o 78 = true then y else 0) (1 + bitI (hasC o 66 || hasC o 78)) := by
    unfold dcdV decO decA decB decN decL
    rw [if_neg h23, if_neg h23, if_neg h23, if_neg h23, if_neg h23, ho, hr, ht, Int.toNat_natCast]
  rw [e]
  clear e
  have ho2 : (23 ≤ (o : Int)) = False := by simp; omega
  obtain ⟨pA, hpA⟩ : ∃ x, hasC o 65 = x := ⟨_, rfl⟩
  obtain ⟨pB, hpB⟩ : ∃ x, hasC o 66 = x := ⟨_, rfl⟩
  obtain ⟨pN, hpN⟩ : ∃ x, hasC o 78 = x := ⟨_, rfl⟩
  rw [hpA, hpB, hpN]
  replace hpA := hid hpA
  replace hpB := hid hpB
  replace hpN := hid hpN
  clear h23
  go_enter Tryd.func56, Tryd.ntmps56
  go_wp2_with fail
  refine (has_spec o 65 _ ho1).mono ?_
  rintro e v1 ⟨rfl, hb1⟩
  rw [hpA.out]
  have S1 := hid (DSt.start hb1)
  have x1 := S1.out.q1.cell
  have f1 := S1.out.q1.frozen
  have z1 := S1.out.q1.lt
  clear hb1
  cases pA
  · skip
    go_wp2_with fail
    clear x1 f1 z1
    refine (has_spec o 66 _ ho1).mono ?_
    rintro e v2 ⟨rfl, hb2⟩
    rw [hpB.out]
    have S2 := hid (S1.out.below hb2)
    have x2 := S2.out.q1.cell
    have f2 := S2.out.q1.frozen
    have z2 := S2.out.q1.lt
    clear hb2 S1
    cases pB
    · skip
      go_wp2_with fail
      clear x2 f2 z2
      refine (has_spec o 78 _ ho1).mono ?_
      rintro e v3 ⟨rfl, hb3⟩
      rw [hpN.out]
      have S3 := hid (S2.out.below hb3)
      have x3 := S3.out.q1.cell
      have f3 := S3.out.q1.frozen
      have z3 := S3.out.q1.lt
      clear hb3 S2
      cases pN
      · skip
        have x0 := S3.out.q0.cell
        have f0 := S3.out.q0.frozen
        have hz0 := S3.out.q0.lt
        go_wp2
        refine bodyPost_ret (v := insV (o : Int) 0 0 0 1) (by simp [results, Tryd.results56, go_sem, x0]) rfl ⟨rfl, ?_⟩
        iterate 5 refine Below.setCell ?_ (by first | omega | (simp; done) | (simp; omega)) _
        exact S3.out.bel
      · skip
        have T3 : Hid (DSt w ((v3.setCell ⟨w.heap.size + 1, 3, none⟩ (.int .i64 y)).setCell ⟨w.heap.size + 1, 4, none⟩ (.int .i64 2)) #[.int .i64 (o : Int), .int .i64 0, .int .i64 0, .int .i64 y, .int .i64 2]) := ((S3.out.set 3 (.int .i64 y)).set 4 (.int .i64 2))
        obtain ⟨W3, hW3⟩ : ∃ W3, ((v3.setCell ⟨w.heap.size + 1, 3, none⟩ (.int .i64 y)).setCell ⟨w.heap.size + 1, 4, none⟩ (.int .i64 2)) = W3 := ⟨_, rfl⟩
        rw [hW3] at T3
        have x0 := T3.out.q0.cell
        have f0 := T3.out.q0.frozen
        have hz0 := T3.out.q0.lt
        have y0 := T3.out.q1.cell
        go_wp2
        refine bodyPost_ret (v := insV (o : Int) 0 0 y 2) (by simp [results, Tryd.results56, go_sem, x0]) rfl ⟨rfl, ?_⟩
        iterate 5 refine Below.setCell ?_ (by first | omega | (simp; done) | (simp; omega)) _
        exact T3.out.bel
    · skip
      have T2 : Hid (DSt w ((v2.setCell ⟨w.heap.size + 1, 2, none⟩ (.int .i64 t)).setCell ⟨w.heap.size + 1, 4, none⟩ (.int .i64 2)) #[.int .i64 (o : Int), .int .i64 0, .int .i64 t, .int .i64 0, .int .i64 2]) := ((S2.out.set 2 (.int .i64 t)).set 4 (.int .i64 2))
      obtain ⟨W2, hW2⟩ : ∃ W2, ((v2.setCell ⟨w.heap.size + 1, 2, none⟩ (.int .i64 t)).setCell ⟨w.heap.size + 1, 4, none⟩ (.int .i64 2)) = W2 := ⟨_, rfl⟩
      rw [hW2] at T2
      go_wp2_with fail
      clear hW2 x2 f2 z2 S2
      refine (has_spec o 78 _ ho1).mono ?_
      rintro e v4 ⟨rfl, hb4⟩
      rw [hpN.out]
      have S4 := hid (T2.out.below hb4)
      have x4 := S4.out.q1.cell
      have f4 := S4.out.q1.frozen
      have z4 := S4.out.q1.lt
      clear hb4 T2
      cases pN
      · skip
        have x0 := S4.out.q0.cell
        have f0 := S4.out.q0.frozen
        have hz0 := S4.out.q0.lt
        go_wp2
        refine bodyPost_ret (v := insV (o : Int) 0 t 0 2) (by simp [results, Tryd.results56, go_sem, x0]) rfl ⟨rfl, ?_⟩
        iterate 5 refine Below.setCell ?_ (by first | omega | (simp; done) | (simp; omega)) _
        exact S4.out.bel
      · skip
        have T4 : Hid (DSt w ((v4.setCell ⟨w.heap.size + 1, 3, none⟩ (.int .i64 y)).setCell ⟨w.heap.size + 1, 4, none⟩ (.int .i64 2)) #[.int .i64 (o : Int), .int .i64 0, .int .i64 t, .int .i64 y, .int .i64 2]) := ((S4.out.set 3 (.int .i64 y)).set 4 (.int .i64 2))
        obtain ⟨W4, hW4⟩ : ∃ W4, ((v4.setCell ⟨w.heap.size + 1, 3, none⟩ (.int .i64 y)).setCell ⟨w.heap.size + 1, 4, none⟩ (.int .i64 2)) = W4 := ⟨_, rfl⟩
        rw [hW4] at T4
        have x0 := T4.out.q0.cell
        have f0 := T4.out.q0.frozen
        have hz0 := T4.out.q0.lt
        have y0 := T4.out.q1.cell
        go_wp2
        refine bodyPost_ret (v := insV (o : Int) 0 t y 2) (by simp [results, Tryd.results56, go_sem, x0]) rfl ⟨rfl, ?_⟩
        iterate 5 refine Below.setCell ?_ (by first | omega | (simp; done) | (simp; omega)) _
        exact T4.out.bel
  · skip
    have T1 : Hid (DSt w (v1.setCell ⟨w.heap.size + 1, 1, none⟩ (.int .i64 r)) #[.int .i64 (o : Int), .int .i64 r, .int .i64 0, .int .i64 0, .int .i64 1]) := (S1.out.set 1 (.int .i64 r))
    obtain ⟨W1, hW1⟩ : ∃ W1, (v1.setCell ⟨w.heap.size + 1, 1, none⟩ (.int .i64 r)) = W1 := ⟨_, rfl⟩
    rw [hW1] at T1
    go_wp2_with fail
    clear hW1 x1 f1 z1 S1
    refine (has_spec o 66 _ ho1).mono ?_
    rintro e v5 ⟨rfl, hb5⟩
    rw [hpB.out]
    have S5 := hid (T1.out.below hb5)
    have x5 := S5.out.q1.cell
    have f5 := S5.out.q1.frozen
    have z5 := S5.out.q1.lt
    clear hb5 T1
    cases pB
    · skip
      go_wp2_with fail
      clear x5 f5 z5
      refine (has_spec o 78 _ ho1).mono ?_
      rintro e v6 ⟨rfl, hb6⟩
      rw [hpN.out]
      have S6 := hid (S5.out.below hb6)
      have x6 := S6.out.q1.cell
      have f6 := S6.out.q1.frozen
      have z6 := S6.out.q1.lt
      clear hb6 S5
      cases pN
      · skip
        have x0 := S6.out.q0.cell
        have f0 := S6.out.q0.frozen
        have hz0 := S6.out.q0.lt
        go_wp2
        refine bodyPost_ret (v := insV (o : Int) r 0 0 1) (by simp [results, Tryd.results56, go_sem, x0]) rfl ⟨rfl, ?_⟩
        iterate 5 refine Below.setCell ?_ (by first | omega | (simp; done) | (simp; omega)) _
        exact S6.out.bel
      · skip
        have T6 : Hid (DSt w ((v6.setCell ⟨w.heap.size + 1, 3, none⟩ (.int .i64 y)).setCell ⟨w.heap.size + 1, 4, none⟩ (.int .i64 2)) #[.int .i64 (o : Int), .int .i64 r, .int .i64 0, .int .i64 y, .int .i64 2]) := ((S6.out.set 3 (.int .i64 y)).set 4 (.int .i64 2))
        obtain ⟨W6, hW6⟩ : ∃ W6, ((v6.setCell ⟨w.heap.size + 1, 3, none⟩ (.int .i64 y)).setCell ⟨w.heap.size + 1, 4, none⟩ (.int .i64 2)) = W6 := ⟨_, rfl⟩
        rw [hW6] at T6
        have x0 := T6.out.q0.cell
        have f0 := T6.out.q0.frozen
        have hz0 := T6.out.q0.lt
        have y0 := T6.out.q1.cell
        go_wp2
        refine bodyPost_ret (v := insV (o : Int) r 0 y 2) (by simp [results, Tryd.results56, go_sem, x0]) rfl ⟨rfl, ?_⟩
        iterate 5 refine Below.setCell ?_ (by first | omega | (simp; done) | (simp; omega)) _
        exact T6.out.bel
    · skip
      have T5 : Hid (DSt w ((v5.setCell ⟨w.heap.size + 1, 2, none⟩ (.int .i64 t)).setCell ⟨w.heap.size + 1, 4, none⟩ (.int .i64 2)) #[.int .i64 (o : Int), .int .i64 r, .int .i64 t, .int .i64 0, .int .i64 2]) := ((S5.out.set 2 (.int .i64 t)).set 4 (.int .i64 2))
      obtain ⟨W5, hW5⟩ : ∃ W5, ((v5.setCell ⟨w.heap.size + 1, 2, none⟩ (.int .i64 t)).setCell ⟨w.heap.size + 1, 4, none⟩ (.int .i64 2)) = W5 := ⟨_, rfl⟩
      rw [hW5] at T5
      go_wp2_with fail
      clear hW5 x5 f5 z5 S5
      refine (has_spec o 78 _ ho1).mono ?_
      rintro e v7 ⟨rfl, hb7⟩
      rw [hpN.out]
      have S7 := hid (T5.out.below hb7)
      have x7 := S7.out.q1.cell
      have f7 := S7.out.q1.frozen
      have z7 := S7.out.q1.lt
      clear hb7 T5
      cases pN
      · skip
        have x0 := S7.out.q0.cell
        have f0 := S7.out.q0.frozen
        have hz0 := S7.out.q0.lt
        go_wp2
        refine bodyPost_ret (v := insV (o : Int) r t 0 2) (by simp [results, Tryd.results56, go_sem, x0]) rfl ⟨rfl, ?_⟩
        iterate 5 refine Below.setCell ?_ (by first | omega | (simp; done) | (simp; omega)) _
        exact S7.out.bel
      · skip
        have T7 : Hid (DSt w ((v7.setCell ⟨w.heap.size + 1, 3, none⟩ (.int .i64 y)).setCell ⟨w.heap.size + 1, 4, none⟩ (.int .i64 2)) #[.int .i64 (o : Int), .int .i64 r, .int .i64 t, .int .i64 y, .int .i64 2]) := ((S7.out.set 3 (.int .i64 y)).set 4 (.int .i64 2))
        obtain ⟨W7, hW7⟩ : ∃ W7, ((v7.setCell ⟨w.heap.size + 1, 3, none⟩ (.int .i64 y)).setCell ⟨w.heap.size + 1, 4, none⟩ (.int .i64 2)) = W7 := ⟨_, rfl⟩
        rw [hW7] at T7
        have x0 := T7.out.q0.cell
        have f0 := T7.out.q0.frozen
        have hz0 := T7.out.q0.lt
        have y0 := T7.out.q1.cell
        go_wp2
        refine bodyPost_ret (v := insV (o : Int) r t y 2) (by simp [results, Tryd.results56, go_sem, x0]) rfl ⟨rfl, ?_⟩
        iterate 5 refine Below.setCell ?_ (by first | omega | (simp; done) | (simp; omega)) _
        exact T7.out.bel
/-- the code that a list gets that is to be decoded -/
def decC (zs : List Int) : Int := if 4096 < zs.length then 2 else if zs.length = 2 then (if bytesB zs 2 = true then 0 else 4) else 8
def dec2 (zs : List Int) : Value := if decC zs = 0 then .tuple #[dcdV (zs.getD 0 0) (zs.getD 1 0), .int .i64 0] else .tuple #[insV 0 0 0 0 0, .int .i64 (decC zs)]
end Go.Proofs.YtneagomkohoceaaDoor
