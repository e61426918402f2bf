/- A deck runs: the specification. -/
import Derived.Test.YtohnddjijedfkaaDfk
namespace Go.Proofs.Ytohnddjijedfkaa
open Go.ChangeShapes Go.WideShapes Go.ChangeAt Go.RowKit
set_option linter.unusedVariables false
set_option linter.unusedSimpArgs false

theorem runD_part {P : List Int} {ix lf : Int} {lv : Bool} {t e : Int} (h : (Dk.mk P ix lf lv true).ok = true) (ht : 0 < t) (hl : t < lf) :
    runD (P.length + 1) ⟨P, ix, lf, lv, true⟩ t e = runD (P.length + 1) ⟨P, ix, lf - t, lv, true⟩ 0 e ∧ (Dk.mk P ix (lf - t) lv true).ok = true := by
  have e1 : runD (P.length + 1) ⟨P, ix, lf, lv, true⟩ t e = (⟨P, ix, lf - t, lv, true⟩, e) := by
    unfold runD
    rw [if_pos ⟨rfl, ht⟩, if_pos hl]
  have e2 : runD (P.length + 1) ⟨P, ix, lf - t, lv, true⟩ 0 e = (⟨P, ix, lf - t, lv, true⟩, e) := by
    unfold runD
    rw [if_neg (fun h => by have := h.2; omega)]
  refine ⟨e1.trans e2.symm, ?_⟩
  have := (runD_ok (P.length + 1) ⟨P, ix, lf, lv, true⟩ t e h).1
  rw [e1] at this
  exact this
theorem runD_edge {P : List Int} {ix lf : Int} {lv : Bool} {t e : Int} (h : (Dk.mk P ix lf lv true).ok = true) (ht : 0 < t) (hl : ¬ t < lf) :
    runD (P.length + 1) ⟨P, ix, lf, lv, true⟩ t e = runD (P.length + 1) (Dk.mk P ix lf lv true).edge (t - lf) (e + 1) := by
  obtain ⟨k1, k2, k3, k4, k5⟩ := Dk.edge_ok h rfl
  have hix := ((Dk.ok_iff _).1 h).2.1
  have e1 : runD (P.length + 1) ⟨P, ix, lf, lv, true⟩ t e = runD P.length (Dk.mk P ix lf lv true).edge (t - lf) (e + 1) := by
    show (if true = true ∧ 0 < t then _ else _) = _
    rw [if_pos ⟨rfl, ht⟩, if_neg hl]
  rw [e1]
  refine runD_more _ _ _ _ _ k1 ?_ ?_
  · show (P.length : Int) - (ix + 1) < (P.length : Int)
    have : 0 ≤ ix := hix.1
    omega
  · show (P.length : Int) - (ix + 1) < ((P.length + 1 : Nat) : Int)
    have : 0 ≤ ix := hix.1
    omega
theorem runD_stop {P : List Int} {ix lf : Int} {lv pl : Bool} {t e : Int} (h : ¬ (pl = true ∧ 0 < t)) : runD (P.length + 1) ⟨P, ix, lf, lv, pl⟩ t e = (⟨P, ix, lf, lv, pl⟩, e) := by
  unfold runD
  rw [if_neg h]
theorem ok_lens {P : List Int} {ix lf : Int} {lv pl : Bool} (h : (Dk.mk P ix lf lv pl).ok = true) : P.length ≤ 5000 ∧ 0 ≤ ix ∧ ix ≤ (P.length : Int) ∧ 0 ≤ lf ∧ lf ≤ 1000 ∧ (pl = true → ix < (P.length : Int) ∧ 1 ≤ lf) := by
  obtain ⟨h1, h2, h3⟩ := (Dk.ok_iff _).1 h
  have hn := ((okPl_iff _).1 h1).2
  refine ⟨hn, h2.1, h2.2, ?_⟩
  rcases h3 with ⟨k1, k2, k3⟩ | ⟨k1, k2, k3⟩
  · have k2' : lf = 0 := k2
    exact ⟨by omega, by omega, fun e => by rw [show pl = false from k3] at e; cases e⟩
  · have hlt : ix < (P.length : Int) := by
      have : ix ≤ (P.length : Int) := h2.2
      have : ¬ ix = (P.length : Int) := k1
      omega
    have hb := Dk.pulse_bd h1 h2.1 hlt
    have k2' : 1 ≤ lf := k2
    have : lf ≤ (Dk.mk P ix lf lv pl).pulse ix := k3
    have hb2 : (Dk.mk P ix lf lv pl).pulse ix ≤ 1000 := hb.2
    exact ⟨by omega, by omega, fun _ => ⟨hlt, k2'⟩⟩
set_option maxRecDepth 100000 in
set_option maxHeartbeats 2000000 in
theorem lrun_spec (a : Option Addr) (cap : Nat) (d : Dk) (t : Int) (w : World) (h : RowR w (.slice a d.pulses.length cap) d.pulses) (hok : d.ok = true) (ht0 : 0 ≤ t) (ht1 : t ≤ 1000000) :
    Calls Try.prog 30 #[dkV (.slice a d.pulses.length cap) d, .int .i64 t] w fun e w' => e = .returned (.tuple #[dkV (.slice a d.pulses.length cap) (run2 d t).1, .int .i64 (run2 d t).2]) ∧ Below w.heap.size w w' := by
  obtain ⟨P, ix, lf, lv, pl⟩ := d
  obtain ⟨hn, hx0, hx1, hf0, hf1, hpp⟩ := ok_lens hok
  clear hpp
  obtain ⟨R, hR⟩ : ∃ R, run2 ⟨P, ix, lf, lv, pl⟩ t = R := ⟨_, rfl⟩
  have hR0 : Hid (runD (P.length + 1) ⟨P, ix, lf, lv, pl⟩ t 0 = R) := hR
  rw [hR]
  clear hR
  obtain ⟨qO, qR, hB⟩ := two_newD w #[.slice a P.length cap, .int .i64 ix, .int .i64 lf, .bool lv, .bool pl] dkZ 25 25
  replace h := hid h
  replace hok := hid hok
  go_enter Try.func30, Try.ntmps30
  go_upto_region 1 with fail
  obtain ⟨V, hV⟩ : ∃ V, (w.alloc (.cells #[.slice a P.length cap, .int .i64 ix, .int .i64 lf, .bool lv, .bool pl] 25)).alloc (.cells #[.slice none 0 0, .int .i64 0, .int .i64 0, .bool false, .bool false] 25) = V := ⟨_, rfl⟩
  rw [hV] at qO qR hB ⊢
  clear hV
  obtain ⟨O, hO⟩ : ∃ O, w.heap.size = O := ⟨_, rfl⟩
  have hOh : Hid (w.heap.size = O) := hO
  have hB2 : Hid (Below w.heap.size w V) := hB
  rw [hO] at qO qR ⊢
  clear hO hB
  replace qO := hid qO
  replace qR := hid qR
  have n3 : ¬ O = O + 1 := by omega
  have n4 : ¬ O + 1 = O := by omega
  go_wp2
  go_loopw [1, 6] (fun tv ev wr => ∃ (ix lf : Int) (lv pl : Bool) (t e : Int), tv = .int .i64 t ∧ ev = .int .i64 e ∧ Blk wr O #[.slice a P.length cap, .int .i64 ix, .int .i64 lf, .bool lv, .bool pl] ∧ Blk wr (O + 1) dkZ ∧ Below w.heap.size w wr ∧ (Dk.mk P ix lf lv pl).ok = true ∧ 0 ≤ t ∧ t ≤ 1000000 ∧ 0 ≤ e ∧ e ≤ ix ∧ runD (P.length + 1) ⟨P, ix, lf, lv, pl⟩ t e = R) (fun tv _ _ => (intOf tv).toNat)
  case atStart => exact ⟨ix, lf, lv, pl, t, 0, rfl, rfl, qO.out, qR.out, hB2.out, hok.out, ht0, ht1, by omega, hx0, hR0.out⟩
  case round =>
    clear hx0 hx1 hf0 hf1 hR0 qO qR hB2 hok ht0 ht1
    obtain ⟨ix, lf, lv, pl, t, e, rfl, rfl, q, r, B, hok, ht0, ht1, he0, he1, hRun⟩ := hrel
    obtain ⟨_, hx0, hx1, hf0, hf1, hpl⟩ := ok_lens hok
    have x0 := q.cell
    have xf := q.frozen
    have xl := q.lt
    replace q := hid q
    replace r := hid r
    replace B := hid B
    have hOle : w.heap.size ≤ O := by have := hOh.out; omega
    have hOle2 : w.heap.size ≤ O + 1 := by omega
    by_cases hg : pl = true ∧ 0 < t
    · obtain ⟨rfl, htp⟩ := hg
      obtain ⟨hxl, hf2⟩ := hpl rfl
      clear hpl
      by_cases hlt : t < lf
      · obtain ⟨hE, hok2⟩ := runD_part (e := e) hok htp hlt
        rw [hE] at hRun
        replace hRun := hid hRun
        replace hok2 := hid hok2
        clear hE hok
        have q2 := hid (q.out.set 2 (.int .i64 (lf - t)))
        have r2 := hid (r.out.other (p := ⟨O, 2, none⟩) n4 (.int .i64 (lf - t)))
        have B2 : Hid (Below w.heap.size w (wr.setCell ⟨O, 2, none⟩ (.int .i64 (lf - t)))) := B.out.setCell (p := ⟨O, 2, none⟩) hOle _
        have hmin : min t lf = t := by omega
        have hd : decide ((0 : Int) < lf - t) = true := decide_eq_true (by omega)
        clear q r B
        go_upto_region 6 with fail
        obtain ⟨W2, hW2⟩ : ∃ W, wr.setCell ⟨O, 2, none⟩ (.int .i64 (lf - t)) = W := ⟨_, rfl⟩
        rw [hW2] at q2 r2 B2 ⊢
        clear hW2 x0 xf xl
        have x0 := q2.out.cell
        go_wp2
        go_roundw
        case rel => exact ⟨ix, lf - t, lv, true, 0, e, rfl, rfl, q2.out, r2.out, B2.out, hok2.out, by omega, by omega, he0, he1, hRun.out⟩
        case measure => simp [intOf]; omega
      · have hE := runD_edge (e := e) hok htp hlt
        rw [hE] at hRun
        obtain ⟨hok2, -⟩ := Dk.edge_ok hok rfl
        obtain ⟨LF, hLF⟩ : ∃ LF, ((Dk.mk P ix lf lv true).goto (ix + 1)).left = LF := ⟨_, rfl⟩
        obtain ⟨PL, hPL⟩ : ∃ PL, decide (ix + 1 < (P.length : Int)) = PL := ⟨_, rfl⟩
        have hed : (Dk.mk P ix lf lv true).edge = ⟨P, ix + 1, LF, !lv, PL⟩ := by rw [← hLF, ← hPL]; rfl
        rw [hed] at hRun hok2
        have hgo := hid (fun W hh => goto_spec a cap ⟨P, ix, 0, lv, true⟩ (ix + 1) W hh (by omega) (show P.length ≤ 1048576 by omega))
        have hgo2 : (Dk.mk P ix 0 lv true).goto (ix + 1) = ⟨P, ix + 1, LF, lv, true⟩ := by rw [← hLF]; rfl
        rw [hgo2] at hgo
        replace hRun := hid hRun
        replace hok2 := hid hok2
        clear hE hok hed hgo2 hLF
        have q2 := hid (q.out.set 2 (.int .i64 0))
        have r2 := hid (r.out.other (p := ⟨O, 2, none⟩) n4 (.int .i64 0))
        have B2 : Hid (Below w.heap.size w (wr.setCell ⟨O, 2, none⟩ (.int .i64 0))) := B.out.setCell (p := ⟨O, 2, none⟩) hOle _
        have hmin : Hid ((if lf < t then lf else t) = lf ∧ lf - lf = 0) := ⟨by split <;> omega, by omega⟩
        clear q r B
        go_upto_region 6 with fail
        rw [hmin.out.1, hmin.out.2]
        obtain ⟨W2, hW2⟩ : ∃ W, wr.setCell ⟨O, 2, none⟩ (.int .i64 0) = W := ⟨_, rfl⟩
        rw [hW2] at q2 r2 B2 ⊢
        clear hW2 x0 xf xl
        have x0 := q2.out.cell
        have hr2 := hid (h.out.below B2.out)
        go_wp2_with fail
        refine (hgo.out _ hr2.out).mono ?_
        rintro e' w3 ⟨rfl, hb⟩
        have q3 := q2.out.below hb q2.out.lt
        have r3 := r2.out.below hb r2.out.lt
        have B3 := new_trans B2.out hb
        have q4 := hid (lay5_blk q3 rfl (.slice a P.length cap) (ix + 1) LF lv true)
        have r4 := hid (lay5_other r3 n4 (.slice a P.length cap) (ix + 1) LF lv true)
        have B4 := hid (lay5_below B3 hOle (.slice a P.length cap) (ix + 1) LF lv true)
        dsimp only [lay5] at q4 r4 B4
        clear hb x0 q2 r2 B2 hr2 hgo
        have x0 := q3.cell
        have xf := q3.frozen
        have xl := q3.lt
        clear q3 r3 B3
        go_upto_region 8 with fail
        obtain ⟨W4, hW4⟩ : ∃ W, ((((w3.setCell ⟨O, 0, none⟩ (.slice a P.length cap)).setCell ⟨O, 1, none⟩ (.int .i64 (ix + 1))).setCell ⟨O, 2, none⟩ (.int .i64 LF)).setCell ⟨O, 3, none⟩ (.bool lv)).setCell ⟨O, 4, none⟩ (.bool true) = W := ⟨_, rfl⟩
        rw [hW4] at q4 r4 B4 ⊢
        clear hW4 x0 xf xl
        have x0 := q4.out.cell
        have xf := q4.out.frozen
        have xl := q4.out.lt
        have q5 := hid (q4.out.set 3 (.bool !lv))
        have r5 := hid (r4.out.other (p := ⟨O, 3, none⟩) n4 (.bool !lv))
        have B5 : Hid (Below w.heap.size w (W4.setCell ⟨O, 3, none⟩ (.bool !lv))) := B4.out.setCell (p := ⟨O, 3, none⟩) hOle _
        clear q4 r4 B4
        go_upto_region 9 with fail
        obtain ⟨W5, hW5⟩ : ∃ W, W4.setCell ⟨O, 3, none⟩ (.bool !lv) = W := ⟨_, rfl⟩
        rw [hW5] at q5 r5 B5 ⊢
        clear hW5 x0 xf xl
        have x0 := q5.out.cell
        have xf := q5.out.frozen
        have xl := q5.out.lt
        have q6 := hid (q5.out.set 4 (.bool PL))
        have r6 := hid (r5.out.other (p := ⟨O, 4, none⟩) n4 (.bool PL))
        have B6 : Hid (Below w.heap.size w (W5.setCell ⟨O, 4, none⟩ (.bool PL))) := B5.out.setCell (p := ⟨O, 4, none⟩) hOle _
        clear q5 r5 B5
        go_upto_region 10 with fail
        obtain ⟨W6, hW6⟩ : ∃ W, W5.setCell ⟨O, 4, none⟩ (.bool PL) = W := ⟨_, rfl⟩
        rw [hW6] at q6 r6 B6 ⊢
        clear hW6 x0 xf xl
        go_wp2
        go_roundw
        case rel => exact ⟨ix + 1, LF, !lv, PL, t - lf, e + 1, rfl, rfl, q6.out, r6.out, B6.out, hok2.out, by omega, by omega, by omega, by omega, hRun.out⟩
        case measure => simp [intOf]; omega
    · rw [runD_stop hg] at hRun
      subst hRun
      have qr := hid (lay5_blk r.out rfl (.slice a P.length cap) ix lf lv pl).cell
      dsimp only [lay5] at qr
      have B3 := hid (lay5_below B.out hOle2 (.slice a P.length cap) ix lf lv pl)
      dsimp only [lay5] at B3
      have xR := r.out.cell
      have fR := r.out.frozen
      have lR := r.out.lt
      cases pl
      · clear hg hpl hok
        go_wp2
        have x6 := qr.out
        exact bodyPost_ret (v := .tuple #[.agg #[.slice a P.length cap, .int .i64 ix, .int .i64 lf, .bool lv, .bool false], .int .i64 e]) (by simp [results, Try.results30, go_sem, x6]; try rfl) rfl ⟨rfl, B3.out⟩
      · have ht9 : ¬ (0 : Int) < t := fun hh => hg ⟨rfl, hh⟩
        clear hg hpl hok
        go_wp2
        have x6 := qr.out
        exact bodyPost_ret (v := .tuple #[.agg #[.slice a P.length cap, .int .i64 ix, .int .i64 lf, .bool lv, .bool true], .int .i64 e]) (by simp [results, Try.results30, go_sem, x6]; try rfl) rfl ⟨rfl, B3.out⟩
end Go.Proofs.Ytohnddjijedfkaa
