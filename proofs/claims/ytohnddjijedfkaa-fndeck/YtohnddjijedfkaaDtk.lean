/- A deck in a block of its own is rewound, played, stopped, goes over an edge, runs: the program. -/
import Derived.Test.YtohnddjijedfkaaDrk
namespace Go.Proofs.Ytohnddjijedfkaa
open Go.ChangeShapes Go.WideShapes Go.ChangeAt Go.RowKit
set_option linter.unusedVariables false
set_option linter.unusedSimpArgs false

set_option maxRecDepth 100000 in
set_option maxHeartbeats 1000000 in
theorem playm_impl (b : Nat) (a : Option Addr) (cap : Nat) (P : List Int) (ix lf : Int) (lv pl : Bool) (W : World) (h : Blk W b #[.slice a P.length cap, .int .i64 ix, .int .i64 lf, .bool lv, .bool pl]) :
    Calls Try.prog 38 #[.pointer (some ⟨b, 0, none⟩)] W fun e w' => e = .returned (.int .i64 (if ix = (P.length : Int) then 9 else 0)) ∧ Blk w' b #[.slice a P.length cap, .int .i64 ix, .int .i64 lf, .bool lv, .bool (if ix = (P.length : Int) then pl else true)] ∧ W.grownBy w' (some b) := by
  have hA := hid (atend_impl b a cap P ix lf lv pl W h)
  by_cases he : ix = (P.length : Int)
  · rw [if_pos he, if_pos he]
    have heb : (ix == (P.length : Int)) = true := by rw [beq_iff_eq]; exact he
    rw [heb] at hA
    clear he heb
    replace h := hid h
    go_enter Try.func38, Try.ntmps38
    go_wp2_with fail
    refine hA.out.mono ?_
    rintro e w1 ⟨rfl, n1, rfl⟩
    go_wp2
    go_ret
    exact ⟨rfl, h.out, gdrewN W n1 (some b)⟩
  · rw [if_neg he, if_neg he]
    have heb : (ix == (P.length : Int)) = false := by rw [beq_eq_false_iff_ne]; exact he
    rw [heb] at hA
    clear he heb
    go_enter Try.func38, Try.ntmps38
    go_wp2_with fail
    refine hA.out.mono ?_
    rintro e w1 ⟨rfl, n1, rfl⟩
    have h1 : Blk (W.drewN n1) b #[.slice a P.length cap, .int .i64 ix, .int .i64 lf, .bool lv, .bool pl] := h
    have g1 := gdrewN W n1 (some b)
    obtain ⟨W1, hW1⟩ : ∃ W1, W.drewN n1 = W1 := ⟨_, rfl⟩
    rw [hW1] at h1 g1 ⊢
    clear hW1 hA
    have x0 := h1.cell
    have xf := h1.frozen
    have xl := h1.lt
    have q2 := hid (h1.set 4 (.bool true))
    have g2 := hid (gtrans g1 (gset b 4 (.bool true)))
    clear h h1 g1
    go_wp2
    go_ret
    exact ⟨rfl, q2.out, g2.out⟩
set_option maxRecDepth 100000 in
set_option maxHeartbeats 1000000 in
theorem stopm_impl (b : Nat) (v : Value) (ix lf : Int) (lv pl : Bool) (W : World) (h : Blk W b #[v, .int .i64 ix, .int .i64 lf, .bool lv, .bool pl]) :
    Calls Try.prog 32 #[.pointer (some ⟨b, 0, none⟩)] W fun e w' => e = .returned (.int .i64 (if pl = true then 0 else 13)) ∧ Blk w' b #[v, .int .i64 ix, .int .i64 lf, .bool lv, .bool false] ∧ W.grownBy w' (some b) := by
  have x0 := h.cell
  have xf := h.frozen
  have xl := h.lt
  cases pl
  · have hq := hid h
    clear h
    go_enter Try.func32, Try.ntmps32
    go_wp2
    go_ret
    exact ⟨rfl, hq.out, World.grownBy.refl W (some b)⟩
  · have q2 := hid (h.set 4 (.bool false))
    have g2 := hid (gset (W := W) b 4 (.bool false))
    clear h
    go_enter Try.func32, Try.ntmps32
    go_wp2
    go_ret
    exact ⟨rfl, q2.out, g2.out⟩
set_option maxRecDepth 100000 in
set_option maxHeartbeats 1000000 in
theorem edge_impl (b : Nat) (a : Option Addr) (cap : Nat) (P : List Int) (ix lf : Int) (lv : Bool) (W : World) (h : Blk W b #[.slice a P.length cap, .int .i64 ix, .int .i64 lf, .bool lv, .bool true]) (hr : RowR W (.slice a P.length cap) P) (hn : Apart a P.length b) (hl : P.length ≤ 1048576) (hx : 0 ≤ ix) (hx1 : ix < (P.length : Int)) :
    Calls Try.prog 47 #[.pointer (some ⟨b, 0, none⟩)] W fun e w' => e = .returned (.tuple #[]) ∧ Blk w' b (dkA (.slice a P.length cap) (Dk.mk P ix lf lv true).edge) ∧ W.grownBy w' (some b) := by
  have x0 := h.cell
  have xf := h.frozen
  have xl := h.lt
  have q1 := hid (h.set 3 (.bool !lv))
  have g1 := hid (gset (W := W) b 3 (.bool !lv))
  go_enter Try.func47, Try.ntmps47
  go_upto_region 1 with fail
  obtain ⟨W1, hW1⟩ : ∃ W1, W.setCell ⟨b, 3, none⟩ (.bool !lv) = W1 := ⟨_, rfl⟩
  rw [hW1] at q1 g1 ⊢
  clear hW1 x0 xf xl h
  have x0 := q1.out.cell
  have xf := q1.out.frozen
  have xl := q1.out.lt
  have q2 := hid (q1.out.set 1 (.int .i64 (ix + 1)))
  have g2 := gtrans g1.out (gset b 1 (.int .i64 (ix + 1)))
  have r2 := hid (hr.apart g2 hn)
  replace g2 := hid g2
  clear q1 g1 hr
  go_upto_region 2 with fail
  obtain ⟨W2, hW2⟩ : ∃ W2, W1.setCell ⟨b, 1, none⟩ (.int .i64 (ix + 1)) = W2 := ⟨_, rfl⟩
  rw [hW2] at q2 g2 r2 ⊢
  clear hW2 x0 xf xl
  go_wp2_with fail
  refine (begin_impl b a cap ⟨P, ix + 1, lf, !lv, true⟩ _ q2.out r2.out hn ⟨show 0 ≤ ix + 1 by omega, show ix + 1 ≤ (P.length : Int) by omega⟩ hl).mono ?_
  rintro e w2 ⟨rfl, h3, g3⟩
  rw [begin_edge hx hx1] at h3
  have g4 := hid (gtrans g2.out g3)
  replace h3 := hid h3
  clear q2 r2 g2 g3
  go_wp2
  exact bodyPost_end (v := .tuple #[]) (by simp [results, Try.results47]) rfl ⟨rfl, h3.out, g4.out⟩
set_option maxRecDepth 100000 in
set_option maxHeartbeats 2000000 in
theorem runm_impl (b : Nat) (a : Option Addr) (cap : Nat) (d : Dk) (t : Int) (W : World) (h : Blk W b (dkA (.slice a d.pulses.length cap) d)) (hr : RowR W (.slice a d.pulses.length cap) d.pulses) (hn : Apart a d.pulses.length b) (hok : d.ok = true) (ht0 : 0 ≤ t) (ht1 : t ≤ 1000000) :
    Calls Try.prog 28 #[.pointer (some ⟨b, 0, none⟩), .int .i64 t] W fun e w' => e = .returned (.int .i64 (run2 d t).2) ∧ Blk w' b (dkA (.slice a d.pulses.length cap) (run2 d t).1) ∧ W.grownBy w' (some b) := by
  obtain ⟨P, ix, lf, lv, pl⟩ := d
  obtain ⟨hl, hx0, hx1, hf0, hf1, hpp⟩ := ok_lens hok
  clear hpp
  obtain ⟨R, hR⟩ : ∃ R, run2 ⟨P, ix, lf, lv, pl⟩ t = R := ⟨_, rfl⟩
  have hR0 : Hid (runD (P.length + 1) ⟨P, ix, lf, lv, pl⟩ t 0 = R) := hR
  rw [hR]
  clear hR
  replace h := hid h
  replace hr := hid hr
  replace hok := hid hok
  replace hn := hid hn
  go_enter Try.func28, Try.ntmps28
  go_wp2
  go_loopw [1, 5] (fun tv ev wr => ∃ (ix lf : Int) (lv pl : Bool) (t e : Int), tv = .int .i64 t ∧ ev = .int .i64 e ∧ Blk wr b #[.slice a P.length cap, .int .i64 ix, .int .i64 lf, .bool lv, .bool pl] ∧ W.grownBy wr (some b) ∧ (Dk.mk P ix lf lv pl).ok = true ∧ 0 ≤ t ∧ t ≤ 1000000 ∧ 0 ≤ e ∧ e ≤ ix ∧ runD (P.length + 1) ⟨P, ix, lf, lv, pl⟩ t e = R) (fun tv _ _ => (intOf tv).toNat)
  case atStart => exact ⟨ix, lf, lv, pl, t, 0, rfl, rfl, h.out, World.grownBy.refl _ _, hok.out, ht0, ht1, by omega, hx0, hR0.out⟩
  case round =>
    clear hx0 hx1 hf0 hf1 hR0 h hok ht0 ht1
    obtain ⟨ix, lf, lv, pl, t, e, rfl, rfl, q, g, hok, ht0, ht1, he0, he1, hRun⟩ := hrel
    obtain ⟨_, hx0, hx1, hf0, hf1, hpl⟩ := ok_lens hok
    have r := hid (hr.out.apart g hn.out)
    have x0 := q.cell
    have xf := q.frozen
    have xl := q.lt
    replace q := hid q
    replace g := hid g
    cases pl
    · rw [runD_stop (by simp)] at hRun
      subst hRun
      clear hpl hok r
      go_wp2
      go_ret
      exact ⟨rfl, q.out, g.out⟩
    · obtain ⟨hxl, hf2⟩ := hpl rfl
      clear hpl
      by_cases hlt : t < lf
      · have hE : runD (P.length + 1) ⟨P, ix, lf, lv, true⟩ t e = (⟨P, ix, lf - t, lv, true⟩, e) := by
          by_cases htp : 0 < t
          · unfold runD
            rw [if_pos ⟨rfl, htp⟩, if_pos hlt]
          · rw [runD_stop (fun h => htp h.2), show t = 0 by omega, Int.sub_zero]
        rw [hE] at hRun
        subst hRun
        have hd : ¬ lf ≤ t := by omega
        have q2 := hid (q.out.set 2 (.int .i64 (lf - t)))
        have g2 := hid (gtrans g.out (gset b 2 (.int .i64 (lf - t))))
        clear hok r hE q g
        go_wp2
        go_ret
        exact ⟨rfl, q2.out, g2.out⟩
      · have hE := runD_edge (e := e) hok (by omega) hlt
        rw [hE] at hRun
        obtain ⟨hok2, -⟩ := Dk.edge_ok hok rfl
        obtain ⟨LF, hLF⟩ : ∃ LF, ((Dk.mk P ix lf lv true).goto (ix + 1)).left = LF := ⟨_, rfl⟩
        obtain ⟨PL, hPL⟩ : ∃ PL, decide (ix + 1 < (P.length : Int)) = PL := ⟨_, rfl⟩
        have hed : (Dk.mk P ix lf lv true).edge = ⟨P, ix + 1, LF, !lv, PL⟩ := by rw [← hLF, ← hPL]; rfl
        have hC := hid (edge_impl b a cap P ix lf lv wr q.out r.out hn.out (by omega) hx0 hxl)
        rw [hed] at hRun hok2 hC
        replace hRun := hid hRun
        replace hok2 := hid hok2
        have hd : lf ≤ t := by omega
        clear hE hok hed hLF hPL r
        go_wp2_with fail
        refine hC.out.mono ?_
        rintro e' w2 ⟨rfl, q2, g2⟩
        have g3 := hid (gtrans g.out g2)
        replace q2 := hid q2
        clear g2 hC x0 xf xl q g
        go_wp2
        go_roundw
        case rel => exact ⟨ix + 1, LF, !lv, PL, t - lf, e + 1, rfl, rfl, q2.out, g3.out, hok2.out, by omega, by omega, by omega, by omega, hRun.out⟩
        case measure => simp [intOf]; omega
end Go.Proofs.Ytohnddjijedfkaa
