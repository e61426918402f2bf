/- The head of a snapshot's text is read: the program. -/
import Derived.Test.YtghcagibdcblnaaGreatDoorNif
import Derived.Test.YtghcagibdcblnaaGreatDoorF24
import Derived.Test.YtghcagibdcblnaaGreatDoorNkf
import Derived.Test.YtghcagibdcblnaaGreatDoorF36
import Derived.Test.YtghcagibdcblnaaGreatDoorF28
namespace Go.Proofs.YtghcagibdcblnaaGreatDoor
open Go.ChangeShapes Go.WideShapes Go.ChangeAt Go.RowKit
set_option linter.unusedVariables false
set_option linter.unusedSimpArgs false

/-- what a head tells -/
def hdS (s : Sn) (t : ByteArray) : Sn :=
  ⟨⟨byt t 1, byt t 2, byt t 3, byt t 4, byt t 5, byt t 6, byt t 7, byt t 8, byt t 9, byt t 10, byt t 11, bitAt (byt t 12) 1, bitAt (byt t 12) 2, bitAt (byt t 12) 4⟩, ⟨s.m.rom, s.m.ram, byt t 13, 1 + 2 * (byt t 12 / 16 % 2), bitAt (byt t 12) 8⟩, poS (byt t 14)⟩
/-- the code of a head that is whole -/
def hdC (t : ByteArray) : Int := if byt t 0 ≠ 3 then 18 else if 31 < byt t 12 ∨ 3 < byt t 13 ∨ 31 < byt t 14 ∨ okC (hdS sn0 t).c = false then 3 else 0
/-- where a reader stopped -/
structure PnS (w0 w1 W : World) (B S : Nat) : Prop where
  bel : Below w0.heap.size w0 W
  box : ∃ A, Blk W S A ∧ A.size = 31
  kd : Kd [B, S] w1 W
def HdP (w0 W : World) (e0 e1 e2 : Addr) (B S : Nat) (t : ByteArray) (s : Sn) (vr vm : Value) (e : Ending) (w' : World) : Prop :=
  (e = .returned (.tuple #[]) ∧ hdC t = 0 ∧ RdS w0 W w' e0 e1 e2 B t 15 S (snA (hdS s t) vr vm)) ∨ (e = .panicked (ftV (hdC t)) ∧ hdC t ≠ 0 ∧ PnS w0 W w' B S)
theorem RdS.pn {w0 w1 W W' : World} {e0 e1 e2 : Addr} {B H a S : Nat} {t : ByteArray} {A : Array Value} (h : RdS w0 W W e0 e1 e2 H t a S A) (hA : A.size = 31) (k1 : Kd [B, S] w1 W) (hH : w1.heap.size ≤ H) (k : Kd [H] W W') : PnS w0 w1 W' B S :=
  ⟨k.below h.rd.bel h.rd.bel.size (by simp; exact h.rd.lo), ⟨A, k.blk h.box (by simp; exact h.ne), hA⟩, k1.since k (by intro x hx; right; simp at hx; omega)⟩
theorem hd_num (s : Sn) (t : ByteArray) (vr vm : Value) : ((snA (swS (numS11 s t 1) (byt t 12)) vr vm).setIfInBounds 16 (.int .i64 (byt t 13))) = snA { swS (numS11 s t 1) (byt t 12) with m := { (swS (numS11 s t 1) (byt t 12)).m with page := byt t 13 } } vr vm := rfl
theorem hd_all (s : Sn) (t : ByteArray) : ({ swS (numS11 s t 1) (byt t 12) with m := { (swS (numS11 s t 1) (byt t 12)).m with page := byt t 13 }, p := poS (byt t 14) } : Sn) = hdS s t := rfl
theorem hd_ext {s : Sn} {t : ByteArray} (h : 15 ≤ t.size) : (∀ i, i < 15 → byt (t.extract 0 15) i = byt t i) := fun i hi => by
  have := byt_extract t (i := 0) (e := 15) (j := i) (by omega) h
  rw [Nat.zero_add] at this
  exact this
theorem hdS_ext {t : ByteArray} (h : 15 ≤ t.size) (s : Sn) : hdS s (t.extract 0 15) = hdS s t := by
  have e := hd_ext (s := s) h
  unfold hdS
  rw [e 1 (by omega), e 2 (by omega), e 3 (by omega), e 4 (by omega), e 5 (by omega), e 6 (by omega), e 7 (by omega), e 8 (by omega), e 9 (by omega), e 10 (by omega), e 11 (by omega), e 12 (by omega), e 13 (by omega), e 14 (by omega)]
theorem RdS.back {w0 W V W' : World} {e0 e1 e2 : Addr} {B H a b S : Nat} {t X : ByteArray} {A0 A : Array Value} (h : RdS w0 W V e0 e1 e2 B t a S A0) (g : RdS w0 V W' e0 e1 e2 H X b S A) (hBH : B ≠ H) (hWH : W.heap.size ≤ H) : RdS w0 W W' e0 e1 e2 B t a S A :=
  ⟨h.rd.kd g.kd (by simp; exact ⟨hBH, fun e => h.ne e.symm⟩) (by simp; exact ⟨g.rd.lo, h.lo⟩), h.ne, h.lo, g.box, h.kd.since g.kd (by
    intro x hx
    simp at hx
    rcases hx with rfl | rfl
    · exact .inr hWH
    · exact .inl (by simp))⟩
theorem RdS.cells {w0 w1 W : World} {e0 e1 e2 : Addr} {B a S : Nat} {t : ByteArray} {A : Array Value} (h : RdS w0 w1 W e0 e1 e2 B t a S A) (o : Nat) (vs : List Value) : RdS w0 w1 (W.setCells S o vs) e0 e1 e2 B t a S (layE o vs A) :=
  ⟨h.rd.kd (xs := [S]) (Kd.cells (by simp) vs o _ (Kd.refl _ _)) (by simp; exact fun e => h.ne e.symm) (by simp; exact h.lo), h.ne, h.lo, layE_blk S vs W o A h.box, Kd.cells (by simp) vs o _ h.kd⟩
theorem RdS.stop {w0 W V W1 W' : World} {e0 e1 e2 : Addr} {B H a b S : Nat} {t X : ByteArray} {A0 A : Array Value} (h : RdS w0 W V e0 e1 e2 B t a S A0) (g : RdS w0 V W1 e0 e1 e2 H X b S A) (hA : A.size = 31) (hWH : W.heap.size ≤ H) (k : Kd [H] W1 W') : PnS w0 W W' B S :=
  g.again.pn hA (h.kd.since g.kd (by
    intro x hx
    simp at hx
    rcases hx with rfl | rfl
    · exact .inr hWH
    · exact .inl (by simp))) hWH k
set_option maxRecDepth 100000 in
set_option maxHeartbeats 2000000 in
theorem rhead_impl {w0 W : World} {e0 e1 e2 : Addr} {B S : Nat} {t : ByteArray} {s : Sn} {vr vm : Value} (h : RdS w0 W W e0 e1 e2 B t 0 S (snA s vr vm)) (hs : s.m.screen = 1) (hn : 15 ≤ t.size) :
    Calls Tryz.prog 43 #[.pointer (some ⟨B, 0, none⟩), .pointer (some ⟨S, 0, none⟩)] W (HdP w0 W e0 e1 e2 B S t s vr vm) := by
  have hX := hd_ext (s := s) hn
  have hXs : (t.extract 0 15).size = 15 := by rw [ByteArray.size_extract]; omega
  have hT := hid (bytes_ok h.rd 15 (by omega))
  have hSe := hid (hdS_ext hn s)
  have hCe : Hid (hdC (t.extract 0 15) = hdC t) := by
    unfold hdC Hid
    rw [hdS_ext hn, hX 0 (by omega), hX 12 (by omega), hX 13 (by omega), hX 14 (by omega)]
  rw [Nat.zero_add] at hT
  generalize hXe : t.extract 0 15 = X at *
  replace h := hid h
  clear hXe hX hn
  go_enter Tryz.func43, Tryz.ntmps43
  go_wp2_with fail
  refine hT.out.mono ?_
  rintro e w1 ⟨rfl, r1, k1⟩
  have h1 := h.out.took r1 k1
  obtain ⟨H, hH⟩ : ∃ H, w1.heap.size = H := ⟨_, rfl⟩
  have hb1 := (Below.refl w1.heap.size w1).alloc (Nat.le_refl _) (.cells #[.string X, .int .i64 0] 54)
  have h2 := hid (h1.below hb1)
  have hSH : S ≠ H := by have := h1.box.lt; omega
  have hBH : B ≠ H := by have := h1.rd.blk.lt; omega
  have hWH : Hid (W.heap.size ≤ H) := by have := h1.kd.size; unfold Hid; omega
  have q2 := Blk.new w1 #[.string X, .int .i64 0] 54
  rw [hH] at q2
  have g2 : Hid (RdS w0 (w1.alloc (.cells #[.string X, .int .i64 0] 54)) (w1.alloc (.cells #[.string X, .int .i64 0] 54)) e0 e1 e2 H X 0 S (snA s vr vm)) :=
    RdS.start ⟨h2.out.rd.errs, h2.out.rd.bel, by have := h1.rd.bel.size; omega, q2, by omega, by omega⟩ hSH h2.out.lo h2.out.box
  clear hT h1 hb1 q2 r1 k1 h
  go_upto_region 1 with fail
  obtain ⟨V, hV⟩ : ∃ V, w1.alloc (Obj.cells #[.string X, .int .i64 0] 54) = V := ⟨_, rfl⟩
  rw [hV] at h2 g2 ⊢
  clear hV hH
  by_cases c0 : byt X 0 = 3
  · have hV1 := hid (version_ok g2.out.rd (by omega) c0)
    go_wp2_with fail
    refine hV1.out.mono ?_
    rintro e w2 ⟨rfl, r3, k3⟩
    have g3 : Hid (RdS w0 V w2 e0 e1 e2 H X 1 S (snA s vr vm)) := g2.out.took r3 k3
    clear r3 k3 hV1 g2
    have hN := hid (numbers_impl g3.out.again (by omega))
    go_wp2_with fail
    refine hN.out.mono ?_
    rintro e w3 ⟨rfl, g4⟩
    have g4 : Hid (RdS w0 V w3 e0 e1 e2 H X 12 S (snA (numS11 s X 1) vr vm)) := g3.out.join g4
    clear hN g3
    have g4d : Hid (RdS w0 V w3.drew e0 e1 e2 H X 12 S (snA (numS11 s X 1) vr vm)) := g4.out.below (Below.refl w3.heap.size w3).drew
    by_cases c12 : byt X 12 ≤ 31
    · have hN := hid (rswitches_impl g4d.out.again (by omega) (show (numS11 s X 1).m.screen = 1 from hs) c12)
      replace hs := hid hs
      replace c12 := hid c12
      replace c0 := hid c0
      replace hXs := hid hXs
      go_upto_region 3 with fail
      go_region_with ((go_at_call 74; refine hN.out.mono ?_; rintro e w4 ⟨rfl, g5⟩; replace g5 := hid g5))
      have g5 : Hid (RdS w0 V w4 e0 e1 e2 H X 13 S (snA (swS (numS11 s X 1) (byt X 12)) vr vm)) := g4d.out.join g5.out
      clear hN g4 g4d
      by_cases c13 : byt X 13 ≤ 3
      · have hN := hid (upto_ok g5.out.rd 3 (by have := hXs.out; omega) c13)
        replace c13 := hid c13
        go_upto_region 4 with fail
        go_wp2_with fail
        refine hN.out.mono ?_
        rintro e w5 ⟨rfl, r6, k6⟩
        have g6 : Hid (RdS w0 V w5 e0 e1 e2 H X 14 S (snA (swS (numS11 s X 1) (byt X 12)) vr vm)) := g5.out.took r6 k6
        clear r6 k6 hN g5
        have x0 := g6.out.box.cell 16
        have xf := g6.out.box.frozen 16
        have xl := g6.out.box.lt
        have g7 := hid (g6.out.set 16 (.int .i64 (byt X 13)))
        rw [hd_num] at g7
        go_upto_region 5 with fail
        obtain ⟨V6, hV6⟩ : ∃ V6, w5.setCell ⟨S, 16, none⟩ (.int .i64 (byt X 13)) = V6 := ⟨_, rfl⟩
        rw [hV6] at g7 ⊢
        clear hV6 x0 xf xl g6
        by_cases c14 : byt X 14 ≤ 31
        · have hN := hid (ports_impl g7.out.rd (by have := hXs.out; omega) c14)
          replace c14 := hid c14
          go_wp2_with fail
          refine hN.out.mono ?_
          rintro e w7 ⟨rfl, r8, k8⟩
          have g8 := hid (g7.out.took r8 k8)
          clear r8 k8 hN g7
          have hth := hid (blk_there g8.out.box (o := 19) (n := (poA (poS (byt X 14))).size) (by show 19 + 12 ≤ 31; omega))
          obtain ⟨wF, hwF⟩ : ∃ Y, w7.setCells S 19 (poA (poS (byt X 14))).toList = Y := ⟨_, rfl⟩
          have g9 : Hid (RdS w0 V wF e0 e1 e2 H X 15 S (snA (hdS s X) vr vm)) := by
            rw [← hwF]
            have := g8.out.cells 19 (poA (poS (byt X 14))).toList
            rw [sn_lay2, hd_all] at this
            exact this
          replace hwF := hid hwF
          clear g8
          go_upto_region 6 with (guard_target = wpList _ _ _ (Oper.mk _ (Op.store _ _ _) _ _ _ _ :: _) _ _; refine wpList_store_mid rfl 31 _ _ rfl S 19 (poA (poS (byt X 14))) rfl rfl hth.out (szP2 _) (po_one _) ?_; rw [hwF.out])
          have x1 := hid (sn_cpu g9.out.box)
          have hC := hid (cpuok_impl (hdS s X).c wF)
          have hcc : Hid (okC (hdS s X).c = okC (hdS sn0 X).c) := rfl
          clear hth hwF
          go_wp2_with (refine wpList_load_mid rfl 25 _ rfl S 0 rfl (cuA (hdS s X).c).toList _ x1.out Tryz.underlying25 rfl (szC (hdS s X).c) ?_)
          refine hC.out.mono ?_
          rintro e w9 ⟨rfl, hb9⟩
          have g10 := hid (g9.out.below hb9)
          clear hb9 g9 x1 hC
          have hK : Hid (okC (hdS s X).c = true → hdC X = 0) := fun hk => by
            unfold hdC
            rw [if_neg (by rw [c0.out]; decide), if_neg]
            rintro (h | h | h | h)
            · have := c12.out; omega
            · have := c13.out; omega
            · have := c14.out; omega
            · rw [← hcc.out, hk] at h; cases h
          have hK2 : Hid (okC (hdS s X).c = false → hdC X = 3) := fun hk => by
            unfold hdC
            rw [if_neg (by rw [c0.out]; decide), if_pos]
            right; right; right
            rw [← hcc.out, hk]
          cases hk : okC (hdS s X).c
          · have h3 := hid (hK2.out hk)
            have hW := hid (fun w => whenS_impl true 3 w)
            have hA := hid (fun p w => ask_bad p 3 w (by decide))
            have hz : whS true 3 = 3 := rfl
            rw [hz] at hW
            clear hz hK hK2
            go_wp2_with fail
            refine (hW.out _).mono ?_
            rintro e w10 ⟨rfl, rfl⟩
            go_wp2_with fail
            refine (hA.out _ _).mono ?_
            rintro e w11 ⟨rfl, rfl⟩
            exact ⟨rfl, .inr ⟨by rw [← hCe.out, h3.out], by rw [← hCe.out, h3.out]; decide, h2.out.stop g10.out rfl hWH.out (Kd.refl _ _)⟩⟩
          · have h3 := hid (hK.out hk)
            have hW := hid (fun w => whenS_impl false 3 w)
            have hA := hid (fun p w => ask_ok p w)
            have hz : whS false 3 = 0 := rfl
            rw [hz] at hW
            clear hz hK hK2
            go_wp2_with fail
            refine (hW.out _).mono ?_
            rintro e w10 ⟨rfl, rfl⟩
            go_wp2_with fail
            refine (hA.out _ _).mono ?_
            rintro e w11 ⟨rfl, rfl⟩
            go_wp2_with fail
            exact bodyPost_end (v := .tuple #[]) (by simp [results, Tryz.results43]) rfl (.inl ⟨rfl, by rw [← hCe.out]; exact h3.out, by rw [← hSe.out]; exact h2.out.back g10.out hBH hWH.out⟩)
        · have hN := hid (ports_bad g7.out.rd (by have := hXs.out; omega) (by omega))
          have h3 : Hid (hdC X = 3) := by
            unfold hdC Hid
            rw [if_neg (by rw [c0.out]; decide), if_pos (by right; right; left; omega)]
          go_wp2_with fail
          refine hN.out.mono ?_
          rintro e w7 ⟨rfl, k8⟩
          exact ⟨rfl, .inr ⟨by rw [← hCe.out, h3.out], by rw [← hCe.out, h3.out]; decide, h2.out.stop g7.out rfl hWH.out k8⟩⟩
      · have hN := hid (upto_bad g5.out.rd 3 (by have := hXs.out; omega) (by omega))
        have h3 : Hid (hdC X = 3) := by
          unfold hdC Hid
          rw [if_neg (by rw [c0.out]; decide), if_pos (by right; left; omega)]
        go_upto_region 4 with fail
        go_wp2_with fail
        refine hN.out.mono ?_
        rintro e w5 ⟨rfl, k6⟩
        exact ⟨rfl, .inr ⟨by rw [← hCe.out, h3.out], by rw [← hCe.out, h3.out]; decide, h2.out.stop g5.out rfl hWH.out k6⟩⟩
    · have hN : Hid (∀ W', Below w3.heap.size w3 W' → Calls Tryz.prog 74 #[.pointer (some ⟨H, 0, none⟩), .pointer (some ⟨S, 0, none⟩), .pointer (some ⟨S, 14, none⟩)] W' fun r w' => r = .panicked (ftV 3) ∧ Kd [H] W' w') := fun W' hb => rswitches_bad (g4.out.below hb).rd _ _ (by omega) (by omega)
      have h3 : Hid (hdC X = 3) := by
        unfold hdC Hid
        rw [if_neg (by rw [c0]; decide), if_pos (by left; omega)]
      replace hs := hid hs
      replace c12 := hid c12
      replace c0 := hid c0
      replace hXs := hid hXs
      go_upto_region 3 with fail
      refine nk_reg _ w3 _ H S (ftV 3) (Kd [H]) rfl rfl hN.out (fun a W' w' hd _ hb k => ?_) (by simp) (fun _ _ h => h.elim)
      exact ⟨hd, .inr ⟨by rw [← hCe.out, h3.out], by rw [← hCe.out, h3.out]; decide, h2.out.stop (g4.out.below hb) rfl hWH.out k⟩⟩
  · have hV1 := hid (version_bad g2.out.rd (by omega) c0)
    have hcd : Hid (hdC X = 18) := by unfold hdC; rw [if_pos c0]; rfl
    go_wp2_with fail
    refine hV1.out.mono ?_
    rintro e w2 ⟨rfl, k3⟩
    exact ⟨rfl, .inr ⟨by rw [← hCe.out, hcd.out], by rw [← hCe.out, hcd.out]; decide, h2.out.stop g2.out rfl hWH.out k3⟩⟩
end Go.Proofs.YtghcagibdcblnaaGreatDoor

/- The runs of what was compressed, one by one to whoever asks for them: the program's iterator. -/
namespace Go.Proofs.YtghcagibdcblnaaGreatDoor
open Go.ChangeShapes Go.WideShapes Go.ChangeAt Go.RowKit Go.Shelf
attribute [local go_sem] Oper.semAt_some
set_option linter.unusedVariables false
set_option linter.unusedSimpArgs false

set_option maxRecDepth 100000 in
set_option maxHeartbeats 1000000 in
theorem tr_cut (t : ByteArray) (a : Nat) (e0 e1 e2 : Addr) (w : World) (hE : Errs w e0 e1 e2) (ht : t.size ≤ 65536) (ha : a < t.size) (hp : pfB (t.extract a t.size) = true) (haz : t.size < a + 4) :
    Calls Tryz.prog 102 #[cur t (a : Int)] w fun e w' => e = .returned (.tuple #[cur t (a : Int), rnV 0 0, iX e2]) ∧ Below w.heap.size w w' := by
  have hP := hid (fun W => hp_impl (t.extract a t.size) W (by simp [ByteArray.size_extract]; omega))
  rw [hp] at hP
  have hT := hid (fun W (hW : Errs W e0 e1 e2) => take_impl t a (4 : Nat) e0 e1 e2 W (by unfold maxLen; omega) hW)
  rw [take_cut haz (by omega) ht (by omega)] at hT
  have hT2 : Hid (∀ W, Errs W e0 e1 e2 → Calls Tryz.prog 86 #[cur t (a : Int), .int .i64 4] W fun e w' => e = .returned (.tuple #[cur t (a : Int), .string ⟨#[]⟩, iX e2]) ∧ Below W.heap.size W w') := fun W hW => hT.out W hW
  clear hT hp
  replace hE := hid hE
  have ha2 : (a : Int) ≤ (t.size : Int) := by omega
  clear haz ha
  have hF := hid (three_newL w #[.string t, .int .i64 (a : Int)] #[.string ⟨#[]⟩, .int .i64 0] #[.int .u8 0, .int .i64 0] 52 52 126)
  go_enter Tryz.func102, Tryz.ntmps102
  go_wp2_with fail
  refine (hP.out _).mono ?_
  rintro e w1 ⟨rfl, hw1⟩
  rw [← hw1] at hF
  obtain ⟨hsz, q0, q1, q2, hb1⟩ := hF.out
  clear hF hw1 hP
  have hE1 := hid (hE.out.below (hb1.mono (Nat.le_refl _)))
  have x0 := q0.cell
  have l0 := q0.lt
  replace q0 := hid q0
  replace q1 := hid q1
  replace q2 := hid q2
  replace hb1 := hid hb1
  replace hsz := hid hsz
  go_wp2_with fail
  refine (hT2.out _ hE1.out).mono ?_
  rintro e w2 ⟨rfl, hb2⟩
  have q3 := q1.out.below hb2 q1.out.lt
  have q4 := q2.out.below hb2 q2.out.lt
  have q5 := q0.out.below hb2 q0.out.lt
  have hb3 := hid (new_trans hb1.out hb2)
  have hs2 : Hid (w.heap.size + 1 + 1 + 1 ≤ w2.heap.size) := by have h1 := hb2.size; have h2 := hsz.out; unfold Hid; omega
  have x3 := q3.cell
  have f3 := q3.frozen
  have l3 := q3.lt
  have x4 := q4.cell
  have f4 := q4.frozen
  have l4 := q4.lt
  have x5 := q5.cell
  have l5 := q5.lt
  clear hb2 x0 l0 q0 q1 q2 hE1 hb1 hT2 hsz q3 q4 q5
  go_wp2
  refine bodyPost_ret (v := .tuple #[cur t (a : Int), rnV 0 0, iX e2]) (by simp [results, Tryz.results102, go_sem, x3, x4, f3, f4, l3, l4]) rfl ⟨rfl, ?_⟩
  have hh := hs2.out
  have hb4 := hb3.out.alloc hb3.out.size (.cells #[.string t, .int .i64 (a : Int)] 52)
  repeat (first | exact hb4 | exact hb3.out | refine Below.drew ?_ | refine Below.setCell ?_ (by first | omega | (simp; omega) | simp) _ | refine Below.alloc ?_ (by first | omega | (simp; omega) | simp) _)
end Go.Proofs.YtghcagibdcblnaaGreatDoor
