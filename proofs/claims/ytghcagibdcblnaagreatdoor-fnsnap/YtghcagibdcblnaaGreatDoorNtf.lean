/- A snapshot's text is read: the program. -/
import Derived.Test.YtghcagibdcblnaaGreatDoorF45
namespace Go.Proofs.YtghcagibdcblnaaGreatDoor
open Go.ChangeShapes Go.WideShapes Go.ChangeAt Go.RowKit
set_option linter.unusedVariables false
set_option linter.unusedSimpArgs false

/-- the world while banks are read -/
structure SnW (w0 w wr : World) (e0 e1 e2 : Addr) (B S C lo : Nat) (t : ByteArray) (p : Nat) (s : Sn) (vr vm : Value) : Prop where
  rd : Rdr w0 wr e0 e1 e2 B t p
  box : Blk wr S (snA s vr vm)
  code : Blk wr C #[.int .i64 0]
  mem : MemO wr lo wr.heap.size (memV vr vm s.m.page s.m.screen s.m.locked) s.m
  kd : Kd [B, S, C] w wr
  ord : B < w.heap.size ∧ w.heap.size ≤ S ∧ S < C ∧ C < lo ∧ w0.heap.size ≤ S
theorem SnW.grow {w0 w wr w' : World} {e0 e1 e2 : Addr} {B S C lo p p' : Nat} {t : ByteArray} {s : Sn} {vr vm : Value} (h : SnW w0 w wr e0 e1 e2 B S C lo t p s vr vm) (r : Rdr w0 w' e0 e1 e2 B t p') (k : Kd [B] wr w') : SnW w0 w w' e0 e1 e2 B S C lo t p' s vr vm := by
  obtain ⟨o1, o2, o3, o4, o5⟩ := h.ord
  exact ⟨r, k.blk h.box (by simp; omega), k.blk h.code (by simp; omega), (h.mem.kept (fun b hb1 hb2 => k.block b hb2 (by simp; omega))).mono (Nat.le_refl _) k.size, h.kd.trans (k.mono (by simp)), h.ord⟩
theorem SnW.below {w0 w wr w' : World} {e0 e1 e2 : Addr} {B S C lo p : Nat} {t : ByteArray} {s : Sn} {vr vm : Value} (h : SnW w0 w wr e0 e1 e2 B S C lo t p s vr vm) (hb : Below wr.heap.size wr w') : SnW w0 w w' e0 e1 e2 B S C lo t p s vr vm := h.grow (h.rd.below hb) (Kd.of_below hb)
/-- a bank is laid in -/
theorem SnW.bank {w0 w wr : World} {e0 e1 e2 : Addr} {B S C lo p k g : Nat} {t rom : ByteArray} {Bs : List (List Int)} {vr vm u : Value} {L : List Int} {w' : World} {p' : Nat} (h : SnW w0 w wr e0 e1 e2 B S C lo t p (bkS rom t Bs k) vr vm) (hk : k < 4) (hB : Bs.length = k) (hg : wr.heap.size ≤ g) (hr : RowO w' g u L) (r : Rdr w0 w' e0 e1 e2 B t p') (kd : Kd [B] wr w') :
    ∃ s c x, vm = .slice (some ⟨s, 0, none⟩) 4 c ∧ w'.cell? ⟨s, k, none⟩ = some x ∧ w'.frozen? ⟨s, k, none⟩ = false ∧ s < w'.heap.size ∧ SnW w0 w (w'.setCell ⟨s, k, none⟩ u) e0 e1 e2 B S C lo t p' (bkS rom t (Bs ++ [L]) (k + 1)) vr vm := by
  have hl := bkS_len (rom := rom) (t := t) hB (by omega)
  obtain ⟨o1, o2, o3, o4, o5⟩ := h.ord
  have hg2 := h.grow r kd
  obtain ⟨s, c, x, e1', e2', e3, e4, e5, e6⟩ := memO_row (W' := w') h.mem (by rw [hl]; exact hk) hr hg (fun b hb1 hb2 => kd.block b hb2 (by simp; omega))
  rw [hl] at e1'
  have hwl := h.kd.size
  have kds : Kd [B, S, C] w (w'.setCell ⟨s, k, none⟩ u) := hg2.kd.setNew (by omega) k u
  have hM : ({ (bkS rom t Bs k).m with ram := (bkS rom t Bs k).m.ram.set k L } : Mem) = (bkS rom t (Bs ++ [L]) (k + 1)).m := by
    rw [bkS_next hB hk L]
    rfl
  rw [hM] at e6
  refine ⟨s, c, x, e1', e2', e3, e5, ⟨?_, hg2.box.other (by simp; omega) u, hg2.code.other (by simp; omega) u, ?_, kds, h.ord⟩⟩
  · exact r.kd (xs := [s]) ((Kd.refl _ _).set (by simp) k u) (by simp; omega) (by simp; omega)
  · rw [sizeSet]
    exact e6
theorem memO_vm {W : World} {lo hi : Nat} {vr vm : Value} {pg sc : Int} {l : Bool} {M : Mem} (h : MemO W lo hi (memV vr vm pg sc l) M) (h4 : M.ram.length = 4) : ∃ s c, vm = .slice (some ⟨s, 0, none⟩) 4 c := by
  rcases h with ⟨_, _, e2⟩ | ⟨vr', vm', r, s, G, e, h1, ⟨cap, c, t, V, hv, _⟩, _⟩
  · rw [e2] at h4
    cases h4
  · simp only [memV, Value.agg.injEq, Array.mk.injEq, List.cons.injEq, and_true, true_and] at e
    obtain ⟨rfl, rfl, _⟩ := e
    exact ⟨s, cap, by rw [hv, h4]⟩
set_option maxRecDepth 100000 in
set_option maxHeartbeats 4000000 in
theorem snap_impl {w0 w : World} {e0 e1 e2 : Addr} {B : Nat} {t rom : ByteArray} (h : Rdr w0 w e0 e1 e2 B t 0) (hr : rom.size = 64) :
    Calls Tryz.prog 19 #[.pointer (some ⟨B, 0, none⟩), .string rom] w (RdQ w B (rdS (romL rom) (bts t))) := by
  have hmf : ∀ (fn : Fn) (first cap : Array Value) (w : World), (Instr.makeFunc fn first cap).run Tryz.prog w = .ok (.func fn first cap) w := fun _ _ _ _ => rfl
  have hM := hid (fun p W => memory_good p rom W hr)
  have hB0 := (Below.refl w.heap.size w).alloc (Nat.le_refl _) (.cells zS 33)
  have hB1 := hB0.alloc hB0.size (.cells #[.int .i64 0] 3)
  have k0 : Hid (Kd [B, w.heap.size, w.heap.size + 1] w ((w.alloc (.cells zS 33)).alloc (.cells #[.int .i64 0] 3))) := ((Kd.refl _ _).alloc _).alloc _
  have qS : Hid (Blk ((w.alloc (.cells zS 33)).alloc (.cells #[.int .i64 0] 3)) w.heap.size zS) := (Blk.new w zS _).alloc _
  have qC : Hid (Blk ((w.alloc (.cells zS 33)).alloc (.cells #[.int .i64 0] 3)) (w.heap.size + 1) #[.int .i64 0]) := by
    have := Blk.new (w.alloc (.cells zS 33)) #[.int .i64 0] 3
    rw [World.size_alloc] at this
    exact this
  have hr0 := hid (h.below hB1)
  have hBw : Hid (B < w.heap.size ∧ w0.heap.size ≤ w.heap.size) := ⟨h.blk.lt, h.bel.size⟩
  have hnm : Hid ((newM rom).page = 0 ∧ (newM rom).screen = 1 ∧ (newM rom).locked = false) := by unfold newM Hid; rw [if_pos hr]; exact ⟨rfl, rfl, rfl⟩
  have hst := hid (bkS_start rom t hr)
  have hall := hid (fun Bs p h15 hc hB hp => rd_all (B := Bs) (p := p) (t := t) h15 hr hc hB hp)
  replace hr := hid hr
  clear h hB0 hB1
  go_enter_defers Tryz.func19, Tryz.ntmps19
  go_upto_region 1 with fail
  obtain ⟨V, hV⟩ : ∃ V, (w.alloc (.cells zS 33)).alloc (.cells #[.int .i64 0] 3) = V := ⟨_, rfl⟩
  have hVs : Hid (V.heap.size = w.heap.size + 2) := by unfold Hid; rw [← hV]; simp
  rw [hV] at k0 qS qC hr0 ⊢
  clear hV
  go_wp2_with fail
  refine (hM.out _ _).mono ?_
  rintro e w1 ⟨vr, vm, rfl, hm, hb⟩
  obtain ⟨o1, o2⟩ := memO_form2 hm
  have hr1 := hid (hr0.out.below hb)
  have qS1 := hid (qS.out.below hb qS.out.lt)
  have qC1 := hid (qC.out.below hb qC.out.lt)
  have k1 : Hid (Kd [B, w.heap.size, w.heap.size + 1] w w1) := k0.out.trans (Kd.of_below hb)
  have hth := hid (blk_there qS1.out (o := 14) (n := (mC vr vm ⟨[], [], 0, 1, false⟩).size) (by show 14 + 5 ≤ 31; omega))
  have hon := hid (mC_oneN ⟨[], [], 0, 1, false⟩ o1 o2)
  obtain ⟨wF, hwF⟩ : ∃ X, w1.setCells w.heap.size 14 (mC vr vm ⟨[], [], 0, 1, false⟩).toList = X := ⟨_, rfl⟩
  have qF : Hid (Blk wF w.heap.size (snA { sn0 with m := newM rom } vr vm)) := by
    rw [← hwF]
    have := layE_blk w.heap.size (mC vr vm ⟨[], [], 0, 1, false⟩).toList w1 14 _ qS1.out
    rw [zS_eq, sn_lay1] at this
    obtain ⟨n1, n2, n3⟩ := hnm.out
    have e : snA { sn0 with m := ⟨[], [], 0, 1, false⟩ } vr vm = snA { sn0 with m := newM rom } vr vm := by
      simp only [snA, n1, n2, n3]
    rw [← e]
    exact this
  have qC2 : Hid (Blk wF (w.heap.size + 1) #[.int .i64 0]) := by rw [← hwF]; exact layE_other (by omega) _ _ _ qC1.out
  have k2 : Hid (Kd [B, w.heap.size, w.heap.size + 1] w wF) := by rw [← hwF]; exact Kd.cells (by simp) _ _ _ k1.out
  have hr2 : Hid (Rdr w0 wF e0 e1 e2 B t 0) := by
    have k : Kd [w.heap.size] w1 wF := by rw [← hwF]; exact Kd.cells (by simp) _ _ _ (Kd.refl _ _)
    have := hBw.out
    exact hr1.out.kd k (by simp; omega) (by simp; omega)
  have hmF : Hid (MemO wF (w.heap.size + 2) wF.heap.size (memV vr vm 0 1 false) (newM rom)) := by
    have hs : wF.heap.size = w1.heap.size := by rw [← hwF, size_cells]
    have hv := hVs.out
    rw [hs, ← hv]
    exact hm.kept (fun b hb1 hb2 => by rw [← hwF]; exact layE_heap _ _ _ _ (by omega))
  replace hwF := hid hwF
  clear hm hb hM hr0 qS qC k0 hr1 qS1 qC1 k1 o1 o2 hVs
  go_upto_region 3 with (guard_target = wpList _ _ _ (Oper.mk _ (Op.store 29 _ _) _ _ _ _ :: _) _ _; refine wpList_store_mid rfl 29 _ _ rfl w.heap.size 14 (mC vr vm ⟨[], [], 0, 1, false⟩) rfl rfl hth.out (szM2 _ _ _) hon.out ?_; rw [hwF.out])
  by_cases h15 : t.size < 15
  · have hH := hid (head_short hr2.out (.pointer (some ⟨w.heap.size, 0, none⟩)) h15)
    rw [rd_short _ h15]
    go_wp2_with fail
    refine hH.out.mono ?_
    rintro e w4 ⟨rfl, hb⟩
    refine snap_stop _ rfl rfl (qF.out.below hb qF.out.lt) rfl (qC2.out.below hb qC2.out.lt) (by omega) (fun w' k => ?_)
    exact RdQ.none (k2.out.trans (Kd.of_below hb)) (Nat.le_refl _) (by omega) k
  have hH := hid (rhead_impl (s := { sn0 with m := newM rom }) (vr := vr) (vm := vm) (RdS.start hr2.out (by have := hBw.out; omega) hBw.out.2 qF.out) hnm.out.2.1 (by omega))
  have h15' : Hid (15 ≤ t.size) := by unfold Hid; omega
  have hRh := hid (rd_head (romL rom) h15'.out)
  go_wp2_with fail
  refine hH.out.mono ?_
  rintro e w4 (⟨rfl, hc, hR⟩ | ⟨rfl, hc, hP⟩)
  · have hW0 : Hid (SnW w0 w w4 e0 e1 e2 B w.heap.size (w.heap.size + 1) (w.heap.size + 2) t 15 (bkS rom t [] 0) vr vm) := by
      have := hBw.out
      rw [hst.out]
      refine ⟨hR.rd, hR.box, hR.kd.blk qC2.out (by simp; omega), ?_, k2.out.trans (hR.kd.mono (by simp)), ⟨this.1, Nat.le_refl _, by omega, by omega, this.2⟩⟩
      obtain ⟨n1, n2, n3⟩ := hnm.out
      have hm4 := (hmF.out.kept (w' := w4) (fun b hb1 hb2 => hR.kd.block b hb2 (by simp; omega))).mono (Nat.le_refl _) hR.kd.size
      rw [← n1, ← n2, ← n3] at hm4
      exact hm4.fields
    have hBk0 := hid (Bk.start t)
    replace hc := hid hc
    have hmo := hid (fun Bs p hB hp => rd_more (rom := rom) (B := Bs) (p := p) h15'.out hc.out hB hp)
    obtain ⟨s0, c0, rfl⟩ := memO_vm hW0.out.mem (bkS_len rfl (by omega))
    have x15 : w4.cell? ⟨w.heap.size, 15, none⟩ = some (.slice (some ⟨s0, 0, none⟩) 4 c0) := hW0.out.box.cell 15
    clear hR hH hth hon hwF qF qC2 k2 hr2 hmF hst h15
    go_wp2_with fail
    go_loopw [18] (fun iv wr => ∃ (k p : Nat) (Bs : List (List Int)), k ≤ 4 ∧ iv = .int .i64 (k : Int) ∧ SnW w0 w wr e0 e1 e2 B w.heap.size (w.heap.size + 1) (w.heap.size + 2) t p (bkS rom t Bs k) vr (.slice (some ⟨s0, 0, none⟩) 4 c0) ∧ Bk t k p Bs) (fun iv _ => 4 - (intOf iv).toNat)
    case atStart => exact ⟨0, 15, [], by omega, rfl, hW0.out, hBk0.out⟩
    case round =>
      obtain ⟨k, p, Bs, hk, rfl, hS, hBk⟩ := hrel
      clear hW0 hBk0 x15
      by_cases hlt : k < 4
      · by_cases hcb : bkC t p = 0
        · obtain ⟨hBk2, hL64, hple⟩ := hBk.went hlt hcb
          have hSd := hid (hS.below (Below.refl wr.heap.size wr).drew)
          have hBl := hBk.len
          have hG : Hid (∀ X, SnW w0 w X e0 e1 e2 B w.heap.size (w.heap.size + 1) (w.heap.size + 2) t p (bkS rom t Bs k) vr (.slice (some ⟨s0, 0, none⟩) 4 c0) → Calls Tryz.prog 44 #[.pointer (some ⟨B, 0, none⟩)] X fun e w' => ∃ g x, e = .returned (.slice (some ⟨g, 0, none⟩) 64 64) ∧ w'.cell? ⟨s0, k, none⟩ = some x ∧ w'.frozen? ⟨s0, k, none⟩ = false ∧ s0 < w'.heap.size ∧ w'.cell? ⟨w.heap.size, 15, none⟩ = some (.slice (some ⟨s0, 0, none⟩) 4 c0) ∧ SnW w0 w (w'.setCell ⟨s0, k, none⟩ (.slice (some ⟨g, 0, none⟩) 64 64)) e0 e1 e2 B w.heap.size (w.heap.size + 1) (w.heap.size + 2) t (p + 2 + bkN t p) (bkS rom t (Bs ++ [bkL t p]) (k + 1)) vr (.slice (some ⟨s0, 0, none⟩) 4 c0)) := fun X hX => (bank_good hX.rd hcb).mono (by
            rintro e w' ⟨g, rfl, hg, hrow, r, kd⟩
            obtain ⟨s, c, x, es, y1, y2, y3, y4⟩ := hX.bank hlt hBl hg hrow r kd
            simp only [Value.slice.injEq, Option.some.injEq, Addr.mk.injEq, and_true, true_and] at es
            obtain ⟨rfl, rfl⟩ := es
            exact ⟨g, x, rfl, y1, y2, y3, (hX.grow r kd).box.cell 15, y4⟩)
          have c15 : wr.cell? ⟨w.heap.size, 15, none⟩ = some (.slice (some ⟨s0, 0, none⟩) 4 c0) := hS.box.cell 15
          replace hBk2 := hid hBk2
          replace hcb := hid hcb
          replace hBl := hid hBl
          clear hBk hS hL64 hple hall hmo hRh
          go_upto_region 7 with fail
          refine wp_region_noPanic ?_
          go_region_with ((go_at_call 44; refine (hG.out _ hSd.out).mono ?_; rintro e w' ⟨g, x, rfl, y1, y2, y3, y4, h5⟩; replace h5 := hid h5))
          all_goals
            clear y1 y2 y3 y4
            go_wp2_with fail
            apply_assumption
            go_wp2
            go_roundw
            case rel => exact ⟨k + 1, p + 2 + bkN t p, Bs ++ [bkL t p], by omega, by go_num, h5.out, hBk2.out⟩
            case measure => simp [intOf]; omega
        · have hcd := hBk.stop hlt hcb
          have hRs : Hid (rdS (romL rom) (bts t) = (sn0, bkC t p)) := by
            unfold Hid
            rw [hRh.out, if_neg (fun hh => hh hc.out), if_pos (by rw [hcd]; exact hcb), hcd]
          have hN : Hid (∀ X, Below wr.heap.size wr X → Calls Tryz.prog 44 #[.pointer (some ⟨B, 0, none⟩)] X fun r w' => r = .panicked (ftV (bkC t p)) ∧ Kd [B] X w') := fun X hb => bank_bad (hS.below hb).rd hcb
          replace hS := hid hS
          replace hcb := hid hcb
          replace hBk := hid hBk
          clear hall hmo hRh hcd
          go_upto_region 7 with fail
          refine nm_reg _ wr _ B w.heap.size k c0 (some ⟨s0, 0, none⟩) (ftV (bkC t p)) (Kd [B]) rfl rfl rfl (fun X hb => (hS.out.below hb).box.cell 15) hN.out (fun a X w' hd ho hb kd => ?_) (by simp) (fun _ _ h => h.elim)
          have hX := hS.out.below hb
          have hBx := hBw.out
          have x4 := ho 4 (by decide)
          have x5 := ho 5 (by decide)
          obtain ⟨tm, df⟩ := a
          dsimp only at hd x4 x5
          subst hd
          have key : bodyPostD Tryz.prog Tryz.f19 (RdQ w B (rdS (romL rom) (bts t))) (.panic (ftV (bkC t p))) { tmps := tm, defers := [{ target := .fn (.func 40) #[.pointer (some ⟨w.heap.size, 0, none⟩), .pointer (some ⟨w.heap.size + 1, 0, none⟩)], args := #[] }] } w' := by
            rw [hRs.out]
            refine snap_stop tm x4 x5 (kd.blk hX.box (by simp; omega)) rfl (kd.blk hX.code (by simp; omega)) (by omega) (fun w2 k2 => ?_)
            exact RdQ.none (hX.kd.trans (kd.mono (by simp))) (Nat.le_refl _) (by omega) k2
          exact key
      · obtain rfl : k = 4 := by omega
        by_cases hpt : p < t.size
        · have hE := hid (end_bad hS.rd hpt)
          have hRs := hid (hmo.out Bs p hBk hpt)
          replace hS := hid hS
          clear hall hmo hRh hBk
          have hBx := hBw.out
          go_wp2_with fail
          refine hE.out.mono ?_
          rintro e w5 ⟨rfl, hb⟩
          rw [hRs.out]
          have hX := hS.out.below hb
          refine snap_stop _ rfl rfl hX.box rfl hX.code (by omega) (fun w2 k2 => ?_)
          exact RdQ.none hX.kd (Nat.le_refl _) (by omega) k2
        · have hpe : p = t.size := by have := hS.rd.pos; omega
          have hE := hid (end_good hS.rd hpe)
          have hRs := hid (hall.out Bs p h15'.out hc.out hBk hpe)
          replace hS := hid hS
          clear hall hmo hRh hBk hpe hpt
          go_wp2_with fail
          refine hE.out.mono ?_
          rintro e w5 ⟨rfl, hb⟩
          have hX := hid (hS.out.below hb)
          clear hb hE hS
          generalize hs4 : bkS rom t Bs 4 = S4 at *
          have x1 := hid (sn_all hX.out.box)
          obtain ⟨o1, o2⟩ := memO_form2 hX.out.mem
          have hth := hid (blk_there hX.out.box (o := 0) (n := (snA S4 vr (.slice (some ⟨s0, 0, none⟩) 4 c0)).size) (by show 0 + 31 ≤ 31; omega))
          have hso := hid (sn_one S4 o1 o2)
          obtain ⟨wF, hwF⟩ : ∃ X, w5.setCells w.heap.size 0 (snA S4 vr (.slice (some ⟨s0, 0, none⟩) 4 c0)).toList = X := ⟨_, rfl⟩
          have qF : Hid (Blk wF w.heap.size (snA S4 vr (.slice (some ⟨s0, 0, none⟩) 4 c0))) := by
            rw [← hwF]
            have := layE_blk w.heap.size (snA S4 vr (.slice (some ⟨s0, 0, none⟩) 4 c0)).toList _ 0 _ hX.out.box
            rw [sn_layA] at this
            exact this
          have cF : Hid (Blk wF (w.heap.size + 1) #[.int .i64 0]) := by rw [← hwF]; exact layE_other (by omega) _ _ _ hX.out.code
          have kF : Hid (Kd [B, w.heap.size, w.heap.size + 1] w wF) := by rw [← hwF]; exact Kd.cells (by simp) _ _ _ hX.out.kd
          have mF : Hid (MemO wF (w.heap.size + 2) wF.heap.size (memV vr (.slice (some ⟨s0, 0, none⟩) 4 c0) S4.m.page S4.m.screen S4.m.locked) S4.m) := by
            have hs : wF.heap.size = w5.heap.size := by rw [← hwF, size_cells]
            rw [hs]
            exact hX.out.mem.kept (fun b hb1 hb2 => by rw [← hwF]; exact layE_heap _ _ _ _ (by omega))
          replace hwF := hid hwF
          clear hX hs4
          have y0 := cF.out.cell
          have yf := cF.out.frozen
          have yl := cF.out.lt
          have cZ := hid (cF.out.set 0 (.int .i64 0))
          have qZ := hid (qF.out.other (p := ⟨w.heap.size + 1, 0, none⟩) (by simp) (.int .i64 0))
          have kZ := hid (kF.out.set (g := w.heap.size + 1) (by simp) 0 (.int .i64 0))
          have mZ : Hid (MemO (wF.setCell ⟨w.heap.size + 1, 0, none⟩ (.int .i64 0)) w.heap.size (wF.setCell ⟨w.heap.size + 1, 0, none⟩ (.int .i64 0)).heap.size (memV vr (.slice (some ⟨s0, 0, none⟩) 4 c0) S4.m.page S4.m.screen S4.m.locked) S4.m) := by
            rw [sizeSet]
            exact (mF.out.kept (fun b hb1 hb2 => Below.heap_setCell _ _ _ _ (by simp; omega))).mono (by omega) (Nat.le_refl _)
          clear qF cF kF mF
          go_wp2_with (first | (refine wpList_load_mid rfl 33 _ rfl w.heap.size 0 rfl (snA S4 vr (.slice (some ⟨s0, 0, none⟩) 4 c0)).toList _ x1.out Tryz.underlying33 rfl (szS S4 _ _) ?_) | (guard_target = wpList _ _ _ (Oper.mk _ (Op.store 33 _ _) _ _ _ _ :: _) _ _; refine wpList_store_mid rfl 33 _ _ rfl w.heap.size 0 (snA S4 vr (.slice (some ⟨s0, 0, none⟩) 4 c0)) rfl rfl hth.out (szS2 _ _ _) hso.out ?_; rw [hwF.out]))
          rw [hRs.out]
          refine snap_done _ rfl rfl qZ.out cZ.out ?_
          exact ⟨vr, _, rfl, mZ.out, (Kd.refl [B] w).since kZ.out (by intro x hx; simp at hx; rcases hx with rfl | rfl | rfl; left; simp; right; omega; right; omega)⟩
  · have hRs : Hid (rdS (romL rom) (bts t) = (sn0, hdC t)) := by
      unfold Hid
      rw [hRh.out, if_pos hc]
    have hBx := hBw.out
    rw [hRs.out]
    obtain ⟨A, hA, hAs⟩ := hP.box
    refine snap_stop _ rfl rfl hA hAs (hP.kd.blk qC2.out (by simp; omega)) (by omega) (fun w2 k3 => ?_)
    exact RdQ.none (k2.out.trans (hP.kd.mono (by simp))) (Nat.le_refl _) (by omega) k3
end Go.Proofs.YtghcagibdcblnaaGreatDoor
