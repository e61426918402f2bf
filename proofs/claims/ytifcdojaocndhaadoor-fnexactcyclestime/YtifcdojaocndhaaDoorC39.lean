/- How long a cycle is: what the specification and the program answer. -/
import Derived.Test.YtifcdojaocndhaaDoorC00
import Derived.Test.YtifcdojaocndhaaDoorC03
import Derived.LaidMore
import Derived.OpenShut
import Derived.Stop.Joined
import Derived.Test.YtifcdojaocndhaaDoorWfac
import Derived.Test.YtifcdojaocndhaaDoorC34
import Derived.Test.YtifcdojaocndhaaDoorC31
import Derived.Test.YtifcdojaocndhaaDoorC32
import Derived.Test.YtifcdojaocndhaaDoorC30
namespace Go.Proofs.YtifcdojaocndhaaDoor
open Go.ChangeShapes Go.WideShapes Go.ChangeAt Go.RowKit
set_option linter.unusedVariables false
set_option linter.unusedSimpArgs false

theorem hidK {p : Prop} (h : p) : Hid p := h
def lenI (k : Int) : Int := if k = 1 ∨ k = 4 ∨ k = 5 then 4 else 3
def lenK2 (k : Int) : Value := if inB k 1 5 = true then .tuple #[.int .i64 (lenI k), .int .i64 0] else .tuple #[.int .i64 0, .int .i64 4]
theorem fiveK_of {k : Int} (h : inB k 1 5 = true) : k = 1 ∨ k = 2 ∨ k = 3 ∨ k = 4 ∨ k = 5 := by
  simp [inB] at h
  omega
def tmI (k : Nat) : Int := if k = 0 then 0 else lenI k
/-- the program's table of lengths, in its block -/
def Times (w : World) : Prop := ∀ k, k < 6 → w.cell? ⟨1, k, none⟩ = some (.int .i64 (tmI k))
theorem Times.below {w w' : World} (h : Times w) (hb : Below w.heap.size w w') : Times w' := fun k hk => by
  rw [hb.cell (p := ⟨1, k, none⟩) (World.block_lt_of_cell? w _ (h k hk))]
  exact h k hk
end Go.Proofs.YtifcdojaocndhaaDoor

/- How long cycles take from where a machine stands: the program. -/
namespace Go.Proofs.YtifcdojaocndhaaDoor
open Go.ChangeShapes Go.WideShapes Go.ChangeAt Go.RowKit
set_option linter.unusedVariables false
set_option linter.unusedSimpArgs false

set_option maxRecDepth 100000 in
set_option maxHeartbeats 4000000 in
theorem arec_impl (u : Value) (l : List Evt) (w : World) (h : EvR w u l) (hl : l.length ≤ 1048576) : Calls Tryd.prog 63 #[u] w fun r w' => r = .returned (.bool (cysB l)) ∧ Below w.heap.size w w' := by
  obtain ⟨a, c, rfl, _⟩ := id h
  have hno := hid (fun i hi h => show cysB l = false from by unfold cysB; rw [cysA_no (l := l) (i := i) hi h]; rfl)
  by_cases hlen : l.length ≤ 20
  rotate_left
  · have e : cysB l = false := by unfold cysB; rw [decide_eq_false hlen, Bool.and_false]
    rw [e]
    have t1 : (20 : Int) < (l.length : Int) := by omega
    clear h hno e hlen
    go_enter Tryd.func63, Tryd.ntmps63
    go_wp2
    go_ret
    exact ⟨rfl, Below.refl _ _⟩
  have hyes : Hid ((∀ i, i < l.length → cyOk (l.getD i e0) = true) → cysB l = true) := fun h => by
    unfold cysB
    rw [(cysA_iff l).2 h, Bool.true_and, decide_eq_true hlen]
  generalize cysB l = Q at *
  have t1 : ¬ (20 : Int) < (l.length : Int) := by omega
  replace h := hid h
  go_enter Tryd.func63, Tryd.ntmps63
  go_upto_region 3 with fail
  go_wp2
  go_loopw [10] (fun i wr => ∃ k : Nat, k ≤ l.length ∧ i = .int .i64 k ∧ (∀ j, j < k → cyOk (l.getD j e0) = true) ∧ Below w.heap.size w wr) (fun i _ => l.length - (intOf i).toNat)
  case atStart => exact ⟨0, by omega, rfl, fun j hj => by omega, Below.refl _ _⟩
  case round =>
    obtain ⟨k, hk, rfl, hj, hBr⟩ := hrel
    by_cases hlt : k < l.length
    · have he := h.out.below hBr
      obtain ⟨g, o, rfl, y0, y1, y2⟩ := he.at hlt
      obtain ⟨t1, t2, t3, hE⟩ : ∃ b1 b2 b3, l.getD k e0 = ⟨b1, b2, b3⟩ := ⟨(l.getD k e0).t, (l.getD k e0).k, (l.getD k e0).v, rfl⟩
      rw [hE] at y0 y1 y2
      simp only [] at y0 y1 y2
      have z0 := World.block_lt_of_cell? wr _ y0
      have hsn := hid (fun h => hno.out k hlt h)
      have hjn : Hid (cyOk ⟨t1, t2, t3⟩ = true → ∀ j, j < k + 1 → cyOk (l.getD j e0) = true) := fun h j hj1 => by
        rcases Nat.lt_or_ge j k with h1 | h1
        · exact hj j h1
        · have : j = k := by omega
          rw [this, hE]; exact h
      rw [hE] at hsn
      have hV1 := hid (new_trans hBr ((Below.refl wr.heap.size wr).alloc (Nat.le_refl _) (.cells #[.int .i64 t1, .int .i64 t2, .int .i64 t3] 108)))
      clear hE hj hno hyes hBr he
      cases k1 : inB t1 1 5
      · have hfin := hid (hsn.out (by unfold cyOk; rw [k1]; rfl))
        clear hsn hjn
        go_wp2_with (go_at_call 114; refine (wi_impl _ _ _ _).mono ?_; rintro r w2 ⟨rfl, rfl⟩; rw [k1])
        go_ret
        exact ⟨ret_bool hfin.out.symm, hV1.out⟩
      cases k2 : (inB t2 0 255 && inB t3 0 255)
      · have hfin := hid (hsn.out (by unfold cyOk; rw [k1, Bool.true_and]; exact k2))
        clear hsn hjn
        go_wp2_with (first | (go_at_call 114; refine (wi_impl _ _ _ _).mono ?_; rintro r w2 ⟨rfl, rfl⟩; rw [k1]) | (go_at_call 116; refine (aresC_impl _ _ _).mono ?_; rintro r w2 ⟨rfl, rfl⟩; rw [k2]))
        go_ret
        exact ⟨ret_bool hfin.out.symm, hV1.out⟩
      · have hfin := hid (hjn.out (by unfold cyOk; rw [k1, Bool.true_and]; exact k2))
        clear hsn hjn
        go_wp2_with (first | (go_at_call 114; refine (wi_impl _ _ _ _).mono ?_; rintro r w2 ⟨rfl, rfl⟩; rw [k1]) | (go_at_call 116; refine (aresC_impl _ _ _).mono ?_; rintro r w2 ⟨rfl, rfl⟩; rw [k2]))
        go_roundw
        case rel => exact ⟨k + 1, by omega, by go_num, hfin.out, hV1.out⟩
        case measure => simp [intOf]; omega
    · obtain rfl : k = l.length := by omega
      have hfin := hid (hyes.out hj)
      replace hBr := hid hBr
      clear hno hyes hj
      go_wp2
      go_ret
      exact ⟨ret_bool hfin.out.symm, hBr.out⟩
theorem must_mem {pg kk a : Int} (h : kk = 1 ∨ kk = 2 ∨ kk = 3) : mustW pg kk a = decide (bankI pg a = 1 ∨ bankI pg a = 3) := by
  unfold mustW
  rw [if_neg (by omega)]
theorem must_port {pg kk a : Int} (h : kk = 4 ∨ kk = 5) : mustW pg kk a = decide (a % 2 = 0) := by
  unfold mustW
  rw [if_pos h]
set_option maxRecDepth 100000 in
set_option maxHeartbeats 4000000 in
theorem mask_impl {p : Nat → Bool} (x : Mc) (v : Value) (kk a b : Int) (w : World) (h : MacR p w v x) (hk : kk = 1 ∨ kk = 2 ∨ kk = 3 ∨ kk = 4 ∨ kk = 5) (a0 : 0 ≤ a) (a1 : a ≤ 255) : Calls Tryd.prog 117 #[v, evV ⟨kk, a, b⟩] w fun r w' => r = .returned (.bool (mustW x.m.page kk a)) ∧ Below w.heap.size w w' := by
  obtain ⟨vr, vm, vd, ve, rfl, hm, hd, he⟩ := h
  obtain ⟨b1, p1, b2, p2, e, _, _⟩ := hm.form
  simp only [memV, Value.agg.injEq, Array.mk.injEq, List.cons.injEq] at e
  obtain ⟨rfl, rfl, _⟩ := e
  clear hm hd he
  have hs := hid (fun W => bank_impl b1 b2 x.m.rom.length p1 x.m.ram.length p2 x.m.page x.m.screen x.m.locked a W a0 a1)
  have q := Blk.new w (mcA x (.slice b1 x.m.rom.length p1) (.slice b2 x.m.ram.length p2) vd ve) 41
  have q2 := Blk.new (w.alloc (.cells (mcA x (.slice b1 x.m.rom.length p1) (.slice b2 x.m.ram.length p2) vd ve) 41)) #[.int .i64 kk, .int .i64 a, .int .i64 b] 108
  rw [World.size_alloc] at q2
  have hB := hid (((Below.refl w.heap.size w).alloc (Nat.le_refl _) (.cells (mcA x (.slice b1 x.m.rom.length p1) (.slice b2 x.m.ram.length p2) vd ve) 41)).alloc (by simp) (.cells #[.int .i64 kk, .int .i64 a, .int .i64 b] 108))
  replace q := q.alloc (.cells #[.int .i64 kk, .int .i64 a, .int .i64 b] 108)
  have hZ1 := hid (fun h => must_mem (pg := x.m.page) (kk := kk) (a := a) h)
  have hZ2 := hid (fun h => must_port (pg := x.m.page) (kk := kk) (a := a) h)
  generalize mustW x.m.page kk a = Z at *
  go_enter Tryd.func117, Tryd.ntmps117
  go_upto_region 1 with fail
  obtain ⟨V, hV⟩ : ∃ V, (w.alloc (Obj.cells (mcA x (.slice b1 x.m.rom.length p1) (.slice b2 x.m.ram.length p2) vd ve) 41)).alloc (Obj.cells #[.int .i64 kk, .int .i64 a, .int .i64 b] 108) = V := ⟨_, rfl⟩
  rw [hV] at q q2 hB ⊢
  clear hV
  have x1 := hid (mc_mem q)
  have y0 : _ = some (Value.int .i64 kk) := q2.cell 0
  have y1 : _ = some (Value.int .i64 a) := q2.cell 1
  clear q q2
  rcases (show (kk = 1 ∨ kk = 2 ∨ kk = 3) ∨ (kk = 4 ∨ kk = 5) by omega) with hk | hk
  · have hZ := hid (hZ1.out hk)
    clear hZ1 hZ2
    generalize bankI x.m.page a = k0 at *
    rcases hk with rfl | rfl | rfl
    all_goals
      go_wp2_with (refine wpList_load_mid rfl 30 _ rfl w.heap.size 14 rfl (mcC (.slice b1 x.m.rom.length p1) (.slice b2 x.m.ram.length p2) x.m) _ x1.out Tryd.underlying30 rfl (szMe _ _ _) ?_)
      refine (hs.out _).mono ?_
      rintro r w1 ⟨rfl, hb⟩
      have hb := hid hb
      go_wp2_with fail
      refine (screen_impl _ _).mono ?_
      rintro r w2 ⟨rfl, rfl⟩
      go_wp2_with fail
      go_ret
      exact ⟨ret_bool (by rw [hZ.out, Bool.decide_or]), new_trans hB.out hb.out⟩
  · have hZ := hZ2.out hk
    clear hZ1 hZ2
    rcases (show a % 2 = 0 ∨ a % 2 = 1 by omega) with ha | ha
    · rw [decide_eq_true ha] at hZ
      replace hZ := hid hZ
      rcases hk with rfl | rfl
      all_goals
        go_wp2_with fail
        go_ret
        exact ⟨ret_bool hZ.out.symm, hB.out⟩
    · rw [decide_eq_false (by omega)] at hZ
      replace hZ := hid hZ
      rcases hk with rfl | rfl
      all_goals
        go_wp2_with fail
        go_ret
        exact ⟨ret_bool hZ.out.symm, hB.out⟩
theorem wtC_t {pg kk a t : Int} (h : mustW pg kk a = true) : wtC pg kk a t = waitI (t % 640) := by unfold wtC; rw [if_pos h]
theorem wtC_f {pg kk a t : Int} (h : mustW pg kk a = false) : wtC pg kk a t = 0 := by unfold wtC; rw [if_neg (by rw [h]; decide)]
theorem times_at {W : World} (h : Times W) {kk : Int} (hk : kk = 1 ∨ kk = 2 ∨ kk = 3 ∨ kk = 4 ∨ kk = 5) : ∃ n : Nat, kk = (n : Int) ∧ n < 6 ∧ W.cell? ⟨1, n, none⟩ = some (.int .i64 (lnC kk)) := by
  rcases hk with rfl | rfl | rfl | rfl | rfl
  · exact ⟨1, rfl, by decide, h 1 (by decide)⟩
  · exact ⟨2, rfl, by decide, h 2 (by decide)⟩
  · exact ⟨3, rfl, by decide, h 3 (by decide)⟩
  · exact ⟨4, rfl, by decide, h 4 (by decide)⟩
  · exact ⟨5, rfl, by decide, h 5 (by decide)⟩
set_option maxRecDepth 100000 in
set_option maxHeartbeats 4000000 in
theorem timeof_impl {p : Nat → Bool} (x : Mc) (v u : Value) (l : List Evt) (w : World) (h : MacR p w v x) (hu : EvR w u l) (hc : cysA l = true) (hl : l.length ≤ 4096) (t0 : 0 ≤ x.t) (t1 : x.t ≤ 1000) (hP : Pat w) (hT : Times w) : Calls Tryd.prog 64 #[v, u] w fun r w' => r = .returned (.int .i64 (x.time (tri l))) ∧ Below w.heap.size w w' := by
  obtain ⟨vr, vm, vd, ve, rfl, hm, hd, he⟩ := h
  have hL := hid (MLk.start hm (RowR.mono hd (veil_le w p)) he.unveil 41)
  have hu2 := hid (fun W (hb : Below w.heap.size w W) => hu.below hb)
  obtain ⟨a, c, rfl, _⟩ := id hu
  have hT0 := hid (atT_zero x.m.page l x.t)
  have hTn := hid (show x.time (tri l) = atT x.m.page l x.t l.length - x.t from by unfold Mc.time; rw [atT_all])
  have hTs := hid (fun k hk => atT_succ x.m.page (l := l) x.t (k := k) hk)
  have hTb := hid (fun k hk => atT_bd x.m.page l x.t k hk)
  have hca := hid ((cysA_iff l).1 hc)
  have hPs := hid (fun W (hb : Below w.heap.size w W) => pat_below hP hb)
  have hTm := hid (fun W (hb : Below w.heap.size w W) => Times.below hT hb)
  generalize x.time (tri l) = Z at *
  clear hm hd he hc hu hP hT
  go_enter Tryd.func64, Tryd.ntmps64
  go_upto_region 1 with fail
  obtain ⟨V, hV⟩ : ∃ V, w.alloc (Obj.cells (mcA x vr vm vd ve) 41) = V := ⟨_, rfl⟩
  rw [hV] at hL ⊢
  clear hV
  go_wp2_with fail
  go_loopw [5, 10] (fun s i wr => ∃ k : Nat, k ≤ l.length ∧ s = .int .i64 (atT x.m.page l x.t k - x.t) ∧ i = .int .i64 k ∧ MLk w wr x vr vm vd ve) (fun _ i _ => l.length - (intOf i).toNat)
  case atStart => exact ⟨0, by omega, by rw [hT0.out, Int.sub_self], rfl, hL.out⟩
  case round =>
    obtain ⟨k, hk, rfl, rfl, hL⟩ := hrel
    have hbd := hTb.out k hk
    by_cases hlt : k < l.length
    · have hs := hid (hTs.out k hlt)
      obtain ⟨k1, k2, k3⟩ := (cyOk_iff _).1 (hca.out k hlt)
      obtain ⟨b1, b2, b3, hE⟩ : ∃ b1 b2 b3, l.getD k e0 = ⟨b1, b2, b3⟩ := ⟨(l.getD k e0).t, (l.getD k e0).k, (l.getD k e0).v, rfl⟩
      obtain ⟨g, o, rfl, y0, y1, y2⟩ := (hu2.out _ hL.bel).at hlt
      have z0 := World.block_lt_of_cell? wr _ y0
      rw [hE] at hs k1 k2 k3 y0 y1 y2
      simp only [] at hs k1 k2 k3 y0 y1 y2
      obtain ⟨tm, htm⟩ : ∃ tm, atT x.m.page l x.t k - x.t = tm := ⟨_, rfl⟩
      obtain ⟨s, hse⟩ : ∃ s, atT x.m.page l x.t k = s := ⟨_, rfl⟩
      rw [hse] at hs hbd htm
      rw [hse, htm]
      have hM := hid (fun W (hq : MLk w W x vr vm vd ve) => mask_impl x (mcV x vr vm vd ve) b1 b2 b3 W hq.mac k1 k2.1 k2.2)
      have w1 := wtC_bd x.m.page b1 b2 s
      have w2 := lnC_bd b1
      have hwt := hid (fun h => wtC_t (pg := x.m.page) (kk := b1) (a := b2) (t := s) h)
      have hwf := hid (fun h => wtC_f (pg := x.m.page) (kk := b1) (a := b2) (t := s) h)
      have hW1 := hid (fun W (hb : Below w.heap.size w W) => times_at (hTm.out W hb) k1)
      generalize wtC x.m.page b1 b2 s = z1 at *
      generalize lnC b1 = z2 at *
      have hX := Blk.new wr #[.int .i64 b1, .int .i64 b2, .int .i64 b3] 108
      have hVw := (Below.refl wr.heap.size wr).alloc (Nat.le_refl _) (.cells #[.int .i64 b1, .int .i64 b2, .int .i64 b3] 108)
      have hL1 := hid (hL.below hVw)
      clear hca hTb hTs hE k2 k3 hVw hL hse
      go_upto_region 5 with fail
      obtain ⟨X, hXe⟩ : ∃ X, wr.heap.size = X := ⟨_, rfl⟩
      obtain ⟨V1, hV⟩ : ∃ V1, wr.alloc (.cells #[.int .i64 b1, .int .i64 b2, .int .i64 b3] 108) = V1 := ⟨_, rfl⟩
      rw [hV] at hX hL1 ⊢
      rw [hXe] at hX ⊢
      replace hX := hid hX
      clear hV hXe y0 y1 y2 z0
      have x1 := hid (mc_all hL1.out.q)
      have c0 : _ = some (Value.int .i64 b1) := hX.out.cell 0
      have c1 : _ = some (Value.int .i64 b2) := hX.out.cell 1
      have c2 : _ = some (Value.int .i64 b3) := hX.out.cell 2
      have hone : s - x.t = tm := htm
      have y1a : 0 ≤ x.t + tm := by omega
      have yb : (x.t + tm) % 640 = s % 640 := by congr 1; omega
      have o1a : -9223372036854775808 ≤ tm + z1 := by omega
      have o1b : tm + z1 ≤ 9223372036854775807 := by omega
      have o2a : -9223372036854775808 ≤ tm + z1 + z2 := by omega
      have o2b : tm + z1 + z2 ≤ 9223372036854775807 := by omega
      have o3a : -9223372036854775808 ≤ x.t + tm := by omega
      have o3b : x.t + tm ≤ 9223372036854775807 := by omega
      replace hs := hid (show tm + z1 + z2 = atT x.m.page l x.t (k + 1) - x.t by rw [hs.out]; omega)
      replace htm := hid htm
      replace w1 := hid w1
      replace w2 := hid w2
      clear hone
      go_wp2_with (first | (refine wpList_load_mid rfl 41 _ rfl w.heap.size 0 rfl (mcA x vr vm vd ve).toList _ x1.out Tryd.underlying41 rfl (szMc _ _ _ _ _) ?_) | (refine wpList_load_mid rfl 108 _ rfl X 0 rfl [.int .i64 b1, .int .i64 b2, .int .i64 b3] _ (rng_of hX.out [] _ [] rfl) Tryd.underlying108 rfl rfl ?_))
      refine (hM.out _ hL1.out).mono ?_
      rintro r w3 ⟨rfl, hb⟩
      have hL3 := hid (hL1.out.below hb)
      have hX3 := hid (hX.out.below hb hX.out.lt)
      have c0 : _ = some (Value.int .i64 b1) := hX3.out.cell 0
      have x3 : _ = some (Value.int .i64 x.t) := hL3.out.q.cell 53
      obtain ⟨n, rfl, hn6, hn⟩ := hW1.out _ hL3.out.bel
      clear hb hX hL1 x1 hM hW1
      cases hmu : mustW x.m.page (n : Int) b2
      · have hz := hwf.out hmu
        clear hwt hwf
        subst hz
        rw [Int.add_zero] at hs o2a o2b
        go_wp2_with fail
        go_roundw
        case rel => exact ⟨k + 1, by omega, congrArg (Value.int .i64) hs.out, by go_num, hL3.out⟩
        case measure => simp [intOf]; omega
      · have hz := hwt.out hmu
        have hwo := hid (fun W (hb : Below w.heap.size w W) => waitof_impl (s % 640) W (by omega) (by omega) (hPs.out W hb))
        rw [← hz] at hwo
        clear hwt hwf hz
        go_wp2_with fail
        refine (hwo.out _ hL3.out.bel).mono ?_
        rintro r w4 ⟨rfl, rfl⟩
        go_wp2_with fail
        go_roundw
        case rel => exact ⟨k + 1, by omega, congrArg (Value.int .i64) hs.out, by go_num, hL3.out⟩
        case measure => simp [intOf]; omega
    · obtain rfl : k = l.length := by omega
      generalize atT x.m.page l x.t l.length = s at *
      replace hL := hid hL
      go_wp2
      go_ret
      exact ⟨ret_intM hTn.out.symm, hL.out.bel⟩
set_option maxRecDepth 100000 in
set_option maxHeartbeats 4000000 in
theorem cyt_impl {p : Nat → Bool} (x : Mc) (v u : Value) (l : List Evt) (w : World) (h : MacR p w v x) (hf : FitMc x) (hu : EvR w u l) (hl : l.length ≤ 1048576) (hB : PBit w) (hP : Pat w) (hT : Times w) : Calls Tryd.prog 21 #[v, u] w fun r w' => r = .returned (.tuple #[.int .i64 (cyt2 x l).1, .int .i64 (cyt2 x l).2]) ∧ Below w.heap.size w w' := by
  obtain ⟨vr, vm, vd, ve, rfl, hm, hd, he⟩ := h
  have hL := hid (MLk.start hm (RowR.mono hd (veil_le w p)) he.unveil 41)
  have hu2 := hid (fun W (hb : Below w.heap.size w W) => hu.below hb)
  have hO := hid (fun W (hq : MLk w W x vr vm vd ve) => isrightM_impl (p := fun _ => false) x (mcV x vr vm vd ve) W hq.mac hf (PBit.below hB hq.bel))
  obtain ⟨a, c, rfl, _⟩ := id hu
  have hC := hid (fun W hb => arec_impl _ l W (hu2.out W hb) hl)
  have hT := hid (fun (h1 : okMc x = true) (h2 : cysA l = true) (h3 : l.length ≤ 4096) W (hq : MLk w W x vr vm vd ve) => timeof_impl x (mcV x vr vm vd ve) _ l W hq.mac (hu2.out W hq.bel) h2 h3 ((okMc_iff x).1 h1).1.t.1 (by have := ((okMc_iff x).1 h1).2.1; omega) (pat_below hP hq.bel) (Times.below hT hq.bel))
  clear hm hd he hu hB hP
  by_cases h4 : 4096 < l.length
  · have e : cyt2 x l = (0, 2) := by unfold cyt2; rw [if_pos h4]
    rw [e]
    clear e hO hC hT hu2 hf
    have h4i : (4096 : Int) < (l.length : Int) := by omega
    go_enter Tryd.func21, Tryd.ntmps21
    go_upto_region 1 with fail
    obtain ⟨V, hV⟩ : ∃ V, w.alloc (Obj.cells (mcA x vr vm vd ve) 41) = V := ⟨_, rfl⟩
    rw [hV] at hL ⊢
    clear hV
    go_wp2
    go_ret2
    exact ⟨rfl, hL.out.bel⟩
  have h4i : ¬ (4096 : Int) < (l.length : Int) := by omega
  have h4d : decide ((4096 : Int) < (l.length : Int)) = false := decide_eq_false h4i
  have h4n : decide (4096 < l.length) = false := decide_eq_false h4
  cases hok : okMc x
  · have e : cyt2 x l = (0, 1) := by unfold cyt2; rw [if_neg h4, if_neg (by rw [hok]; simp)]
    rw [e]
    rw [hok] at hO
    clear e hC hT hu2 hf
    replace h4 := hid h4
    go_enter Tryd.func21, Tryd.ntmps21
    go_upto_region 1 with fail
    obtain ⟨V, hV⟩ : ∃ V, w.alloc (Obj.cells (mcA x vr vm vd ve) 41) = V := ⟨_, rfl⟩
    rw [hV] at hL ⊢
    clear hV
    have x1 := hid (mc_all hL.out.q)
    go_wp2_with (refine wpList_load_mid rfl 41 _ rfl w.heap.size 0 rfl (mcA x vr vm vd ve).toList _ x1.out Tryd.underlying41 rfl (szMc _ _ _ _ _) ?_)
    refine (hO.out _ hL.out).mono ?_
    rintro r w1 ⟨rfl, hb⟩
    have hL := hid (hL.out.below hb)
    clear hb x1
    go_wp2_with fail
    go_ret2
    exact ⟨rfl, hL.out.bel⟩
  rw [hok] at hO
  cases hcy : cysB l
  · have e : cyt2 x l = (0, 1) := by unfold cyt2; rw [if_neg h4, if_neg (by rw [hcy]; simp)]
    rw [e]
    rw [hcy] at hC
    clear e hT hu2 hf
    replace h4 := hid h4
    go_enter Tryd.func21, Tryd.ntmps21
    go_upto_region 1 with fail
    obtain ⟨V, hV⟩ : ∃ V, w.alloc (Obj.cells (mcA x vr vm vd ve) 41) = V := ⟨_, rfl⟩
    rw [hV] at hL ⊢
    clear hV
    have x1 := hid (mc_all hL.out.q)
    go_wp2_with (refine wpList_load_mid rfl 41 _ rfl w.heap.size 0 rfl (mcA x vr vm vd ve).toList _ x1.out Tryd.underlying41 rfl (szMc _ _ _ _ _) ?_)
    refine (hO.out _ hL.out).mono ?_
    rintro r w1 ⟨rfl, hb⟩
    have hL := hid (hL.out.below hb)
    clear hb x1
    go_wp2_with (guard_target = wpList _ _ _ (Oper.mk _ _ _ _ _ (some _) :: _) _ _; refine wpList_step (fun _ _ => ?_); rw [if_pos (by kernel_rfl)]; go_simp)
    refine (hC.out _ hL.out.bel).mono ?_
    rintro r w2 ⟨rfl, hb⟩
    have hL := hid (hL.out.below hb)
    clear hb
    go_wp2_with (guard_target = wpList _ _ _ (Oper.mk _ _ _ _ _ (some _) :: _) _ _; refine wpList_step (fun _ _ => ?_); rw [if_pos (by kernel_rfl)]; go_simp)
    go_ret2
    exact ⟨rfl, hL.out.bel⟩
  · have e : cyt2 x l = (x.time (tri l), 0) := by unfold cyt2; rw [if_neg h4, if_pos ⟨hok, hcy⟩]
    have hca : cysA l = true := by unfold cysB at hcy; simp only [Bool.and_eq_true] at hcy; exact hcy.1
    have hT := hid (hT.out hok hca (by omega))
    rw [e]
    rw [hcy] at hC
    clear e hu2 hf hca
    generalize x.time (tri l) = Z at *
    replace h4 := hid h4
    go_enter Tryd.func21, Tryd.ntmps21
    go_upto_region 1 with fail
    obtain ⟨V, hV⟩ : ∃ V, w.alloc (Obj.cells (mcA x vr vm vd ve) 41) = V := ⟨_, rfl⟩
    rw [hV] at hL ⊢
    clear hV
    have x1 := hid (mc_all hL.out.q)
    go_wp2_with (refine wpList_load_mid rfl 41 _ rfl w.heap.size 0 rfl (mcA x vr vm vd ve).toList _ x1.out Tryd.underlying41 rfl (szMc _ _ _ _ _) ?_)
    refine (hO.out _ hL.out).mono ?_
    rintro r w1 ⟨rfl, hb⟩
    have hL := hid (hL.out.below hb)
    clear hb x1
    go_wp2_with (guard_target = wpList _ _ _ (Oper.mk _ _ _ _ _ (some _) :: _) _ _; refine wpList_step (fun _ _ => ?_); rw [if_pos (by kernel_rfl)]; go_simp)
    refine (hC.out _ hL.out.bel).mono ?_
    rintro r w2 ⟨rfl, hb⟩
    have hL := hid (hL.out.below hb)
    clear hb
    have x1 := hid (mc_all hL.out.q)
    go_wp2_with (first | (refine wpList_load_mid rfl 41 _ rfl w.heap.size 0 rfl (mcA x vr vm vd ve).toList _ x1.out Tryd.underlying41 rfl (szMc _ _ _ _ _) ?_) | (guard_target = wpList _ _ _ (Oper.mk _ _ _ _ _ (some _) :: _) _ _; refine wpList_step (fun _ _ => ?_); rw [if_pos (by kernel_rfl)]; go_simp))
    refine (hT.out _ hL.out).mono ?_
    rintro r w2 ⟨rfl, hb⟩
    have hL := hid (hL.out.below hb)
    clear hb x1
    go_wp2_with fail
    go_ret2
    exact ⟨rfl, hL.out.bel⟩
end Go.Proofs.YtifcdojaocndhaaDoor
