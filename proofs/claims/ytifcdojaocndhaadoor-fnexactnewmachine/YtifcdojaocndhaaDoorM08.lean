/- What the specification says of a sound chip that is right, of a new one, and of its registers' numbers. -/
import Derived.Test.YtifcdojaocndhaaDoorYam
import Derived.Test.YtifcdojaocndhaaDoorM02
import Derived.BigRegion
import Derived.Deep.RegionWith
import Derived.Deep.MidRow
import Derived.Deep.DeepCutAuto
namespace Go.Proofs.YtifcdojaocndhaaDoor
open Go.ChangeShapes Go.WideShapes Go.ChangeAt Go.RowKit
set_option linter.unusedVariables false
set_option linter.unusedSimpArgs false

/-- an answer of a struct in a cell of its own, and of a number -/
theorem results_cell_tmp {P : Program} {fn : Func} {p q : Tmp} {ty : TypeId} (h : fn.results = #[.cell p ty, .tmp q]) (tmps : Array Value) (w : World) (g : Nat) (t : TypeId) (cs : Array Value) (fr : Nat × Nat) (d : TypeDesc) (v : Value)
    (hp : tmps.getD p undef = .pointer (some ⟨g, 0, none⟩)) (hq : tmps.getD q undef = v) (hg : w.heap[g]? = some (.cells cs t fr))
    (hu : P.underlying ty = some d) (hd : (match d with | .struct _ | .array _ _ => true | _ => false) = true) (hi : (P.info? ty).map (·.size) = some cs.size) :
    (results fn tmps).run P w = .ok (.tuple #[.agg cs, v]) w := by
  have hp' : tmps[p]?.getD undef = .pointer (some ⟨g, 0, none⟩) := by simpa using hp
  have hq' : tmps[q]?.getD undef = v := by simpa using hq
  simp [results, h, hp', hq', asAddr, run_loadVar_row w g t ty cs fr d hg hu hd hi]
theorem mask_spec (r : Nat) (hr : r < 8) (w : World) : Calls Tryd.prog 136 #[.int .i64 (r : Int)] w fun e w' => e = .returned (.int .i64 (maskN r : Nat)) ∧ Below w.heap.size w w' := by
  have q := (Blk.new w #[.int .i64 255, .int .i64 255, .int .i64 31, .int .i64 15, .int .i64 31, .int .i64 31, .int .i64 255, .int .i64 3] 3).cell r
  have e : (#[.int .i64 255, .int .i64 255, .int .i64 31, .int .i64 15, .int .i64 31, .int .i64 31, .int .i64 255, .int .i64 3] : Array Value)[r]? = some (.int .i64 (maskN r : Nat)) := by
    rcases eight hr with rfl | rfl | rfl | rfl | rfl | rfl | rfl | rfl <;> rfl
  rw [e] at q
  have hB := hid ((Below.refl w.heap.size w).alloc (Nat.le_refl _) (.cells #[.int .i64 255, .int .i64 255, .int .i64 31, .int .i64 15, .int .i64 31, .int .i64 31, .int .i64 255, .int .i64 3] 3))
  generalize maskN r = m at *
  clear e
  go_enter Tryd.func136, Tryd.ntmps136
  obtain ⟨V, hV⟩ : ∃ V, w.alloc (.cells #[.int .i64 255, .int .i64 255, .int .i64 31, .int .i64 15, .int .i64 31, .int .i64 31, .int .i64 255, .int .i64 3] 3) = V := ⟨_, rfl⟩
  rw [hV] at q hB
  go_wp2
  go_ret
  exact ⟨rfl, by first | exact hB.out | (rw [hV]; exact hB.out)⟩
set_option maxRecDepth 100000 in
set_option maxHeartbeats 4000000 in
theorem sok_spec (c : Sg) (w : World) : Calls Tryd.prog 97 #[sgV c] w fun e w' => e = .returned (.bool (okS c)) ∧ Below w.heap.size w w' := by
  have hno : Hid (∀ k, k < 8 → inB (c.reg k) 0 (maskN k : Nat) = false → okS c = false) := fun k hk => sreg_no hk
  have hall : Hid ((∀ i, i < 8 → inB (c.reg i) 0 (maskN i : Nat) = true) → okS c = (inB c.sel 0 7 && inB c.c0 0 255 && inB c.c1 0 255 && inB c.noise 0 31 && inB c.shift 1 131071 && inB c.env 0 31 && inB c.ec 0 255)) := fun h => by unfold okS; rw [sreg_all h, Bool.true_and]
  have hB := hid ((Below.refl w.heap.size w).alloc (Nat.le_refl _) (.cells (sgA c) 36))
  have q1 := hid (Blk.new w (sgA c) 36)
  have hix := hid (sgA_at c)
  obtain ⟨Q, hQ⟩ : ∃ Q, okS c = Q := ⟨_, rfl⟩
  rw [hQ] at hno hall ⊢
  clear hQ
  go_enter Tryd.func97, Tryd.ntmps97
  go_upto_region 1 with fail
  obtain ⟨V, hV⟩ : ∃ V, w.alloc (Obj.cells (sgA c) 36) = V := ⟨_, rfl⟩
  rw [hV] at hB q1 ⊢
  clear hV
  go_wp2
  go_loopw [3] (fun i wr => ∃ k : Nat, k ≤ 8 ∧ i = .int .i64 k ∧ (∀ j, j < k → inB (c.reg j) 0 (maskN j : Nat) = true) ∧ Blk wr w.heap.size (sgA c) ∧ Below w.heap.size w wr) (fun i _ => 8 - (intOf i).toNat)
  case atStart => exact ⟨0, by omega, rfl, fun j hj => by omega, q1.out, hB.out⟩
  case round =>
    obtain ⟨k, hk, rfl, hj, hq, hW⟩ := hrel
    clear q1 hB
    by_cases hlt : k < 8
    · have x1 := hq.cell k
      rw [hix.out k hlt] at x1
      have hm := hid (fun w1 => mask_spec k hlt w1)
      have hq2 : Hid (∀ W', Below wr.heap.size wr W' → W'.cell? ⟨w.heap.size, k, none⟩ = some (.int .i64 (c.reg k)) ∧ Blk W' w.heap.size (sgA c) ∧ Below w.heap.size w W') := fun W' hb => ⟨by rw [(hq.below hb hq.lt).cell k, hix.out k hlt], hq.below hb hq.lt, new_trans hW hb⟩
      have hD : Hid (Below wr.heap.size wr wr.drew) := (Below.refl _ _).drew
      clear hq hW
      cases hb : inB (c.reg k) 0 (maskN k : Nat)
      · have hE := hid (hno.out k hlt hb)
        clear hj hno hall hk
        generalize c.reg k = y at *
        generalize maskN k = m at *
        go_wp2
        go_region_with (first | (go_at_call 136; refine (hm.out _).mono ?_; rintro e w2 ⟨rfl, hb2⟩; have hB2 := hid (new_trans hD.out hb2); have x2 := (hq2.out _ hB2.out).1; clear hb2) | (go_at_call 99; refine (in_spec _ _ _ _).mono ?_; rintro e w' ⟨rfl, hww⟩; obtain rfl := hww.symm; rw [hb]))
        all_goals
          go_wp2
          go_ret
          exact ⟨ret_bool hE.out.symm, (hq2.out _ hB2.out).2.2⟩
      · have hj2 : Hid (∀ j, j < k + 1 → inB (c.reg j) 0 (maskN j : Nat) = true) := fun j hj1 => by
          by_cases e : j = k
          · rw [e]; exact hb
          · exact hj j (by omega)
        clear hj hno hall hk
        generalize c.reg k = y at *
        generalize maskN k = m at *
        go_wp2
        go_region_with (first | (go_at_call 136; refine (hm.out _).mono ?_; rintro e w2 ⟨rfl, hb2⟩; have hB2 := hid (new_trans hD.out hb2); have x2 := (hq2.out _ hB2.out).1; clear hb2) | (go_at_call 99; refine (in_spec _ _ _ _).mono ?_; rintro e w' ⟨rfl, hww⟩; obtain rfl := hww.symm; rw [hb]))
        all_goals
          go_wp2
          go_roundw
          case rel => exact ⟨k + 1, by omega, by go_num, hj2.out, (hq2.out _ hB2.out).2.1, (hq2.out _ hB2.out).2.2⟩
          case measure => simp [intOf]; omega
    · obtain rfl : k = 8 := by omega
      have hE := hall.out hj
      have x1 := hq.cell
      replace hW := hid hW
      replace hE := hid hE
      clear hj hno hall hk hlt hix hq
      go_wp2_with (first | (go_at_call 99; refine (in_spec _ _ _ _).mono ?_; rintro e w' ⟨rfl, hww⟩; obtain rfl := hww.symm) | (go_at_call 66; refine (byteM_spec _ _).mono ?_; rintro e w' ⟨rfl, hww⟩; obtain rfl := hww.symm))
      all_goals go_ret
      all_goals exact ⟨ret_bool (by rw [hE.out]; simp_all), hW.out⟩
end Go.Proofs.YtifcdojaocndhaaDoor

/- A new sound chip, its registers chosen, written and read: the specification. -/
namespace Go.Proofs.YtifcdojaocndhaaDoor
open Go.ChangeShapes Go.WideShapes Go.ChangeAt Go.RowKit
set_option linter.unusedVariables false
set_option linter.unusedSimpArgs false

abbrev ansS (r : Sg × Int) : Value := .tuple #[sgV r.1, .int .i64 r.2]
abbrev neS : Sg := { zeS with r3 := 15, shift := 1 }
theorem byteS {k : Int} (h : inB k 0 255 = true) : ∃ n : Nat, k = n ∧ n < 256 := by
  simp [inB] at h
  exact ⟨k.toNat, by omega, by omega⟩
def sel2 (p : Sg) (v : Int) : Sg × Int := if okS p = true then (if inB v 0 255 = true then ({ p with sel := ((Nat.land v.toNat 7 : Nat) : Int) }, 0) else (zeS, 4)) else (zeS, 1)
/-- a register is written -/
def Sg.write (p : Sg) (v : Nat) : Sg := if p.sel.toNat = 7 then { p.put (Nat.land v (maskN p.sel.toNat) : Nat) p.sel.toNat with env := 0, ec := 0 } else p.put (Nat.land v (maskN p.sel.toNat) : Nat) p.sel.toNat
def write2 (p : Sg) (v : Int) : Sg × Int := if okS p = true then (if inB v 0 255 = true then (p.write v.toNat, 0) else (zeS, 4)) else (zeS, 1)
def readS2 (p : Sg) : Int × Int := if okS p = true then (p.reg p.sel.toNat, 0) else (0, 1)
/-- a chip in a block, and room for an answer behind it -/
structure P2s (w W : World) (A : Array Value) : Prop where
  q0 : Blk W w.heap.size A
  q1 : Blk W (w.heap.size + 1) (sgA zeS)
  bel : Below w.heap.size w W
theorem P2s.start (w : World) (c : Sg) (t t1 : TypeId) : P2s w ((w.alloc (.cells (sgA c) t)).alloc (.cells (sgA zeS) t1)) (sgA c) := by
  obtain ⟨q0, q1, hB⟩ := two_in (w := w) (sgA c) (sgA zeS) t t1
  exact ⟨q0, q1, hB⟩
theorem P2s.below {w W W' : World} {A : Array Value} (h : P2s w W A) (hb : Below W.heap.size W W') : P2s w W' A :=
  ⟨h.q0.below hb h.q0.lt, h.q1.below hb h.q1.lt, h.bel.trans (hb.mono h.bel.size)⟩
theorem P2s.drew {w W : World} {A : Array Value} (h : P2s w W A) : P2s w W.drew A := h.below ⟨rfl, rfl, rfl, Nat.le_refl _, fun _ _ => rfl⟩
theorem P2s.set {w W : World} {A : Array Value} (h : P2s w W A) (i : Nat) (u : Value) : P2s w (W.setCell ⟨w.heap.size, i, none⟩ u) (A.setIfInBounds i u) :=
  ⟨h.q0.set i u, h.q1.other (by simp) u, h.bel.setCell (p := ⟨w.heap.size, i, none⟩) (Nat.le_refl _) u⟩
theorem sgA_sel (p : Sg) (v : Int) : (sgA p).setIfInBounds 8 (.int .i64 v) = sgA { p with sel := v } := by
  simp only [List.setIfInBounds_toArray, List.set_cons_zero, List.set_cons_succ]
theorem sgA_env (p : Sg) : ((sgA p).setIfInBounds 15 (.int .i64 0)).setIfInBounds 16 (.int .i64 0) = sgA { p with env := 0, ec := 0 } := by
  simp only [List.setIfInBounds_toArray, List.set_cons_zero, List.set_cons_succ]
theorem okS_sel {p : Sg} (h : okS p = true) : ∃ s : Nat, p.sel = s ∧ s < 8 := by
  have := ((okS_iff p).1 h).2.1
  exact ⟨p.sel.toNat, by omega, by omega⟩
/-- a chip that lies in a block of its own: read and written whole -/
theorem sg_range {W : World} {b : Nat} {c : Sg} (h : Blk W b (sgA c)) : W.rangeAt b 0 (sgA c).toList := fun j v hv => by
  rw [Nat.zero_add, h.cell j, ← Array.getElem?_toList]
  exact hv
theorem sg_there {W : World} {b : Nat} {z : Sg} (h : Blk W b (sgA z)) (c : Sg) : W.there b 0 (sgA c).size := fun j hj => by
  rw [Nat.zero_add]
  refine ⟨?_, h.frozen j⟩
  rw [h.cell j]
  have : j < (sgA z).size := hj
  rw [Array.getElem?_eq_getElem this]
  rfl
def layB : Nat → List Value → Array Value → Array Value
  | _, [], A => A
  | i, u :: t, A => layB (i + 1) t (A.setIfInBounds i u)
theorem lay_blk (b : Nat) (l : List Value) : ∀ (W : World) (i : Nat) (A : Array Value), Blk W b A → Blk (W.setCells b i l) b (layB i l A) := by
  induction l with
  | nil => exact fun _ _ _ h => h
  | cons u t ih => exact fun W i A h => ih _ _ _ (h.set i u)
theorem lay_below {lo b : Nat} {w : World} (vs : List Value) : ∀ (o : Nat) (W : World), lo ≤ b → Below lo w W → Below lo w (W.setCells b o vs) := by
  induction vs with
  | nil => exact fun o W _ h => h
  | cons u t ih => exact fun o W hb h => ih _ _ hb (h.setCell (p := ⟨b, o, none⟩) hb u)
theorem sg_laid {W : World} {b : Nat} {z : Sg} (h : Blk W b (sgA z)) (c : Sg) : Blk (W.setCells b 0 (sgA c).toList) b (sgA c) := by
  have q := lay_blk b (sgA c).toList W 0 (sgA z) h
  have e : layB 0 (sgA c).toList (sgA z) = sgA c := by
    simp only [layB, List.setIfInBounds_toArray, List.set_cons_zero, List.set_cons_succ, Nat.zero_add, Nat.reduceAdd]
  rw [e] at q
  exact q
theorem sg_one (c : Sg) : (sgA c).all (·.oneCell') = true := by simp [Value.oneCell']
theorem sg_size (c : Sg) : (Tryd.prog.info? 36).map (·.size) = some (sgA c).size := by
  show (Tryd.prog.info? 36).map (·.size) = some 17
  kernel_rfl
set_option maxRecDepth 100000 in
theorem news_spec (w : World) : Calls Tryd.prog 77 #[] w fun e w' => e = .returned (sgV neS) ∧ Below w.heap.size w w' := by
  have hs := two_in (w := w) (sgA zeS) (sgA neS) 36 36
  obtain ⟨C, hC⟩ : ∃ C, neS = C := ⟨_, rfl⟩
  have hCV : Hid (sgV neS = sgV C) := by rw [hC]; rfl
  rw [hCV.out]
  go_enter Tryd.func77, Tryd.ntmps77
  go_upto_region 3 with fail
  obtain ⟨V, hV⟩ : ∃ V, (w.alloc (.cells (sgA zeS) 36)).alloc (.cells (sgA neS) 36) = V := ⟨_, rfl⟩
  rw [hV] at hs ⊢
  clear hV
  have hr := hid (sg_range hs.2.1)
  have hth := hid (sg_there hs.1 neS)
  have hB := hid hs.2.2
  obtain ⟨tt, ht⟩ := sg_laid hs.1 neS
  replace ht := hid ht
  clear hs
  rw [hC] at hr hth ht
  clear hC
  go_wp2_with (first | (refine wpList_load_mid rfl 36 _ rfl (w.heap.size + 1) 0 rfl (sgA C).toList _ hr.out Tryd.underlying36 rfl (sg_size C) ?_) | (refine wpList_store_mid rfl 36 _ _ rfl w.heap.size 0 (sgA C) rfl rfl hth.out (sg_size C) (sg_one C) ?_))
  exact bodyPost_ret (v := sgV C) (results_cell_row Tryd.results77 _ _ w.heap.size tt (sgA C) (0, 0) _ rfl ht.out Tryd.underlying36 rfl (sg_size C)) rfl ⟨rfl, lay_below _ _ _ (Nat.le_refl _) hB.out⟩
end Go.Proofs.YtifcdojaocndhaaDoor

/- Registers of the sound chip that are written and read: the specification. -/
namespace Go.Proofs.YtifcdojaocndhaaDoor
open Go.ChangeShapes Go.WideShapes Go.ChangeAt Go.RowKit
set_option linter.unusedVariables false
set_option linter.unusedSimpArgs false

theorem put_sel (c : Sg) (v : Int) (k : Nat) : (c.put v k).sel = c.sel := by
  unfold Sg.put
  split <;> rfl
theorem maskN_lt (r : Nat) : maskN r < 256 := by
  unfold maskN
  split <;> decide
theorem write_eq (c : Sg) (s v : Nat) (hs : c.sel = s) : c.write v = if s = 7 then { c.put (Nat.land v (maskN s) : Nat) s with env := 0, ec := 0 } else c.put (Nat.land v (maskN s) : Nat) s := by
  unfold Sg.write
  rw [hs, Int.toNat_natCast]
end Go.Proofs.YtifcdojaocndhaaDoor

/- Ticks of the sound chip's counters: the specification. -/
namespace Go.Proofs.YtifcdojaocndhaaDoor
open Go.ChangeShapes Go.WideShapes Go.ChangeAt Go.RowKit
set_option linter.unusedVariables false
set_option linter.unusedSimpArgs false

/-- a counter's turn -/
def tickB (c p : Nat) : Bool := decide (1 ≤ c + 1 ∧ p ≤ c + 1)
def tickV (c p : Nat) : Nat := if tickB c p = true then 0 else c + 1
theorem tickV_le (c p : Nat) (b : Nat) (hc : c ≤ b) (hp : p ≤ b) : tickV c p ≤ b := by
  unfold tickV tickB
  split
  · omega
  · rename_i h
    have : ¬ (1 ≤ c + 1 ∧ p ≤ c + 1) := by simpa using h
    omega
end Go.Proofs.YtifcdojaocndhaaDoor

/- One tick of the sound chip, as plain numbers. -/
namespace Go.Proofs.YtifcdojaocndhaaDoor
open Go.ChangeShapes Go.WideShapes Go.ChangeAt Go.RowKit
set_option linter.unusedVariables false
set_option linter.unusedSimpArgs false

/-- the noise's next number -/
def shN (s : Nat) : Nat := Nat.lor (s / 2) (Nat.xor (Nat.land s 1) (Nat.land (s / 8) 1) * 65536)
/-- the envelope's next place, by its shape -/
def env1 (e : Nat) : Nat := if 31 < e + 1 then 0 else e + 1
def env2 (sh e : Nat) : Nat := if sh < 2 ∧ 15 < e then 15 else e
def env3 (sh e : Nat) : Nat := if sh = 2 ∧ 15 < e then 0 else e
def envN (sh e : Nat) : Nat := env3 sh (env2 sh (env1 e))
/-- both channels; the noise; the envelope -/
def Sg.ch0 (p : Sg) : Sg := { p with c0 := (tickV p.c0.toNat p.r0.toNat : Nat), o0 := Bool.xor p.o0 (tickB p.c0.toNat p.r0.toNat) }
def Sg.ch1 (p : Sg) : Sg := { p with c1 := (tickV p.c1.toNat p.r1.toNat : Nat), o1 := Bool.xor p.o1 (tickB p.c1.toNat p.r1.toNat) }
def Sg.noi (p : Sg) : Sg := { p with noise := (tickV p.noise.toNat p.r2.toNat : Nat), shift := if tickB p.noise.toNat p.r2.toNat = true then ((shN p.shift.toNat : Nat) : Int) else p.shift }
def Sg.envl (p : Sg) : Sg := { p with ec := (tickV p.ec.toNat p.r6.toNat : Nat), env := if tickB p.ec.toNat p.r6.toNat = true then ((envN p.r7.toNat p.env.toNat : Nat) : Int) else p.env }
def Sg.step (p : Sg) : Sg := p.ch0.ch1.noi.envl
theorem shN_bd (s : Nat) (h1 : 1 ≤ s) (h2 : s < 131072) : 1 ≤ shN s ∧ shN s < 131072 := by
  unfold shN
  have a1 : Nat.land s 1 = s % 2 := Nat.and_one_is_mod s
  have a2 : Nat.land (s / 8) 1 = s / 8 % 2 := Nat.and_one_is_mod (s / 8)
  rw [a1, a2]
  have hx : Nat.xor (s % 2) (s / 8 % 2) < 2 := Nat.xor_lt_two_pow (n := 1) (by omega) (by omega)
  have hup : Nat.lor (s / 2) (Nat.xor (s % 2) (s / 8 % 2) * 65536) < 2 ^ 17 := Nat.or_lt_two_pow (by omega) (by omega)
  refine ⟨?_, by omega⟩
  by_cases h : s = 1
  · subst h; decide
  · have : s / 2 ≤ Nat.lor (s / 2) (Nat.xor (s % 2) (s / 8 % 2) * 65536) := Nat.left_le_or
    omega
theorem envN_le (sh e : Nat) (h : e ≤ 31) : envN sh e ≤ 31 := by
  unfold envN env3 env2 env1
  repeat' split
  all_goals omega
theorem okS_step {p : Sg} (h : okS p = true) : okS p.step = true := by
  rw [okS_iff] at h ⊢
  obtain ⟨hr, hs, h0, h1, hn, hsh, he, hec⟩ := h
  have r0 := hr 0 (by omega)
  have r1 := hr 1 (by omega)
  have r2 := hr 2 (by omega)
  have r6 := hr 6 (by omega)
  simp only [Sg.reg, maskN] at r0 r1 r2 r6
  have t0 := tickV_le p.c0.toNat p.r0.toNat 255 (by omega) (by omega)
  have t1 := tickV_le p.c1.toNat p.r1.toNat 255 (by omega) (by omega)
  have t2 := tickV_le p.noise.toNat p.r2.toNat 31 (by omega) (by omega)
  have t3 := tickV_le p.ec.toNat p.r6.toNat 255 (by omega) (by omega)
  have t4 := shN_bd p.shift.toNat (by omega) (by omega)
  have t5 := envN_le p.r7.toNat p.env.toNat (by omega)
  refine ⟨fun i hi => ?_, hs, ?_, ?_, ?_, ?_, ?_, ?_⟩
  · have := hr i hi
    rcases eight hi with rfl | rfl | rfl | rfl | rfl | rfl | rfl | rfl <;> exact this
  · show 0 ≤ ((tickV p.c0.toNat p.r0.toNat : Nat) : Int) ∧ ((tickV p.c0.toNat p.r0.toNat : Nat) : Int) ≤ 255
    omega
  · show 0 ≤ ((tickV p.c1.toNat p.r1.toNat : Nat) : Int) ∧ ((tickV p.c1.toNat p.r1.toNat : Nat) : Int) ≤ 255
    omega
  · show 0 ≤ ((tickV p.noise.toNat p.r2.toNat : Nat) : Int) ∧ ((tickV p.noise.toNat p.r2.toNat : Nat) : Int) ≤ 31
    omega
  · show 1 ≤ (if tickB p.noise.toNat p.r2.toNat = true then ((shN p.shift.toNat : Nat) : Int) else p.shift) ∧ (if tickB p.noise.toNat p.r2.toNat = true then ((shN p.shift.toNat : Nat) : Int) else p.shift) ≤ 131071
    split <;> omega
  · show 0 ≤ (if tickB p.ec.toNat p.r6.toNat = true then ((envN p.r7.toNat p.env.toNat : Nat) : Int) else p.env) ∧ (if tickB p.ec.toNat p.r6.toNat = true then ((envN p.r7.toNat p.env.toNat : Nat) : Int) else p.env) ≤ 31
    split <;> omega
  · show 0 ≤ ((tickV p.ec.toNat p.r6.toNat : Nat) : Int) ∧ ((tickV p.ec.toNat p.r6.toNat : Nat) : Int) ≤ 255
    omega
/-- so many ticks -/
def Sg.steps (p : Sg) : Nat → Sg
  | 0 => p
  | n + 1 => (p.steps n).step
theorem steps_add (p : Sg) (n k : Nat) : p.steps (n + k) = (p.steps n).steps k := by
  induction k with
  | zero => rfl
  | succ k ih =>
    show (p.steps (n + k)).step = ((p.steps n).steps k).step
    rw [ih]
theorem okS_steps {p : Sg} (h : okS p = true) (n : Nat) : okS (p.steps n) = true := by
  induction n with
  | zero => exact h
  | succ n ih => exact okS_step ih
end Go.Proofs.YtifcdojaocndhaaDoor

/- One tick of the sound chip: the specification. -/
namespace Go.Proofs.YtifcdojaocndhaaDoor
open Go.ChangeShapes Go.WideShapes Go.ChangeAt Go.RowKit
set_option linter.unusedVariables false
set_option linter.unusedSimpArgs false

theorem sgA_ch0 (p : Sg) : ((sgA p).setIfInBounds 9 (.int .i64 (tickV p.c0.toNat p.r0.toNat : Nat))).setIfInBounds 11 (.bool (Bool.xor p.o0 (tickB p.c0.toNat p.r0.toNat))) = sgA p.ch0 := by
  unfold Sg.ch0
  simp only [List.setIfInBounds_toArray, List.set_cons_zero, List.set_cons_succ]
theorem sgA_ch1 (p : Sg) : ((sgA p).setIfInBounds 10 (.int .i64 (tickV p.c1.toNat p.r1.toNat : Nat))).setIfInBounds 12 (.bool (Bool.xor p.o1 (tickB p.c1.toNat p.r1.toNat))) = sgA p.ch1 := by
  unfold Sg.ch1
  simp only [List.setIfInBounds_toArray, List.set_cons_zero, List.set_cons_succ]
theorem sgA_noi0 (p : Sg) (h : tickB p.noise.toNat p.r2.toNat = false) : (sgA p).setIfInBounds 13 (.int .i64 (tickV p.noise.toNat p.r2.toNat : Nat)) = sgA p.noi := by
  unfold Sg.noi
  rw [h]
  simp only [List.setIfInBounds_toArray, List.set_cons_zero, List.set_cons_succ, Bool.false_eq_true, if_false]
theorem sgA_noi1 (p : Sg) (h : tickB p.noise.toNat p.r2.toNat = true) : ((sgA p).setIfInBounds 13 (.int .i64 (tickV p.noise.toNat p.r2.toNat : Nat))).setIfInBounds 14 (.int .i64 (shN p.shift.toNat : Nat)) = sgA p.noi := by
  unfold Sg.noi
  rw [h]
  simp only [List.setIfInBounds_toArray, List.set_cons_zero, List.set_cons_succ, if_true]
theorem sgA_env0 (p : Sg) (h : tickB p.ec.toNat p.r6.toNat = false) : (sgA p).setIfInBounds 16 (.int .i64 (tickV p.ec.toNat p.r6.toNat : Nat)) = sgA p.envl := by
  unfold Sg.envl
  rw [h]
  simp only [List.setIfInBounds_toArray, List.set_cons_zero, List.set_cons_succ, Bool.false_eq_true, if_false]
theorem sgA_env1 (p : Sg) (h : tickB p.ec.toNat p.r6.toNat = true) : ((sgA p).setIfInBounds 16 (.int .i64 (tickV p.ec.toNat p.r6.toNat : Nat))).setIfInBounds 15 (.int .i64 (envN p.r7.toNat p.env.toNat : Nat)) = sgA p.envl := by
  unfold Sg.envl
  rw [h]
  simp only [List.setIfInBounds_toArray, List.set_cons_zero, List.set_cons_succ, if_true]
theorem bool_ne (a b : Bool) : (a != b) = Bool.xor a b := by cases a <;> cases b <;> rfl
theorem bOf32 (a : Nat) (ha : a < 4294967296) : ((a : Int) % ((2 ^ 64 : Nat) : Int)).toNat = a := by omega
theorem bOr32 (a b : Nat) (ha : a < 4294967296) (hb : b < 4294967296) : bits .or .i64 (a : Int) (b : Int) = ((Nat.lor a b : Nat) : Int) := by
  have hx : Nat.lor a b < 2 ^ 32 := Nat.or_lt_two_pow (by omega) (by omega)
  show IntKind.i64.wrap ((BitVec.ofInt 64 (a : Int) ||| BitVec.ofInt 64 (b : Int)).toNat : Int) = _
  rw [BitVec.toNat_or, BitVec.toNat_ofInt, BitVec.toNat_ofInt, IntKind.wrap_i64, bOf32 a ha, bOf32 b hb]
  show (((Nat.lor a b : Nat) : Int) + _) % _ - _ = _
  omega
theorem bAnd32 (a b : Nat) (ha : a < 4294967296) (hb : b < 4294967296) : bits .and .i64 (a : Int) (b : Int) = ((Nat.land a b : Nat) : Int) := by
  have hx : Nat.land a b < 2 ^ 32 := Nat.and_lt_two_pow _ (by omega)
  show IntKind.i64.wrap ((BitVec.ofInt 64 (a : Int) &&& BitVec.ofInt 64 (b : Int)).toNat : Int) = _
  rw [BitVec.toNat_and, BitVec.toNat_ofInt, BitVec.toNat_ofInt, IntKind.wrap_i64, bOf32 a ha, bOf32 b hb]
  show (((Nat.land a b : Nat) : Int) + _) % _ - _ = _
  omega
theorem set_set (A : Array Value) (k : Nat) (a b : Value) : (A.setIfInBounds k a).setIfInBounds k b = A.setIfInBounds k b := by
  obtain ⟨l⟩ := A
  simp
def Sg.withEnv (p : Sg) (v : Int) : Sg := { p with env := v }
theorem sgA_envv (p : Sg) (v : Int) : (sgA p).setIfInBounds 15 (.int .i64 v) = sgA (p.withEnv v) := by
  unfold Sg.withEnv
  simp only [List.setIfInBounds_toArray, List.set_cons_zero, List.set_cons_succ]
theorem sgA_ec (p : Sg) (v : Int) : (sgA p).setIfInBounds 16 (.int .i64 v) = sgA { p with ec := v } := by
  simp only [List.setIfInBounds_toArray, List.set_cons_zero, List.set_cons_succ]
theorem sgA_noise (p : Sg) (v : Int) : (sgA p).setIfInBounds 13 (.int .i64 v) = sgA { p with noise := v } := by
  simp only [List.setIfInBounds_toArray, List.set_cons_zero, List.set_cons_succ]
theorem sgA_shift (p : Sg) (v : Int) : (sgA p).setIfInBounds 14 (.int .i64 v) = sgA { p with shift := v } := by
  simp only [List.setIfInBounds_toArray, List.set_cons_zero, List.set_cons_succ]
theorem bXor32 (a b : Nat) (ha : a < 4294967296) (hb : b < 4294967296) : bits .xor .i64 (a : Int) (b : Int) = ((Nat.xor a b : Nat) : Int) := by
  have hx : Nat.xor a b < 2 ^ 32 := Nat.xor_lt_two_pow (by omega) (by omega)
  show IntKind.i64.wrap ((BitVec.ofInt 64 (a : Int) ^^^ BitVec.ofInt 64 (b : Int)).toNat : Int) = _
  rw [BitVec.toNat_xor, BitVec.toNat_ofInt, BitVec.toNat_ofInt, IntKind.wrap_i64, bOf32 a ha, bOf32 b hb]
  show (((Nat.xor a b : Nat) : Int) + _) % _ - _ = _
  omega
/-- what lies there behind both channels and the noise: the envelope's turn is left -/
structure EnvIn (E : Sg) (e sh : Nat) : Prop where
  ec : 0 ≤ E.ec ∧ E.ec ≤ 255
  r6 : 0 ≤ E.r6 ∧ E.r6 ≤ 255
  env : E.env = e
  r7 : E.r7 = sh
  le : e ≤ 31
  sl : sh < 4
end Go.Proofs.YtifcdojaocndhaaDoor
