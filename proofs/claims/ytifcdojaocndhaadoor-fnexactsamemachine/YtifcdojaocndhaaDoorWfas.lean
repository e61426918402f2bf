/- How long cycles take from where a machine stands: the specification. -/
import Derived.Test.YtifcdojaocndhaaDoorS32
import Derived.Test.YtifcdojaocndhaaDoorS33
import Derived.Test.YtifcdojaocndhaaDoorS18
namespace Go.Proofs.YtifcdojaocndhaaDoor
open Go.ChangeShapes Go.WideShapes Go.ChangeAt Go.RowKit
set_option linter.unusedVariables false
set_option linter.unusedSimpArgs false

/-- a cycle that is one -/
def cyOk (e : Evt) : Bool := inB e.t 1 5 && inB e.k 0 255 && inB e.v 0 255
def cysA (l : List Evt) : Bool := (List.range l.length).all fun i => cyOk (l.getD i e0)
def cysB (l : List Evt) : Bool := cysA l && decide (l.length ≤ 20)
def tri (l : List Evt) : List (Int × Int × Int) := l.map fun e => (e.t, e.k, e.v)
theorem cysA_iff (l : List Evt) : cysA l = true ↔ ∀ i, i < l.length → cyOk (l.getD i e0) = true := by
  unfold cysA
  rw [List.all_eq_true]
  exact ⟨fun h i hi => h i (List.mem_range.2 hi), fun h i hi => h i (List.mem_range.1 hi)⟩
theorem cysA_no {l : List Evt} {i : Nat} (hi : i < l.length) (h : cyOk (l.getD i e0) = false) : cysA l = false := by
  unfold cysA
  rw [List.all_eq_false]
  exact ⟨i, List.mem_range.2 hi, by rw [h]; decide⟩
theorem cyOk_iff (e : Evt) : cyOk e = true ↔ (e.t = 1 ∨ e.t = 2 ∨ e.t = 3 ∨ e.t = 4 ∨ e.t = 5) ∧ (0 ≤ e.k ∧ e.k ≤ 255) ∧ (0 ≤ e.v ∧ e.v ≤ 255) := by
  unfold cyOk inB
  simp only [Bool.and_eq_true, decide_eq_true_eq]
  omega
theorem endT_snoc (pg : Int) (l : List (Int × Int × Int)) (e : Int × Int × Int) : ∀ t : Int, endT pg (l ++ [e]) t = endT pg l t + wtC pg e.1 e.2.1 (endT pg l t) + lnC e.1 := by
  induction l with
  | nil => intro t; rfl
  | cons a l ih => intro t; exact ih _
theorem take_snocE {l : List Evt} {k : Nat} (hk : k < l.length) : l.take (k + 1) = l.take k ++ [l.getD k e0] := by
  rw [List.take_add_one, List.getD_eq_getElem?_getD, List.getElem?_eq_getElem hk]
  rfl
/-- where the time stands behind the first k cycles -/
def atT (pg : Int) (l : List Evt) (t : Int) (k : Nat) : Int := endT pg (tri (l.take k)) t
theorem atT_zero (pg : Int) (l : List Evt) (t : Int) : atT pg l t 0 = t := by unfold atT; rw [List.take_zero]; rfl
theorem atT_all (pg : Int) (l : List Evt) (t : Int) : atT pg l t l.length = endT pg (tri l) t := by unfold atT; rw [List.take_length]
theorem atT_succ (pg : Int) {l : List Evt} (t : Int) {k : Nat} (hk : k < l.length) : atT pg l t (k + 1) = atT pg l t k + wtC pg (l.getD k e0).t (l.getD k e0).k (atT pg l t k) + lnC (l.getD k e0).t := by
  unfold atT
  rw [take_snocE hk]
  unfold tri
  rw [List.map_append]
  exact endT_snoc _ _ _ _
theorem atT_bd (pg : Int) (l : List Evt) (t : Int) (k : Nat) (hk : k ≤ l.length) : t ≤ atT pg l t k ∧ atT pg l t k ≤ t + 10 * k := by
  induction k with
  | zero => rw [atT_zero]; omega
  | succ k ih =>
    have := ih (by omega)
    rw [atT_succ pg t (by omega)]
    have h1 := wtC_bd pg (l.getD k e0).t (l.getD k e0).k (atT pg l t k)
    have h2 := lnC_bd (l.getD k e0).t
    omega
theorem waits2_spec (t : Int) (w : World) (h0 : 0 ≤ t) : Calls Tryd.prog 139 #[.int .i64 t] w fun e w' => e = .returned (.int .i64 (waitI (t % 640))) ∧ w' = w := by
  obtain ⟨q, hm⟩ : ∃ q, t % 640 = q := ⟨_, rfl⟩
  have q0 : 0 ≤ q := by omega
  have q1 : q ≤ 639 := by omega
  rw [hm]
  cases h : scrI q
  · have e : waitI q = 0 := by unfold waitI; rw [if_neg (by rw [h]; decide)]
    rw [e]
    clear e
    go_enter Tryd.func139, Tryd.ntmps139
    go_wp2_with (go_at_call 152; refine (screen_spec _ _ q0 q1).mono ?_; rintro e w' ⟨rfl, rfl⟩; rw [h])
    go_ret
    exact ⟨rfl, rfl⟩
  · have e : waitI q = max 0 (6 - q % 8) := by unfold waitI; rw [if_pos h]
    rw [e]
    clear e
    go_enter Tryd.func139, Tryd.ntmps139
    go_wp2_with (go_at_call 152; refine (screen_spec _ _ q0 q1).mono ?_; rintro e w' ⟨rfl, rfl⟩; rw [h])
    all_goals go_ret
    all_goals exact ⟨ret_int (by omega), rfl⟩
theorem lnC_1 : lnC 1 = 4 := rfl
set_option maxRecDepth 100000 in
theorem llen_spec (k : Int) (w : World) (h : k = 1 ∨ k = 2 ∨ k = 3 ∨ k = 4 ∨ k = 5) : Calls Tryd.prog 102 #[.int .i64 k] w fun r w' => r = .returned (.int .i64 (lnC k)) ∧ Below w.heap.size w w' := by
  have hB := hid ((Below.refl w.heap.size w).alloc (Nat.le_refl _) (.cells #[.int .i64 0, .int .i64 4, .int .i64 3, .int .i64 3, .int .i64 4, .int .i64 4] 3))
  rcases h with rfl | rfl | rfl | rfl | rfl
  all_goals
    go_enter Tryd.func102, Tryd.ntmps102
    go_wp2
    go_ret
    refine ⟨rfl, ?_⟩
    repeat (first | exact Below.refl _ _ | refine Below.drew ?_ | refine Below.alloc ?_ (by first | omega | (simp; omega) | simp) _ | refine Below.setCell ?_ (by first | omega | (simp; omega) | simp) _)
theorem wt_mem {pg kk a t : Int} (h : kk = 1 ∨ kk = 2 ∨ kk = 3) : wtC pg kk a t = if decide (bankI pg a = 1 ∨ bankI pg a = 3) = true then waitI (t % 640) else 0 := by
  have e : mustW pg kk a = decide (bankI pg a = 1 ∨ bankI pg a = 3) := by unfold mustW; rw [if_neg (by omega)]
  unfold wtC
  rw [e]
theorem wt_port {pg kk a t : Int} (h : kk = 4 ∨ kk = 5) : wtC pg kk a t = if a % 2 = 0 then waitI (t % 640) else 0 := by
  unfold wtC mustW
  rw [if_pos h]
  simp only [decide_eq_true_eq]
set_option maxRecDepth 100000 in
set_option maxHeartbeats 4000000 in
theorem lwait_spec {p : Nat → Bool} (x : Mc) (v : Value) (kk a b t : Int) (w : World) (h : MacR p w v x) (hk : kk = 1 ∨ kk = 2 ∨ kk = 3 ∨ kk = 4 ∨ kk = 5) (a0 : 0 ≤ a) (a1 : a ≤ 255) (t0 : 0 ≤ t) : Calls Tryd.prog 101 #[v, evV ⟨kk, a, b⟩, .int .i64 t] w fun r w' => r = .returned (.int .i64 (wtC x.m.page kk a t)) ∧ Below w.heap.size w w' := by
  obtain ⟨vr, vm, vd, ve, rfl, hm, hd, he⟩ := h
  obtain ⟨b1, p1, b2, p2, e, _, _⟩ := hm.form
  simp only [memV, Value.agg.injEq, Array.mk.injEq, List.cons.injEq] at e
  obtain ⟨rfl, rfl, _⟩ := e
  clear hm hd he
  have hw := hid (fun W => waits2_spec t W t0)
  have hs := hid (fun W => shared0_spec b1 b2 x.m.rom.length p1 x.m.ram.length p2 x.m.page x.m.screen x.m.locked a W a0 a1)
  have q := Blk.new w (mcA x (.slice b1 x.m.rom.length p1) (.slice b2 x.m.ram.length p2) vd ve) 41
  have q2 := Blk.new (w.alloc (.cells (mcA x (.slice b1 x.m.rom.length p1) (.slice b2 x.m.ram.length p2) vd ve) 41)) #[.int .i64 kk, .int .i64 a, .int .i64 b] 108
  rw [World.size_alloc] at q2
  have hB := hid (((Below.refl w.heap.size w).alloc (Nat.le_refl _) (.cells (mcA x (.slice b1 x.m.rom.length p1) (.slice b2 x.m.ram.length p2) vd ve) 41)).alloc (by simp) (.cells #[.int .i64 kk, .int .i64 a, .int .i64 b] 108))
  replace q := q.alloc (.cells #[.int .i64 kk, .int .i64 a, .int .i64 b] 108)
  have hZ1 := hid (fun h => wt_mem (pg := x.m.page) (kk := kk) (a := a) (t := t) h)
  have hZ2 := hid (fun h => wt_port (pg := x.m.page) (kk := kk) (a := a) (t := t) h)
  generalize wtC x.m.page kk a t = Z at *
  generalize waitI (t % 640) = T6 at *
  go_enter Tryd.func101, Tryd.ntmps101
  go_upto_region 1 with fail
  obtain ⟨V, hV⟩ : ∃ V, (w.alloc (Obj.cells (mcA x (.slice b1 x.m.rom.length p1) (.slice b2 x.m.ram.length p2) vd ve) 41)).alloc (Obj.cells #[.int .i64 kk, .int .i64 a, .int .i64 b] 108) = V := ⟨_, rfl⟩
  rw [hV] at q q2 hB ⊢
  clear hV
  have x1 := hid (mc_mem q)
  have y0 : _ = some (Value.int .i64 kk) := q2.cell 0
  have y1 : _ = some (Value.int .i64 a) := q2.cell 1
  clear q q2
  rcases (show (kk = 1 ∨ kk = 2 ∨ kk = 3) ∨ (kk = 4 ∨ kk = 5) by omega) with hk | hk
  · have hZ := hZ1.out hk
    clear hZ1 hZ2
    cases hd : decide (bankI x.m.page a = 1 ∨ bankI x.m.page a = 3)
    · rw [hd, if_neg (by decide)] at hZ
      rw [hd] at hs
      replace hZ := hid hZ
      clear hd
      rcases hk with rfl | rfl | rfl
      all_goals
        go_wp2_with (first | (guard_target = wpList _ _ _ (Oper.mk _ (Op.load 30 _) _ _ _ (some _) :: _) _ _; refine ld_wantM 30 _ rfl w.heap.size 14 rfl (by kernel_rfl) (mcC (.slice b1 x.m.rom.length p1) (.slice b2 x.m.ram.length p2) x.m) _ x1.out Tryd.underlying30 rfl (szMe _ _ _) ?_; simp only [Act.put, List.setIfInBounds_toArray, List.set_cons_zero, List.set_cons_succ]))
        refine (hs.out _).mono ?_
        rintro r w1 ⟨rfl, hb⟩
        have hb := hid hb
        go_wp2_with fail
        go_ret
        exact ⟨ret_intM hZ.out.symm, new_trans hB.out hb.out⟩
    · rw [hd, if_pos rfl] at hZ
      rw [hd] at hs
      replace hZ := hid hZ
      clear hd
      rcases hk with rfl | rfl | rfl
      all_goals
        go_wp2_with (first | (guard_target = wpList _ _ _ (Oper.mk _ (Op.load 30 _) _ _ _ (some _) :: _) _ _; refine ld_wantM 30 _ rfl w.heap.size 14 rfl (by kernel_rfl) (mcC (.slice b1 x.m.rom.length p1) (.slice b2 x.m.ram.length p2) x.m) _ x1.out Tryd.underlying30 rfl (szMe _ _ _) ?_; simp only [Act.put, List.setIfInBounds_toArray, List.set_cons_zero, List.set_cons_succ]))
        refine (hs.out _).mono ?_
        rintro r w1 ⟨rfl, hb⟩
        have hb := hid hb
        go_wp2_with fail
        refine (hw.out _).mono ?_
        rintro r w2 ⟨rfl, rfl⟩
        go_wp2_with fail
        go_ret
        exact ⟨ret_intM hZ.out.symm, new_trans hB.out hb.out⟩
  · have hZ := hZ2.out hk
    clear hZ1 hZ2
    rcases (show a % 2 = 0 ∨ a % 2 = 1 by omega) with ha | ha
    · rw [if_pos ha] at hZ
      replace hZ := hid hZ
      rcases hk with rfl | rfl
      all_goals
        go_wp2_with fail
        refine (hw.out _).mono ?_
        rintro r w2 ⟨rfl, rfl⟩
        go_wp2_with fail
        go_ret
        exact ⟨ret_intM hZ.out.symm, hB.out⟩
    · rw [if_neg (by omega)] at hZ
      replace hZ := hid hZ
      rcases hk with rfl | rfl
      all_goals
        go_wp2_with fail
        go_ret
        exact ⟨ret_intM hZ.out.symm, hB.out⟩
set_option maxRecDepth 100000 in
set_option maxHeartbeats 4000000 in
theorem lcycles_spec (u : Value) (l : List Evt) (w : World) (h : EvR w u l) (hl : l.length ≤ 1048576) : Calls Tryd.prog 53 #[u] w fun r w' => r = .returned (.bool (cysB l)) ∧ w' = w := by
  obtain ⟨a, c, rfl, _⟩ := id h
  have hno := hid (fun i hi h => show cysB l = false from by unfold cysB; rw [cysA_no (l := l) (i := i) hi h]; rfl)
  have hyes : Hid ((∀ i, i < l.length → cyOk (l.getD i e0) = true) → cysB l = decide ((l.length : Int) ≤ 20)) := fun h => by
    unfold cysB
    rw [(cysA_iff l).2 h, Bool.true_and, decide_eq_decide]
    omega
  generalize cysB l = Q at *
  replace h := hid h
  go_enter Tryd.func53, Tryd.ntmps53
  go_wp2
  go_loop [3] (fun i => ∃ k : Nat, k ≤ l.length ∧ i = .int .i64 k ∧ ∀ j, j < k → cyOk (l.getD j e0) = true) (fun i => l.length - (intOf i).toNat)
  case atStart => exact ⟨0, by omega, rfl, fun j hj => by omega⟩
  case round =>
    obtain ⟨k, hk, rfl, hj⟩ := hrel
    by_cases hlt : k < l.length
    · obtain ⟨g, o, rfl, y0, y1, y2⟩ := h.out.at hlt
      obtain ⟨t1, t2, t3, hE⟩ : ∃ b1 b2 b3, l.getD k e0 = ⟨b1, b2, b3⟩ := ⟨(l.getD k e0).t, (l.getD k e0).k, (l.getD k e0).v, rfl⟩
      rw [hE] at y0 y1 y2
      simp only [] at y0 y1 y2
      have hsn := hid (fun h => hno.out k hlt h)
      have hjn : Hid (cyOk ⟨t1, t2, t3⟩ = true → ∀ j, j < k + 1 → cyOk (l.getD j e0) = true) := fun h j hj1 => by
        rcases Nat.lt_or_ge j k with h1 | h1
        · exact hj j h1
        · have : j = k := by omega
          rw [this, hE]; exact h
      rw [hE] at hsn
      clear hE hj hno hyes
      cases k1 : inB t1 1 5
      · have hfin := hid (hsn.out (by unfold cyOk; rw [k1]; rfl))
        clear hsn hjn
        go_wp2_with (first | (go_at_call 99; refine (in_spec _ _ _ _).mono ?_; rintro r w' ⟨rfl, rfl⟩; rw [k1]))
        go_ret
        exact ⟨ret_bool hfin.out.symm, rfl⟩
      cases k2 : inB t2 0 255
      · have hfin := hid (hsn.out (by unfold cyOk; rw [k1, k2]; rfl))
        clear hsn hjn
        go_wp2_with (first | (go_at_call 99; refine (in_spec _ _ _ _).mono ?_; rintro r w' ⟨rfl, rfl⟩; rw [k1]) | (go_at_call 66; refine (byteM_spec _ _).mono ?_; rintro r w' ⟨rfl, rfl⟩; rw [k2]))
        go_ret
        exact ⟨ret_bool hfin.out.symm, rfl⟩
      cases k3 : inB t3 0 255
      · have hfin := hid (hsn.out (by unfold cyOk; rw [k1, k2, k3]; rfl))
        clear hsn hjn
        go_wp2_with (first | (go_at_call 99; refine (in_spec _ _ _ _).mono ?_; rintro r w' ⟨rfl, rfl⟩; rw [k1]) | (go_at_call 66; refine (byteM_spec _ _).mono ?_; rintro r w' ⟨rfl, rfl⟩; first | rw [k2] | rw [k3]))
        go_ret
        exact ⟨ret_bool hfin.out.symm, rfl⟩
      · have hfin := hid (hjn.out (by unfold cyOk; rw [k1, k2, k3]; rfl))
        clear hsn hjn
        go_wp2_with (first | (go_at_call 99; refine (in_spec _ _ _ _).mono ?_; rintro r w' ⟨rfl, rfl⟩; rw [k1]) | (go_at_call 66; refine (byteM_spec _ _).mono ?_; rintro r w' ⟨rfl, rfl⟩; first | rw [k2] | rw [k3]))
        go_round
        case rel => exact ⟨k + 1, by omega, by go_num, hfin.out⟩
        case measure => simp [intOf]; omega
    · obtain rfl : k = l.length := by omega
      have hfin := hid (hyes.out hj)
      clear hno hyes hj
      go_wp2
      go_ret
      exact ⟨ret_bool hfin.out.symm, rfl⟩
theorem exec_load {P : Program} {ρ : Operand → Value} {op : Oper} {ty : TypeId} {x : Operand} (ho : op.op = .load ty x) {u V : Value} (hx : ρ x = u) {W : World} (h : (Instr.loadAt ty u).run P W = .ok V W) : (execOp ρ op).run P W = .ok (.value V) W := by
  unfold execOp
  simp only [ho, hx, Sem.run_bind, Sem.run_pure, Result.andThen_ok, h]
theorem ldMc {W : World} {b : Nat} {x : Mc} {vr vm vd ve : Value} (h : Blk W b (mcA x vr vm vd ve)) : (Instr.loadAt 41 (.pointer (some ⟨b, 0, none⟩))).run Tryd.prog W = .ok (mcV x vr vm vd ve) W :=
  run_loadAt_mid W b 0 41 (mcA x vr vm vd ve).toList _ (mc_all h) Tryd.underlying41 rfl (szMc x vr vm vd ve)
theorem MLk.mac {w W : World} {x : Mc} {vr vm vd ve : Value} (hq : MLk w W x vr vm vd ve) : MacR (fun _ => false) W (mcV x vr vm vd ve) x := ⟨vr, vm, vd, ve, rfl, hq.m, hq.d.mono (fun b i u hu => by rw [veil_cell]; exact hu), hq.e.mono (fun b i u hu => by rw [veil_cell]; exact hu)⟩
set_option maxRecDepth 100000 in
set_option maxHeartbeats 4000000 in
theorem ltime_spec {p : Nat → Bool} (x : Mc) (v u : Value) (l : List Evt) (w : World) (h : MacR p w v x) (hu : EvR w u l) (hc : cysA l = true) (hl : l.length ≤ 4096) (t0 : 0 ≤ x.t) (t1 : x.t ≤ 1000) : Calls Tryd.prog 54 #[v, u] w fun r w' => r = .returned (.int .i64 (x.time (tri l))) ∧ Below w.heap.size w w' := by
  obtain ⟨vr, vm, vd, ve, rfl, hm, hd, he⟩ := h
  have hL := hid (MLk.start hm (RowR.mono hd (veil_le w p)) he.unveil 41)
  have hu2 := hid (fun W (hb : Below w.heap.size w W) => hu.below hb)
  obtain ⟨a, c, rfl, _⟩ := id hu
  have hT0 := hid (atT_zero x.m.page l x.t)
  have hTn := hid (show x.time (tri l) = atT x.m.page l x.t l.length - x.t from by unfold Mc.time; rw [atT_all])
  have hTs := hid (fun k hk => atT_succ x.m.page (l := l) x.t (k := k) hk)
  have hTb := hid (fun k hk => atT_bd x.m.page l x.t k hk)
  have hca := hid ((cysA_iff l).1 hc)
  generalize x.time (tri l) = Z at *
  clear hm hd he hc hu
  go_enter Tryd.func54, Tryd.ntmps54
  go_upto_region 1 with fail
  obtain ⟨V, hV⟩ : ∃ V, w.alloc (Obj.cells (mcA x vr vm vd ve) 41) = V := ⟨_, rfl⟩
  rw [hV] at hL ⊢
  clear hV
  have x1 : _ = some (Value.int .i64 x.t) := hL.out.q.cell 53
  go_wp2_with fail
  clear x1
  go_loopw [5, 6] (fun s i wr => ∃ k : Nat, k ≤ l.length ∧ s = .int .i64 (atT x.m.page l x.t k) ∧ i = .int .i64 k ∧ MLk w wr x vr vm vd ve) (fun _ i _ => l.length - (intOf i).toNat)
  case atStart => exact ⟨0, by omega, by rw [hT0.out], rfl, hL.out⟩
  case round =>
    obtain ⟨k, hk, rfl, rfl, hL⟩ := hrel
    have hbd := hTb.out k hk
    by_cases hlt : k < l.length
    · have hs := hid (hTs.out k hlt)
      obtain ⟨k1, k2, k3⟩ := (cyOk_iff _).1 (hca.out k hlt)
      obtain ⟨b1, b2, b3, hE⟩ : ∃ b1 b2 b3, l.getD k e0 = ⟨b1, b2, b3⟩ := ⟨(l.getD k e0).t, (l.getD k e0).k, (l.getD k e0).v, rfl⟩
      obtain ⟨g, o, rfl, _⟩ := (hu2.out _ hL.bel).at hlt
      have hev : Hid (∀ W, MLk w W x vr vm vd ve → W.cell? ⟨g, o + k * 3, none⟩ = some (.int .i64 b1) ∧ W.cell? ⟨g, o + k * 3 + 1, none⟩ = some (.int .i64 b2) ∧ W.cell? ⟨g, o + k * 3 + 2, none⟩ = some (.int .i64 b3)) := fun W hW => by
        obtain ⟨_, _, ee, d0, d1, d2⟩ := (hu2.out _ hW.bel).at hlt
        cases ee
        rw [hE] at d0 d1 d2
        exact ⟨d0, d1, d2⟩
      rw [hE] at hs k1 k2 k3
      simp only [] at hs k1 k2 k3
      generalize atT x.m.page l x.t k = s at *
      have hw := hid (fun W (hq : MLk w W x vr vm vd ve) => lwait_spec x (mcV x vr vm vd ve) b1 b2 b3 s W hq.mac k1 k2.1 k2.2 (by omega))
      have hln := hid (fun W => llen_spec b1 W k1)
      have w1 := wtC_bd x.m.page b1 b2 s
      have w2 := lnC_bd b1
      generalize wtC x.m.page b1 b2 s = z1 at *
      generalize lnC b1 = z2 at *
      clear hca hTb hTs hE k1 k2 k3
      have o1 : -9223372036854775808 ≤ z1 + z2 ∧ z1 + z2 ≤ 9223372036854775807 := by omega
      have o2 : -9223372036854775808 ≤ s + (z1 + z2) ∧ s + (z1 + z2) ≤ 9223372036854775807 := by omega
      obtain ⟨o1a, o1b⟩ := o1
      have v1 : IntKind.i64.wrap (z1 + z2) = z1 + z2 := by rw [IntKind.wrap_i64]; omega
      have v2 : IntKind.i64.wrap (s + (z1 + z2)) = s + (z1 + z2) := by rw [IntKind.wrap_i64]; omega
      obtain ⟨o2a, o2b⟩ := o2
      replace hL := hid hL
      go_upto_region 5 with fail
      refine calm_regionK 17 (fun W => Hid (MLk w W x vr vm vd ve)) (fun _ => True) (by kernel_rfl) (by kernel_rfl) (by kernel_rfl) (by kernel_rfl) (by kernel_rfl) (by kernel_rfl) (hL.out.drew) ?_
      refine calm_take (v := ?_) (by decide) (by kernel_rfl) (by kernel_rfl) ?_ ?_; rotate_left; (focus (intro W hW; obtain ⟨d0, d1, d2⟩ := hev.out W hW.out; go_simp; first | done | with_reducible rfl)); (try simp only [Act.put, List.setIfInBounds_toArray, List.set_cons_zero, List.set_cons_succ])
      refine calm_take (v := mcV x vr vm vd ve) (by decide) (by kernel_rfl) (by kernel_rfl) ?_ ?_; (focus (intro W hW; exact exec_load rfl rfl (ldMc hW.out.q))); (try simp only [Act.put, List.setIfInBounds_toArray, List.set_cons_zero, List.set_cons_succ])
      iterate 5 (refine calm_take (v := ?_) (by decide) (by kernel_rfl) (by kernel_rfl) ?_ ?_; rotate_left; (focus (intro W hW; obtain ⟨d0, d1, d2⟩ := hev.out W hW.out; go_simp; first | done | with_reducible rfl)); (try simp only [Act.put, List.setIfInBounds_toArray, List.set_cons_zero, List.set_cons_succ]))
      refine calm_call (f := 101) (args := #[mcV x vr vm vd ve, evV ⟨b1, b2, b3⟩, .int .i64 s]) (.int .i64 z1) (by decide) (by kernel_rfl) (by kernel_rfl) ?_ ?_ ?_; (focus (intro W; go_simp; first | done | with_reducible rfl)); (focus (intro W hW; exact (hw.out W hW.out).mono (fun r W' hr => ⟨hr.1, hW.out.below hr.2⟩))); (try simp only [Act.put, List.setIfInBounds_toArray, List.set_cons_zero, List.set_cons_succ])
      iterate 5 (refine calm_take (v := ?_) (by decide) (by kernel_rfl) (by kernel_rfl) ?_ ?_; rotate_left; (focus (intro W hW; obtain ⟨d0, d1, d2⟩ := hev.out W hW.out; go_simp; first | done | with_reducible rfl)); (try simp only [Act.put, List.setIfInBounds_toArray, List.set_cons_zero, List.set_cons_succ]))
      refine calm_call (f := 102) (args := #[.int .i64 b1]) (.int .i64 z2) (by decide) (by kernel_rfl) (by kernel_rfl) ?_ ?_ ?_; (focus (intro W; go_simp; first | done | with_reducible rfl)); (focus (intro W hW; exact (hln.out W).mono (fun r W' hr => ⟨hr.1, hW.out.below hr.2⟩))); (try simp only [Act.put, List.setIfInBounds_toArray, List.set_cons_zero, List.set_cons_succ])
      iterate 3 (refine calm_take (v := ?_) (by decide) (by kernel_rfl) (by kernel_rfl) ?_ ?_; rotate_left; (focus (intro W hW; obtain ⟨d0, d1, d2⟩ := hev.out W hW.out; go_simp; first | done | with_reducible rfl)); (try simp only [Act.put, List.setIfInBounds_toArray, List.set_cons_zero, List.set_cons_succ]))
      refine calm_end (fun W hW => ?_)
      replace hL := hid (show MLk w W x vr vm vd ve from hW)
      clear hW
      go_wp2
      go_roundw
      case rel => exact ⟨k + 1, by omega, congrArg (Value.int .i64) (by have := hs.out; omega), by go_num, hL.out⟩
      case measure => simp [intOf]; omega
    · obtain rfl : k = l.length := by omega
      have x1 : _ = some (Value.int .i64 x.t) := hL.q.cell 53
      generalize atT x.m.page l x.t l.length = s at *
      have o1a : -9223372036854775808 ≤ s - x.t := by omega
      have o1b : s - x.t ≤ 9223372036854775807 := by omega
      replace hL := hid hL
      go_wp2
      go_ret
      exact ⟨ret_intM hTn.out.symm, hL.out.bel⟩
def cyt2 (x : Mc) (l : List Evt) : Int × Int := if 4096 < l.length then (0, 2) else if okMc x = true ∧ cysB l = true then (x.time (tri l), 0) else (0, 1)
set_option maxRecDepth 100000 in
set_option maxHeartbeats 4000000 in
theorem lcyt_spec {p : Nat → Bool} (x : Mc) (v u : Value) (l : List Evt) (w : World) (h : MacR p w v x) (hf : FitMc x) (hu : EvR w u l) (hl : l.length ≤ 1048576) : Calls Tryd.prog 18 #[v, u] w fun r w' => r = .returned (.tuple #[.int .i64 (cyt2 x l).1, .int .i64 (cyt2 x l).2]) ∧ Below w.heap.size w w' := by
  obtain ⟨vr, vm, vd, ve, rfl, hm, hd, he⟩ := h
  have hL := hid (MLk.start hm (RowR.mono hd (veil_le w p)) he.unveil 41)
  have hu2 := hid (fun W (hb : Below w.heap.size w W) => hu.below hb)
  have hO := hid (fun W (hq : MLk w W x vr vm vd ve) => lmok_spec (p := fun _ => false) x (mcV x vr vm vd ve) W hq.mac hf)
  obtain ⟨a, c, rfl, _⟩ := id hu
  have hC := hid (fun W hb => lcycles_spec _ l W (hu2.out W hb) hl)
  have hT := hid (fun (h1 : okMc x = true) (h2 : cysA l = true) (h3 : l.length ≤ 4096) W (hq : MLk w W x vr vm vd ve) => ltime_spec x (mcV x vr vm vd ve) _ l W hq.mac (hu2.out W hq.bel) h2 h3 ((okMc_iff x).1 h1).1.t.1 (by have := ((okMc_iff x).1 h1).2.1; omega))
  clear hm hd he hu
  by_cases h4 : 4096 < l.length
  · have e : cyt2 x l = (0, 2) := by unfold cyt2; rw [if_pos h4]
    rw [e]
    clear e hO hC hT hu2 hf
    have h4i : (4096 : Int) < (l.length : Int) := by omega
    go_enter Tryd.func18, Tryd.ntmps18
    go_upto_region 1 with fail
    obtain ⟨V, hV⟩ : ∃ V, w.alloc (Obj.cells (mcA x vr vm vd ve) 41) = V := ⟨_, rfl⟩
    rw [hV] at hL ⊢
    clear hV
    go_wp2
    go_ret2
    exact ⟨rfl, hL.out.bel⟩
  have h4i : ¬ (4096 : Int) < (l.length : Int) := by omega
  have h4d : decide ((4096 : Int) < (l.length : Int)) = false := decide_eq_false h4i
  have h4n : decide (4096 < l.length) = false := decide_eq_false h4
  cases hok : okMc x
  · have e : cyt2 x l = (0, 1) := by unfold cyt2; rw [if_neg h4, if_neg (by rw [hok]; simp)]
    rw [e]
    rw [hok] at hO
    clear e hC hT hu2 hf
    replace h4 := hid h4
    go_enter Tryd.func18, Tryd.ntmps18
    go_upto_region 1 with fail
    obtain ⟨V, hV⟩ : ∃ V, w.alloc (Obj.cells (mcA x vr vm vd ve) 41) = V := ⟨_, rfl⟩
    rw [hV] at hL ⊢
    clear hV
    have x1 := hid (mc_all hL.out.q)
    go_wp2_with (refine wpList_load_mid rfl 41 _ rfl w.heap.size 0 rfl (mcA x vr vm vd ve).toList _ x1.out Tryd.underlying41 rfl (szMc _ _ _ _ _) ?_)
    refine (hO.out _ hL.out).mono ?_
    rintro r w1 ⟨rfl, hb⟩
    have hL := hid (hL.out.below hb)
    clear hb x1
    go_wp2_with fail
    go_ret2
    exact ⟨rfl, hL.out.bel⟩
  rw [hok] at hO
  cases hcy : cysB l
  · have e : cyt2 x l = (0, 1) := by unfold cyt2; rw [if_neg h4, if_neg (by rw [hcy]; simp)]
    rw [e]
    rw [hcy] at hC
    clear e hT hu2 hf
    replace h4 := hid h4
    go_enter Tryd.func18, Tryd.ntmps18
    go_upto_region 1 with fail
    obtain ⟨V, hV⟩ : ∃ V, w.alloc (Obj.cells (mcA x vr vm vd ve) 41) = V := ⟨_, rfl⟩
    rw [hV] at hL ⊢
    clear hV
    have x1 := hid (mc_all hL.out.q)
    go_wp2_with (refine wpList_load_mid rfl 41 _ rfl w.heap.size 0 rfl (mcA x vr vm vd ve).toList _ x1.out Tryd.underlying41 rfl (szMc _ _ _ _ _) ?_)
    refine (hO.out _ hL.out).mono ?_
    rintro r w1 ⟨rfl, hb⟩
    have hL := hid (hL.out.below hb)
    clear hb x1
    go_wp2_with (guard_target = wpList _ _ _ (Oper.mk _ _ _ _ _ (some _) :: _) _ _; refine wpList_step (fun _ _ => ?_); rw [if_pos (by kernel_rfl)]; go_simp)
    refine (hC.out _ hL.out.bel).mono ?_
    rintro r w2 ⟨rfl, rfl⟩
    go_wp2_with (guard_target = wpList _ _ _ (Oper.mk _ _ _ _ _ (some _) :: _) _ _; refine wpList_step (fun _ _ => ?_); rw [if_pos (by kernel_rfl)]; go_simp)
    go_ret2
    exact ⟨rfl, hL.out.bel⟩
  · have e : cyt2 x l = (x.time (tri l), 0) := by unfold cyt2; rw [if_neg h4, if_pos ⟨hok, hcy⟩]
    have hca : cysA l = true := by unfold cysB at hcy; simp only [Bool.and_eq_true] at hcy; exact hcy.1
    have hT := hid (hT.out hok hca (by omega))
    rw [e]
    rw [hcy] at hC
    clear e hu2 hf hca
    generalize x.time (tri l) = Z at *
    replace h4 := hid h4
    go_enter Tryd.func18, Tryd.ntmps18
    go_upto_region 1 with fail
    obtain ⟨V, hV⟩ : ∃ V, w.alloc (Obj.cells (mcA x vr vm vd ve) 41) = V := ⟨_, rfl⟩
    rw [hV] at hL ⊢
    clear hV
    have x1 := hid (mc_all hL.out.q)
    go_wp2_with (refine wpList_load_mid rfl 41 _ rfl w.heap.size 0 rfl (mcA x vr vm vd ve).toList _ x1.out Tryd.underlying41 rfl (szMc _ _ _ _ _) ?_)
    refine (hO.out _ hL.out).mono ?_
    rintro r w1 ⟨rfl, hb⟩
    have hL := hid (hL.out.below hb)
    clear hb x1
    go_wp2_with (guard_target = wpList _ _ _ (Oper.mk _ _ _ _ _ (some _) :: _) _ _; refine wpList_step (fun _ _ => ?_); rw [if_pos (by kernel_rfl)]; go_simp)
    refine (hC.out _ hL.out.bel).mono ?_
    rintro r w2 ⟨rfl, rfl⟩
    have x1 := hid (mc_all hL.out.q)
    go_wp2_with (first | (refine wpList_load_mid rfl 41 _ rfl w.heap.size 0 rfl (mcA x vr vm vd ve).toList _ x1.out Tryd.underlying41 rfl (szMc _ _ _ _ _) ?_) | (guard_target = wpList _ _ _ (Oper.mk _ _ _ _ _ (some _) :: _) _ _; refine wpList_step (fun _ _ => ?_); rw [if_pos (by kernel_rfl)]; go_simp))
    refine (hT.out _ hL.out).mono ?_
    rintro r w2 ⟨rfl, hb⟩
    have hL := hid (hL.out.below hb)
    clear hb x1
    go_wp2_with fail
    go_ret2
    exact ⟨rfl, hL.out.bel⟩
end Go.Proofs.YtifcdojaocndhaaDoor
