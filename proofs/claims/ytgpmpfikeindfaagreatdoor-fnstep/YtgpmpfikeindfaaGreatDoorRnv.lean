/- What a call on a processor answers: the processor, the memory, the cycles. -/
import Derived.Test.YtgpmpfikeindfaaGreatDoorV21
import Derived.Test.YtgpmpfikeindfaaGreatDoorV11
import Derived.Test.YtgpmpfikeindfaaGreatDoorV12
import Derived.Sort.CutIn
import Derived.Sort.AtCallIn
import Derived.BigRegion
namespace Go.Proofs.YtgpmpfikeindfaaGreatDoor
open Go.ChangeShapes Go.WideShapes Go.ChangeAt Go.RowKit Go.Shelf
attribute [local go_sem] Oper.semAt_some
set_option linter.unusedVariables false
set_option linter.unusedSimpArgs false

theorem five_new (w : World) (A0 A1 A2 A3 A4 : Array Value) (t0 t1 t2 t3 t4 : TypeId) :
    let W := ((((w.alloc (.cells A0 t0)).alloc (.cells A1 t1)).alloc (.cells A2 t2)).alloc (.cells A3 t3)).alloc (.cells A4 t4)
    W.heap.size = w.heap.size + 1 + 1 + 1 + 1 + 1 ∧ Blk W w.heap.size A0 ∧ Blk W (w.heap.size + 1) A1 ∧ Blk W (w.heap.size + 1 + 1) A2 ∧ Blk W (w.heap.size + 1 + 1 + 1) A3 ∧ Blk W (w.heap.size + 1 + 1 + 1 + 1) A4 ∧ Below w.heap.size w W := by
  intro W
  have q1 := Blk.new (w.alloc (.cells A0 t0)) A1 t1
  have q2 := Blk.new ((w.alloc (.cells A0 t0)).alloc (.cells A1 t1)) A2 t2
  have q3 := Blk.new (((w.alloc (.cells A0 t0)).alloc (.cells A1 t1)).alloc (.cells A2 t2)) A3 t3
  have q4 := Blk.new ((((w.alloc (.cells A0 t0)).alloc (.cells A1 t1)).alloc (.cells A2 t2)).alloc (.cells A3 t3)) A4 t4
  simp only [World.size_alloc] at q1 q2 q3 q4
  exact ⟨by simp [W], ((((Blk.new w A0 t0).alloc _).alloc _).alloc _).alloc _, ((q1.alloc _).alloc _).alloc _, (q2.alloc _).alloc _, q3.alloc _, q4, (((((Below.refl _ _).alloc (Nat.le_refl _) _).alloc (by simp) _).alloc (by simp; omega) _).alloc (by simp; omega) _).alloc (by simp; omega) _⟩
theorem put_other {W : World} {l : Nat} {o : Obj} {b : Nat} (h : b ≠ l) : (W.putObj l o).heap[b]? = W.heap[b]? := World.putObj_heap_other (by omega)
theorem put_size (W : World) (l : Nat) (o : Obj) : (W.putObj l o).heap.size = W.heap.size := by simp [World.putObj]
set_option maxHeartbeats 2000000 in
/-- the answer is laid down -/
theorem ans_fin {p : Par} {z : Kps} {W : World} {x : Mx} {cv : Value} (h : CpSt p z W x cv) (hok : okM x.m = true) (b g : Nat) (R' : Loop) (L1 L2 : List Value) (h1 : (b, zC) ∈ z) (h2 : (g, zM) ∈ z) (hbg : b ≠ g) (lb : p.w.heap.size ≤ b) (lg : p.w.heap.size ≤ g) :
    let W9 := W.putObj p.L (.loop R')
    let WF := (sets (sets W9 b 0 L1) g 0 L2).drew
    (Blk W9 p.Y (proA x.c p.B p.n p.I p.V) ∧ Blk W9 p.B #[.slice (some ⟨p.r, 0, none⟩) 64 64, .slice (some ⟨p.s, 0, none⟩) 4 4, .int .i64 x.m.page, .int .i64 x.m.screen, .bool x.m.locked, .pointer (some ⟨p.Q 0, 0, none⟩), .pointer (some ⟨p.Q 1, 0, none⟩), .pointer (some ⟨p.Q 2, 0, none⟩), .pointer (some ⟨p.Q 3, 0, none⟩)] ∧ Blk W9 p.O #[cv] ∧ Blk W9 b zC ∧ Blk W9 g zM) ∧
    Blk WF b (setsA 0 L1 zC) ∧ Blk WF g (setsA 0 L2 zM) ∧ WF.heap[p.D]? = some (.deferred (some [])) ∧ Ans p.w (WF.putObj p.D (.deferred none)) x (memV (.slice (some ⟨p.r, 0, none⟩) 64 64) (.slice (some ⟨p.s, 0, none⟩) 4 4) x.m.page x.m.screen x.m.locked) cv := by
  intro W9 WF
  obtain ⟨⟨a1, a2, a3, a4, a5⟩, ⟨b1, b2, b3, b4⟩, ⟨c1, c2, c3⟩, ⟨d1, d2⟩, f1⟩ := h.sep.apart
  obtain ⟨m1, m2, m3, m4, m5, m6⟩ := p.mem
  obtain ⟨q1, k1, k2, k3⟩ := h.keep b zC h1
  obtain ⟨q2, l1, l2, l3⟩ := h.keep g zM h2
  have hBL : p.B ≠ p.L := fun e => h.sep.nb _ m5 (e ▸ .inr (.inl rfl))
  have s9 : W9.heap.size = W.heap.size := put_size _ _ _
  have p9 : ∀ y, y ≠ p.L → W9.heap[y]? = W.heap[y]? := fun y hy => put_other hy
  have q19 : Blk W9 b zC := q1.same (p9 _ (fun e => k1 (e ▸ m5)))
  have q29 : Blk W9 g zM := q2.same (p9 _ (fun e => l1 (e ▸ m5)))
  have g1 := sets_grown b L1 W9 0
  have g2 := sets_grown g L2 (sets W9 b 0 L1) 0
  have kF : ∀ y, y < W.heap.size → y ≠ p.L → y ≠ b → y ≠ g → WF.heap[y]? = W.heap[y]? := fun y hy h1 h2 h3 => (g2.block y (Nat.lt_of_lt_of_le (by rw [s9]; exact hy) g1.size) (by simp; exact h3)).trans ((g1.block y (by rw [s9]; exact hy) (by simp; exact h2)).trans (p9 y h1))
  have sF : W.heap.size ≤ WF.heap.size := by
    have := Nat.le_trans g1.size g2.size
    rw [s9] at this
    exact this
  have hD : WF.heap[p.D]? = some (.deferred (some [])) := (kF _ (h.lt (.inl m6)) f1.symm (fun e => k1 (e ▸ m6)) (fun e => l1 (e ▸ m6))).trans h.dfr
  have kE : ∀ y, y < W.heap.size → y ≠ p.L → y ≠ b → y ≠ g → y ≠ p.D → (WF.putObj p.D (.deferred none)).heap[y]? = W.heap[y]? := fun y hy h1 h2 h3 h4 => (put_other h4).trans (kF y hy h1 h2 h3)
  refine ⟨⟨h.blk.same (p9 _ a4), h.brd.blk.same (p9 _ hBL), h.box.same (p9 _ b3), q19, q29⟩, ?_, ?_, hD, ?_⟩
  · exact ((sets_blk b L1 W9 0 zC q19).grown g2 (by simp; exact hbg)).drew
  · exact (sets_blk g L2 (sets W9 b 0 L1) 0 zM (q29.grown g1 (by simp; exact fun e => hbg e.symm))).drew
  · refine ⟨⟨p.lo, p.hi, ?_, h.sep.flo, by rw [put_size]; exact Nat.le_trans h.hil sF, fun y hy => ?_⟩, ?_, ?_⟩
    · have hm := h.brd.lies.memO
      have hlr : x.m.rom.length = 64 := bytes_len (ok_parts hok).1
      have hlm : x.m.ram.length = 4 := (ok_parts hok).2.1
      rw [hlr, hlm] at hm
      refine hm.kept (fun y hy1 hy2 => kE y (Nat.lt_of_lt_of_le hy2 h.hil) ?_ ?_ ?_ ?_)
      · exact fun e => h.sep.nb _ m5 (e ▸ .inl ⟨hy1, hy2⟩)
      · exact fun e => k2 (e ▸ .inl ⟨hy1, hy2⟩)
      · exact fun e => l2 (e ▸ .inl ⟨hy1, hy2⟩)
      · exact fun e => h.sep.nb _ m6 (e ▸ .inl ⟨hy1, hy2⟩)
    · have := (h.ne y hy).2
      unfold brdB at this
      simp only [not_or] at this
      omega
    · rcases h.own.2 with ⟨rfl, e⟩ | ⟨y, cap, cur, rfl, hgb, hc, hr⟩
      · exact ⟨h.own.1, .inl ⟨rfl, e⟩⟩
      · refine ⟨h.own.1, .inr ⟨y, cap, cur, rfl, hgb, ?_, hr⟩⟩
        have hn := (h.ne y rfl).1
        rw [kE y (Array.getElem?_eq_some_iff.1 hc).1 (fun e => hn (e ▸ m5)) (fun e => k3 (by rw [← e]; rfl)) (fun e => l3 (by rw [← e]; rfl)) (fun e => hn (e ▸ m6))]
        exact hc
    · refine h.bel.trans ⟨?_, ?_, ?_, by rw [put_size]; exact sF, fun y hy => ?_⟩
      · exact (g2.os.trans g1.os)
      · exact (g2.tape.trans g1.tape)
      · exact (g2.output.trans g1.output)
      · have hf1 := h.sep.far _ m5
        have hf2 := h.sep.far _ m6
        exact kE y (Nat.lt_of_lt_of_le hy h.bel.size) (by omega) (by omega) (by omega) (by omega)
set_option maxRecDepth 100000 in
set_option maxHeartbeats 2000000 in
theorem answer_impl (w0 : World) (wf : FuncId) (Y B lo hi r s n : Nat) (G Q : Nat → Nat) (c : Cp) (M : Mem) (X : Mx) (w : World) (hok : okM M = true) (hokX : okM X.m = true) (hlen : X.cy.length ≤ 1000)
    (en : ∀ args w, (callFunc wf args).run Tryz.prog w = .ok (.enter wf args) w) (hY : Blk w Y (proT c B n .nilFunc)) (hB : Brd w lo hi B r s G Q M) (hYb : ¬ brdB lo hi B Q Y) (hYf : w0.heap.size ≤ Y) (hlo : w0.heap.size ≤ lo) (hbel : Below w0.heap.size w0 w)
    (hw : ∀ (p : Par) (z : Kps), Tells p → p.w = w0 → p.Y = Y → p.n = n → ∀ W2, At p z W2 ⟨c, M, []⟩ → Calls Tryz.prog wf #[.pointer (some ⟨Y, 0, none⟩)] W2 fun e W' => e = .returned (.tuple #[]) ∧ At p z W' X) :
    Calls Tryz.prog 21 #[.pointer (some ⟨Y, 0, none⟩), .func (.func wf) #[.pointer (some ⟨Y, 0, none⟩)] #[]] w fun e W' => ∃ u cv, e = .returned (.tuple #[cpV X.c, u, cv, .int .i64 0]) ∧ Ans w0 W' X u cv := by
  refine (callsIn_wide (n := 3)).1 (callsIn_of_wp_marks Tryz.func21 rfl trivial ?_ rfl)
  simp only [Tryz.ntmps21, List.size_toArray, List.length_cons, List.length_nil, Nat.reduceAdd, Nat.reduceSub, Array.replicate_succ, Array.replicate_zero, List.push_toArray, List.append_toArray, List.nil_append, List.cons_append]
  replace hw := hid hw
  replace hY := hid hY
  replace hB := hid hB
  gi_wp2_with fail
  refine ⟨trivial, ?_⟩
  refine (callsIn_wide.2 (cycles_impl Y _ _ ⟨_, _, rfl⟩)).mono ?_
  rintro e w' ⟨rfl, hw'⟩
  have hF := five_new w zC zM #[.slice none 0 0] #[.pointer (some ⟨Y, 0, none⟩)] #[.func (.func wf) #[.pointer (some ⟨Y, 0, none⟩)] #[]] 25 30 33 53 1
  rw [← hw'] at hF
  replace hF := hid hF
  clear hw'
  gi_wp2_with fail
  refine wpIn_rangeFunc ?_
  intro fn hfn
  obtain ⟨hsz, q0, q1, q2, q3, q4, hb5⟩ := hF.out
  obtain ⟨R, hR⟩ : ∃ R : Loop, R = { state := .ready, pending := none, fn := fn, tmps := ansT (.pointer (some ⟨Y, 0, none⟩)) (.func (.func wf) #[.pointer (some ⟨Y, 0, none⟩)] #[]) undef undef (.pointer (some ⟨w.heap.size, 0, none⟩)) (.pointer (some ⟨w.heap.size + 1, 0, none⟩)) (.slice none 0 0) (.int .i64 0) (.pointer (some ⟨Y, 0, none⟩)) (.func (.func wf) #[.pointer (some ⟨Y, 0, none⟩)] #[]) (.func (.func 62) #[] #[.pointer (some ⟨w.heap.size + 1 + 1 + 1, 0, none⟩), .pointer (some ⟨w.heap.size + 1 + 1 + 1 + 1, 0, none⟩)]) (w.heap.size + 1 + 1) undef undef, params := #[13], assign := ansAs, body := ansBd, defers := w'.heap.size } := ⟨_, rfl⟩
  obtain ⟨p, hp⟩ : ∃ p : Par, p = { w := w0, Y := Y, B := B, O := w.heap.size + 1 + 1, I := w'.heap.size + 1 + 1 + 1, V := w'.heap.size + 1 + 1, L := w'.heap.size + 1, D := w'.heap.size, lo := lo, hi := hi, r := r, s := s, n := n, G := G, Q := Q, R := R } := ⟨_, rfl⟩
  refine ⟨w'.heap.size + 1, [{ target := .collected w'.heap.size, args := #[] }], (w'.alloc (.deferred (some []))).alloc (.loop R), { target := .fn (.func 62) #[.pointer (some ⟨w.heap.size + 1 + 1 + 1, 0, none⟩), .pointer (some ⟨w.heap.size + 1 + 1 + 1 + 1, 0, none⟩)], args := #[.func (.yield (w'.heap.size + 1)) #[] #[]] }, (w'.alloc (.deferred (some []))).alloc (.loop R), 62, #[.func (.yield (w'.heap.size + 1)) #[] #[], .pointer (some ⟨w.heap.size + 1 + 1 + 1, 0, none⟩), .pointer (some ⟨w.heap.size + 1 + 1 + 1 + 1, 0, none⟩)], (w'.alloc (.deferred (some []))).alloc (.loop R), ?_, ?_, fun _ _ => trivial, ?_, fun _ => by omega, ?_⟩
  · rw [hR]
    exact run_enterLoop_outer _ _ _ _ _
  · simp [resolve, go_sem]
  · simp [invoke, go_sem, enters_of Tryz.func62 (by kernel_rfl) rfl]
  have hb7 : Below w'.heap.size w' ((w'.alloc (.deferred (some []))).alloc (.loop R)) := ((Below.refl _ _).alloc (Nat.le_refl _) _).alloc (by simp) _
  have hL7 : ((w'.alloc (.deferred (some []))).alloc (.loop R)).heap[w'.heap.size + 1]? = some (.loop R) := by
    have := World.alloc_heap_new (w'.alloc (.deferred (some []))) (.loop R)
    rwa [World.size_alloc] at this
  have hD7 : ((w'.alloc (.deferred (some []))).alloc (.loop R)).heap[w'.heap.size]? = some (.deferred (some [])) := (Below.heap_alloc _ _ _ (by simp)).trans (World.alloc_heap_new w' _)
  have hs7 : ((w'.alloc (.deferred (some []))).alloc (.loop R)).heap.size = w'.heap.size + 1 + 1 := by simp
  obtain ⟨W7, hW7⟩ : ∃ W7, (w'.alloc (.deferred (some []))).alloc (.loop R) = W7 := ⟨_, rfl⟩
  rw [hW7] at hb7 hL7 hD7 hs7 ⊢
  clear hW7
  have hbw7 : Below w.heap.size w W7 := hb5.trans (hb7.mono hb5.size)
  have hYl := hY.out.lt
  have hhi : hi ≤ w.heap.size := Nat.le_trans hB.out.ord.1 (Nat.le_of_lt hB.out.blk.lt)
  have hbl : ∀ b, brdB lo hi B Q b → b < w.heap.size := fun b hb => hB.out.lt hhi hb
  have hw0 := hbel.size
  have hS : Sep p := by
    subst hp
    refine ⟨?_, fun b hb hh => ?_, fun b hb => ?_, hlo⟩
    · show ([Y, w.heap.size + 1 + 1, w'.heap.size + 1 + 1 + 1, w'.heap.size + 1 + 1, w'.heap.size + 1, w'.heap.size] : List Nat).Nodup
      simp only [List.nodup_cons, List.mem_cons, List.not_mem_nil, or_false, not_false_eq_true, List.nodup_nil, and_true, not_or]
      omega
    · have := hbl b hh
      have hb : b ∈ [Y, w.heap.size + 1 + 1, w'.heap.size + 1 + 1 + 1, w'.heap.size + 1 + 1, w'.heap.size + 1, w'.heap.size] := hb
      simp only [List.mem_cons, List.not_mem_nil, or_false] at hb
      rcases hb with e | e | e | e | e | e
      · rw [e] at hh; exact hYb hh
      all_goals omega
    · have hb : b ∈ [Y, w.heap.size + 1 + 1, w'.heap.size + 1 + 1 + 1, w'.heap.size + 1 + 1, w'.heap.size + 1, w'.heap.size] := hb
      show w0.heap.size ≤ b
      simp only [List.mem_cons, List.not_mem_nil, or_false] at hb
      omega
  have hpR : p.R = R ∧ p.w = w0 ∧ p.Y = Y ∧ p.n = n ∧ p.O = w.heap.size + 1 + 1 ∧ p.L = w'.heap.size + 1 ∧ p.D = w'.heap.size ∧ p.V = w'.heap.size + 1 + 1 ∧ p.I = w'.heap.size + 1 + 1 + 1 := by subst hp; exact ⟨rfl, rfl, rfl, rfl, rfl, rfl, rfl, rfl, rfl⟩
  have hpB : p.lo = lo ∧ p.hi = hi ∧ p.B = B ∧ p.r = r ∧ p.s = s ∧ p.G = G ∧ p.Q = Q := by subst hp; exact ⟨rfl, rfl, rfl, rfl, rfl, rfl, rfl⟩
  obtain ⟨e1, e2, e3, e4, e5, e6, e7, e8, e9⟩ := hpR
  obtain ⟨o1, o2, o3, o4, o5, o6, o7⟩ := hpB
  clear hp
  have hT : Tells p := tells_of p (yields_of p fn _ _ _ _ _ _ _ _ _ _ _ _ _ (by rw [e1, hR, e5, e7]))
  have hz : ∀ b A, (b, A) ∈ [(w.heap.size, zC), (w.heap.size + 1, zM)] → Blk W7 b A ∧ b ∉ p.bs ∧ ¬ brdB p.lo p.hi p.B p.Q b := by
    intro b A hm
    rw [o1, o2, o3, o7]
    simp only [List.mem_cons, List.not_mem_nil, or_false, Prod.mk.injEq] at hm
    rcases hm with ⟨rfl, rfl⟩ | ⟨rfl, rfl⟩
    · exact ⟨q0.below hb7 q0.lt, by simp only [Par.bs, List.mem_cons, List.not_mem_nil, or_false]; omega, fun hh => by have := hbl _ hh; omega⟩
    · exact ⟨q1.below hb7 q1.lt, by simp only [Par.bs, List.mem_cons, List.not_mem_nil, or_false]; omega, fun hh => by have := hbl _ hh; omega⟩
  have hclo := clo_impl p [(w.heap.size, zC), (w.heap.size + 1, zM)] wf (w.heap.size + 1 + 1 + 1) (w.heap.size + 1 + 1 + 1 + 1) W7 c M X en (by rw [e8, hs7]) (by rw [e9, hs7]) hS (by rw [e3, o3, e4]; exact hY.out.below hbw7 hYl) (by rw [o1, o2, o3, o4, o5, o6, o7]; exact hB.out.kept (fun b hh => hbw7.block b (hbl b hh))) (by rw [e5]; exact q2.below hb7 q2.lt) (by rw [e6, e1]; exact hL7) (by rw [e7]; exact hD7) (by rw [e2]; exact hbel.trans (hbw7.mono hw0)) (by rw [e3]; exact q3.below hb7 q3.lt) (by rw [e3]; exact q4.below hb7 q4.lt) (by rw [e3]; omega) hz (by rw [e3]; exact fun W2 h2 => hw.out p _ hT e2 e3 e4 W2 h2)
  rw [e6] at hclo
  refine (callsIn_wide.2 hclo).mono ?_
  rintro e W8 ⟨rfl, cv, hC⟩
  have hl8 := hC.loop
  rw [e6, e1] at hl8
  have hend := run_endLoop (P := Tryz.prog) hl8 (by rw [hR]; simp)
  have hpend : R.pending = none := by rw [hR]
  obtain ⟨⟨y1, y2, y3, y4, y5⟩, z1, z2, z3, z4⟩ := ans_fin hC hokX w.heap.size (w.heap.size + 1) { R with state := .exhausted } (cpuL X.c) (meL (.slice (some ⟨p.r, 0, none⟩) 64 64) (.slice (some ⟨p.s, 0, none⟩) 4 4) X.m) (by simp) (by simp) (by omega) (by rw [e2]; omega) (by rw [e2]; omega)
  rw [setsC] at z1
  rw [setsM] at z2
  rw [e6] at y1 y2 y3 y4 y5 z1 z2 z3 z4
  rw [e3] at y1
  rw [o3] at y1 y2
  rw [e5] at y3
  rw [e7] at z3 z4
  rw [e2] at z4
  rw [o4, o5] at y2 z1 z2 z3 z4
  have hYz : Y ≠ w.heap.size ∧ Y ≠ w.heap.size + 1 := by omega
  obtain ⟨W9, hW9⟩ : ∃ W9, W8.putObj (w'.heap.size + 1) (.loop { R with state := .exhausted }) = W9 := ⟨_, rfl⟩
  rw [hW9] at y1 y2 y3 y4 y5 z1 z2 z3 z4 hend
  refine ⟨R.pending, W9, hend, ?_⟩
  rw [hpend]
  obtain ⟨e9', cp9, hcv⟩ : ∃ a c9, cv = .slice a X.cy.length c9 := by
    rcases hC.own.2 with ⟨rfl, e⟩ | ⟨y, cap, cur, rfl, _⟩
    · exact ⟨none, 0, by rw [e]⟩
    · exact ⟨_, _, rfl⟩
  have hBl : B < w.heap.size := hB.out.blk.lt
  subst hcv
  clear hW9 hend hpend hl8 hC hclo hz hT hS hb7 hL7 hD7 hs7 hbw7 hbl q0 q1 q2 q3 q4 hb5 hF hw hY hB hR
  have x1 := y1.cell
  have x2 := y2.cell
  have x3 := y3.cell
  have x4 := y4.cell
  have f4 := y4.frozen
  have l4 := y4.lt
  have x5 := y5.cell
  have f5 := y5.frozen
  have l5 := y5.lt
  simp only [sets, cpuL, meL, Nat.zero_add, Nat.reduceAdd] at z1 z2 z3 z4
  replace z1 := hid z1
  replace z2 := hid z2
  replace z3 := hid z3
  replace z4 := hid z4
  clear y1 y2 y3 y4 y5
  have hDz : w.heap.size ≠ w'.heap.size ∧ w.heap.size + 1 ≠ w'.heap.size := by omega
  have hBz : B ≠ w.heap.size ∧ B ≠ w.heap.size + 1 := by omega
  clear e1 e2 e3 e4 e5 e6 e7 e8 e9 o1 o2 o3 o4 o5 o6 o7 hsz
  have hmx : Tryz.prog.follows .mixedOrders = true := by kernel_rfl
  gi_wp2_with fail
  refine wpIn_wide.2 ?_
  refine ans_ret Y B (w.heap.size + 1 + 1) w.heap.size (w.heap.size + 1) p.n p.I p.V _ _ _ _ _ _ X e9' X.cy.length cp9 _ _ W9 _ _ ⟨_, _, _, rfl⟩ ⟨_, _, _, rfl⟩ hYz.1 hYz.2 hBz.1 hBz.2 (by omega) (by omega) (by omega) x1 x2 x3 x4 f4 l4 x5 f5 l5 ?_
  intro tm t4 t5 t6 t7
  obtain ⟨WF, hWF⟩ : ∃ WF, (((((((((((((((((((W9.setCell ⟨w.heap.size, 0, none⟩ (.int .i64 (X.c.b : Int))).setCell ⟨w.heap.size, 1, none⟩ (.int .i64 (X.c.c : Int))).setCell ⟨w.heap.size, 2, none⟩ (.int .i64 (X.c.d : Int))).setCell ⟨w.heap.size, 3, none⟩ (.int .i64 (X.c.e : Int))).setCell ⟨w.heap.size, 4, none⟩ (.int .i64 (X.c.h : Int))).setCell ⟨w.heap.size, 5, none⟩ (.int .i64 (X.c.l : Int))).setCell ⟨w.heap.size, 6, none⟩ (.int .i64 0)).setCell ⟨w.heap.size, 7, none⟩ (.int .i64 (X.c.a : Int))).setCell ⟨w.heap.size, 8, none⟩ (.int .i64 (X.c.f : Int))).setCell ⟨w.heap.size, 9, none⟩ (.int .i64 (X.c.sp : Int))).setCell ⟨w.heap.size, 10, none⟩ (.int .i64 (X.c.pc : Int))).setCell ⟨w.heap.size, 11, none⟩ (.bool X.c.iff)).setCell ⟨w.heap.size, 12, none⟩ (.bool X.c.ei)).setCell ⟨w.heap.size, 13, none⟩ (.bool X.c.halt)).setCell ⟨w.heap.size + 1, 0, none⟩ ((.slice (some ⟨r, 0, none⟩) 64 64))).setCell ⟨w.heap.size + 1, 1, none⟩ ((.slice (some ⟨s, 0, none⟩) 4 4))).setCell ⟨w.heap.size + 1, 2, none⟩ (.int .i64 X.m.page)).setCell ⟨w.heap.size + 1, 3, none⟩ (.int .i64 X.m.screen)).setCell ⟨w.heap.size + 1, 4, none⟩ (.bool X.m.locked)).drew = WF := ⟨_, rfl⟩
  rw [hWF] at z1 z2 z3 z4 ⊢
  clear hWF x1 x2 x3 x4 f4 l4 x5 f5 l5
  have c4 := (z1.out.same (put_other (o := .deferred none) hDz.1)).cell
  have c5 := (z2.out.same (put_other (o := .deferred none) hDz.2)).cell
  gi_wp2
  refine ⟨by simp, .inl ⟨_, _, rfl, run_takeDeferred z3.out, ?_⟩⟩
  refine ⟨.tuple #[cpV X.c, memV (.slice (some ⟨r, 0, none⟩) 64 64) (.slice (some ⟨s, 0, none⟩) 4 4) X.m.page X.m.screen X.m.locked, .slice e9' X.cy.length cp9, .int .i64 0], ?_, _, _, rfl, z4.out⟩
  simp [results, Tryz.results21, go_sem, t4, t5, t6, t7, c4, c5]
end Go.Proofs.YtgpmpfikeindfaaGreatDoor
