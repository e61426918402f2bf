/- Expand: the whole function. -/
import Derived.Test.YtghcagibdcblnaaGreatDoorLsf
import Derived.Test.YtghcagibdcblnaaGreatDoorF25
import Derived.Test.YtghcagibdcblnaaGreatDoorF10
import Derived.OwnWalk
import Derived.Deep.RegionWith
namespace Go.Proofs.YtghcagibdcblnaaGreatDoor
open Go.ChangeShapes Go.WideShapes Go.ChangeAt Go.RowKit Go.Shelf
attribute [local go_sem] Oper.semAt_some
set_option linter.unusedVariables false
set_option linter.unusedSimpArgs false

theorem four_new (w : World) (A0 A1 A2 A3 : Array Value) (t0 t1 t2 t3 : TypeId) :
    let W := (((w.alloc (.cells A0 t0)).alloc (.cells A1 t1)).alloc (.cells A2 t2)).alloc (.cells A3 t3)
    W.heap.size = w.heap.size + 1 + 1 + 1 + 1 ∧ Blk W w.heap.size A0 ∧ Blk W (w.heap.size + 1) A1 ∧ Blk W (w.heap.size + 1 + 1) A2 ∧ Blk W (w.heap.size + 1 + 1 + 1) A3 ∧ Below w.heap.size w W := by
  intro W
  obtain ⟨h1, h2, h3, h4, h5⟩ := three_newL w A0 A1 A2 t0 t1 t2
  have q3 := Blk.new (((w.alloc (.cells A0 t0)).alloc (.cells A1 t1)).alloc (.cells A2 t2)) A3 t3
  have h5' := h5.alloc (o := .cells A3 t3) h5.size
  have hs : W.heap.size = w.heap.size + 1 + 1 + 1 + 1 := by simp [W]
  rw [h1] at q3
  exact ⟨hs, h2.alloc _, h3.alloc _, h4.alloc _, q3, h5'⟩
theorem ls_sink (p : Pg) (q : Pe) (e0 e1 e2 : Addr) (fn : FuncId) (a0 a1 a2 a7 a8 a9 a10 a11 a12 a13 a14 a15 a16 a19 a20 a21 a22 a23 a24 a25 a26 a27 a28 a29 a30 a31 a32 a33 a34 a35 a36 a37 a38 a39 x0 y0 : Value) (hR : p.R = { state := .ready, pending := none, fn := fn, tmps := lsT a0 a1 a2 a7 a8 a9 a10 a11 a12 a13 a14 a15 a16 a19 a20 a21 a22 a23 a24 a25 a26 a27 a28 a29 a30 a31 a32 a33 a34 a35 a36 a37 a38 a39 q.NB q.RL q.RE p.O x0 y0, params := #[17, 18], assign := lsAs, body := lsBd, defers := p.DF }) (hN : q.N ≤ 4096) : SinkE p.w.heap.size p.L q.N p.bs e0 e1 e2 (Se p q e0 e1 e2) (Xg p q) := by
  refine ⟨fun h k => ⟨h.s.cong k, h.k, h.lr, h.er⟩, fun h => h.s.lt, fun h => h.er.below h.s.bel, fun m W v acc b n h hn hle => ?_, fun m W v acc b n h hn hal hle => ?_, fun m W v acc h => ?_⟩
  · exact ls_ok p q e0 e1 e2 fn a0 a1 a2 a7 a8 a9 a10 a11 a12 a13 a14 a15 a16 a19 a20 a21 a22 a23 a24 a25 a26 a27 a28 a29 a30 a31 a32 a33 a34 a35 a36 a37 a38 a39 x0 y0 hR hN m b n h hn hle
  · exact ls_big p q e0 e1 e2 fn a0 a1 a2 a7 a8 a9 a10 a11 a12 a13 a14 a15 a16 a19 a20 a21 a22 a23 a24 a25 a26 a27 a28 a29 a30 a31 a32 a33 a34 a35 a36 a37 a38 a39 x0 y0 hR hN m b n h hn hal hle
  · exact ls_cut p q e0 e1 e2 fn a0 a1 a2 a7 a8 a9 a10 a11 a12 a13 a14 a15 a16 a19 a20 a21 a22 a23 a24 a25 a26 a27 a28 a29 a30 a31 a32 a33 a34 a35 a36 a37 a38 a39 x0 y0 hR m h
set_option maxRecDepth 100000 in
set_option maxHeartbeats 4000000 in
theorem exp_implE (t : ByteArray) (n : Int) (e0 e1 e2 : Addr) (w : World) (ht : t.size ≤ maxLen) (hE : Errs w e0 e1 e2) : Calls Tryz.prog 79 #[.string t, .int .i64 n] w fun e w' => e = .returned (.tuple #[.string (exp2 t n).1, .int .i64 (exp2 t n).2]) ∧ Below w.heap.size w w' := by
  unfold maxLen at ht
  unfold exp2
  have hB3 : ∀ x y : Value, Below w.heap.size w (((w.alloc (.cells #[.int .i64 n] 3)).alloc (.cells #[x] 9)).alloc (.cells #[y] 3)) := fun x y => (three_newL w _ _ _ _ _ _).2.2.2.2
  by_cases h1 : 65536 < t.size
  · rw [if_pos h1]
    refine (callsIn_wide (n := 5)).1 (callsIn_of_wp_marks Tryz.func79 rfl trivial ?_ rfl)
    simp only [Tryz.ntmps79, List.size_toArray, List.length_cons, List.length_nil, Nat.reduceAdd, Nat.reduceSub, Array.replicate_succ, Array.replicate_zero, List.push_toArray, List.append_toArray, List.nil_append, List.cons_append]
    gi_wp2
    refine ⟨.tuple #[.string eS0, .int .i64 2], ?_, rfl, ?_⟩
    · simp [results, Tryz.results79, go_sem]
    · exact hB3 _ _
  rw [if_neg h1]
  have hI := hid (fun W => withinL_impl n 0 4096 W)
  have hd1 : decide ((65536 : Int) < (t.size : Int)) = false := decide_eq_false (by omega)
  cases h2 : inB n 0 4096
  · rw [if_neg (by simp)]
    rw [h2] at hI
    refine (callsIn_wide (n := 5)).1 (callsIn_of_wp_marks Tryz.func79 rfl trivial ?_ rfl)
    simp only [Tryz.ntmps79, List.size_toArray, List.length_cons, List.length_nil, Nat.reduceAdd, Nat.reduceSub, Array.replicate_succ, Array.replicate_zero, List.push_toArray, List.append_toArray, List.nil_append, List.cons_append]
    gi_wp2_with fail
    refine ⟨trivial, ?_⟩
    refine (callsIn_wide.2 (hI.out _)).mono ?_
    rintro e w1 ⟨rfl, hww⟩
    obtain rfl := hww.symm
    gi_wp2
    refine ⟨.tuple #[.string eS0, .int .i64 4], ?_, rfl, ?_⟩
    · simp [results, Tryz.results79, go_sem]
    · exact hB3 _ _
  rw [if_pos rfl]
  rw [h2] at hI
  have hn := of_decide_eq_true h2
  obtain ⟨N, rfl⟩ : ∃ N : Nat, n = (N : Int) := ⟨n.toNat, by omega⟩
  rw [Int.toNat_natCast]
  clear h2 hB3
  have hBP := hid (fun W => runsTaken_impl t W)
  have hIt : Hid (∀ {base L : Nat} {fix : List Nat} {S : World → Value → List Int → Prop} {X : World → Int → Prop} (K : SinkE base L N fix e0 e1 e2 S X) (BT : Nat) (W : World) (v : Value) (h : S W v []) (hq : Blk W BT #[.string t]) (hf : BT ∉ fix) (hn : v.ownBlock ≠ some BT) (hbt : base ≤ BT) (d : Nat), CallsIn Fence.wide (d + 2) Tryz.prog 101 #[.func (.yield L) #[] #[], .pointer (some ⟨BT, 0, none⟩)] W fun e W' => e = .returned (.tuple #[]) ∧ ((∃ v' PL, S W' v' PL ∧ expE N (bts t) [] = if PL.length = N then (PL, 0) else ([], 8)) ∨ (∃ c, X W' c ∧ expE N (bts t) [] = ([], c)))) := fun K BT W v h hq hf hn hbt d => takeit_impl K t BT W v h hq hf hn hbt (by omega) d
  have hF := hid (four_new w #[.int .i64 (N : Int)] #[.string ⟨#[]⟩] #[.int .i64 0] #[.slice none 0 0] 3 9 3 22)
  replace hE := hid hE
  generalize expE N (bts t) [] = RES at *
  refine (callsIn_wide (n := 5)).1 (callsIn_of_wp_marks Tryz.func79 rfl trivial ?_ rfl)
  simp only [Tryz.ntmps79, List.size_toArray, List.length_cons, List.length_nil, Nat.reduceAdd, Nat.reduceSub, Array.replicate_succ, Array.replicate_zero, List.push_toArray, List.append_toArray, List.nil_append, List.cons_append]
  gi_wp2_with fail
  refine ⟨trivial, ?_⟩
  refine (callsIn_wide.2 (hI.out _)).mono ?_
  rintro e w1 ⟨rfl, hww⟩
  obtain rfl := hww.symm
  gi_wp2_with fail
  refine ⟨trivial, ?_⟩
  refine (callsIn_wide.2 (hBP.out _)).mono ?_
  rintro e W5 ⟨rfl, hw5⟩
  obtain ⟨f1, f2, f3, f4, f5, f6⟩ := hF.out
  generalize hW4 : (((w.alloc (.cells #[.int .i64 (N : Int)] 3)).alloc (.cells #[.string ⟨#[]⟩] 9)).alloc (.cells #[.int .i64 0] 3)).alloc (.cells #[.slice none 0 0] 22) = W4 at *
  have g1 : Hid (Blk W5 w.heap.size #[.int .i64 (N : Int)] ∧ Blk W5 (w.heap.size + 1) #[.string ⟨#[]⟩] ∧ Blk W5 (w.heap.size + 1 + 1) #[.int .i64 0] ∧ Blk W5 (w.heap.size + 1 + 1 + 1) #[.slice none 0 0]) := by rw [hw5]; exact ⟨f2.alloc _, f3.alloc _, f4.alloc _, f5.alloc _⟩
  have g2 : Hid (Blk W5 (w.heap.size + 1 + 1 + 1 + 1) #[.string t]) := by
    rw [hw5]
    have := Blk.new W4 #[.string t] 9
    rw [f1] at this
    exact this
  have g3 : Hid (Below w.heap.size w W5) := by rw [hw5]; exact f6.alloc f6.size _
  have g4 : Hid (W5.heap.size = w.heap.size + 1 + 1 + 1 + 1 + 1) := by unfold Hid; rw [hw5]; simp [f1]
  rw [f1]
  clear hw5 f1 f2 f3 f4 f5 f6 hF hBP hW4 hI
  gi_wp2_with fail
  refine wpIn_rangeFunc ?_
  intro fn hfn
  obtain ⟨R, hR⟩ : ∃ R : Loop, R = { state := .ready, pending := none, fn := fn, tmps := lsT (.string t) (.int .i64 (N : Int)) undef undef undef (.string t) (.int .i64 (t.size : Int)) (.bool false) (.int .i64 (N : Int)) (.bool true) (.bool false) (.string t) (.func (.func 101) #[] #[.pointer (some ⟨w.heap.size + 1 + 1 + 1 + 1, 0, none⟩)]) undef undef undef undef undef undef undef undef undef undef undef undef undef undef undef undef undef undef undef undef undef w.heap.size (w.heap.size + 1) (w.heap.size + 1 + 1) (w.heap.size + 1 + 1 + 1) undef undef, params := #[17, 18], assign := lsAs, body := lsBd, defers := W5.heap.size } := ⟨_, rfl⟩
  obtain ⟨q, hq⟩ : ∃ q : Pe, q = { NB := w.heap.size, RL := w.heap.size + 1, RE := w.heap.size + 1 + 1, N := N } := ⟨_, rfl⟩
  obtain ⟨p, hp⟩ : ∃ p : Pg, p = { w := w, O := w.heap.size + 1 + 1 + 1, DF := W5.heap.size, L := W5.heap.size + 1, R := R, ks := q.ks } := ⟨_, rfl⟩
  refine ⟨W5.heap.size + 1, [{ target := .collected W5.heap.size, args := #[] }], (W5.alloc (.deferred (some []))).alloc (.loop R), { target := .fn (.func 101) #[.pointer (some ⟨w.heap.size + 1 + 1 + 1 + 1, 0, none⟩)], args := #[.func (.yield (W5.heap.size + 1)) #[] #[]] }, (W5.alloc (.deferred (some []))).alloc (.loop R), 101, #[.func (.yield (W5.heap.size + 1)) #[] #[], .pointer (some ⟨w.heap.size + 1 + 1 + 1 + 1, 0, none⟩)], (W5.alloc (.deferred (some []))).alloc (.loop R), ?_, ?_, fun _ _ => trivial, ?_, fun _ => by omega, ?_⟩
  · rw [hR]
    exact run_enterLoop_outer _ _ _ _ _
  · simp [resolve, go_sem]
  · simp [invoke, go_sem, enters_of Tryz.func101 (by kernel_rfl) rfl]
  have hpb : p.w = w ∧ p.O = w.heap.size + 1 + 1 + 1 ∧ p.DF = W5.heap.size ∧ p.L = W5.heap.size + 1 ∧ p.R = R ∧ p.ks = q.ks := by subst hp; exact ⟨rfl, rfl, rfl, rfl, rfl, rfl⟩
  obtain ⟨k0, k1, k2, k3, k4, k5⟩ := hpb
  have hqb : q.NB = w.heap.size ∧ q.RL = w.heap.size + 1 ∧ q.RE = w.heap.size + 1 + 1 ∧ q.N = N := by subst hq; exact ⟨rfl, rfl, rfl, rfl⟩
  obtain ⟨j0, j1, j2, j3⟩ := hqb
  have hpe : p.R = { state := .ready, pending := none, fn := fn, tmps := lsT (.string t) (.int .i64 (N : Int)) undef undef undef (.string t) (.int .i64 (t.size : Int)) (.bool false) (.int .i64 (N : Int)) (.bool true) (.bool false) (.string t) (.func (.func 101) #[] #[.pointer (some ⟨w.heap.size + 1 + 1 + 1 + 1, 0, none⟩)]) undef undef undef undef undef undef undef undef undef undef undef undef undef undef undef undef undef undef undef undef undef q.NB q.RL q.RE p.O undef undef, params := #[17, 18], assign := lsAs, body := lsBd, defers := p.DF } := by
    rw [k4, k1, k2, j0, j1, j2]
    exact hR
  obtain ⟨b0, b1, b2, b3⟩ := g1.out
  have h5 := g4.out
  have hst : Se p q e0 e1 e2 ((W5.alloc (.deferred (some []))).alloc (.loop R)) (.slice none 0 0) [] := by
    refine ⟨Sg.start (R := R) g3.out (by rw [k1]; exact b3) (by omega) ?_ k0 k2 k3 k4, k5, by omega, by rw [k0]; exact hE.out⟩
    rw [k5]
    intro x hx
    have hx' : x ∈ [(q.NB, #[Value.int .i64 (q.N : Int)]), (q.RL, #[Value.string ⟨#[]⟩]), (q.RE, #[Value.int .i64 0])] := hx
    simp only [List.mem_cons, List.not_mem_nil, or_false] at hx'
    rcases hx' with rfl | rfl | rfl
    · exact ⟨by rw [j0, j3]; exact b0, by omega, by omega⟩
    · exact ⟨by rw [j1]; exact b1, by omega, by omega⟩
    · exact ⟨by rw [j2]; exact b2, by omega, by omega⟩
  have hsk := ls_sink p q e0 e1 e2 fn _ _ _ _ _ _ _ _ _ _ _ _ _ _ _ _ _ _ _ _ _ _ _ _ _ _ _ _ _ _ _ _ _ _ _ _ hpe (by omega)
  rw [j3] at hsk
  have hq7 : Blk ((W5.alloc (.deferred (some []))).alloc (.loop R)) (w.heap.size + 1 + 1 + 1 + 1) #[.string t] := (g2.out.alloc _).alloc _
  have hit := hIt.out hsk (w.heap.size + 1 + 1 + 1 + 1) _ (.slice none 0 0) hst hq7 (fun hm => by
    have hm' : w.heap.size + 1 + 1 + 1 + 1 ∈ p.O :: p.DF :: p.L :: p.ks.map (·.1) := hm
    rw [k5] at hm'
    simp only [List.mem_cons, Pe.ks, List.map_cons, List.map_nil, List.not_mem_nil, or_false] at hm'
    omega) (by simp [Value.ownBlock]) (by rw [k0]; omega) 2
  rw [k3] at hit
  refine hit.mono ?_
  rintro e W8 ⟨rfl, hP⟩
  rcases hP with ⟨v8, PL, hC, hres⟩ | ⟨c, hX, hres⟩
  · have hl8 := hC.s.lp
    have hend := run_endLoop (P := Tryz.prog) hl8 (by rw [hpe]; simp)
    have hpend : p.R.pending = none := by rw [hpe]
    obtain ⟨y1, y2, y3, y6, y4, y5⟩ := hC.s.stop { p.R with state := .exhausted }
    obtain ⟨oa, cap, hv8⟩ := hC.s.form
    obtain ⟨W9, hW9⟩ : ∃ W9, W8.putObj p.L (.loop { p.R with state := .exhausted }) = W9 := ⟨_, rfl⟩
    rw [hW9] at hend y1 y2 y3 y4 y6
    rw [k5] at y6
    have z0 := y6 _ q.mem.1
    have z1 := y6 _ q.mem.2.1
    have z2 := y6 _ q.mem.2.2
    dsimp only at z0 z1 z2
    rw [j0, j3] at z0
    rw [j1] at z1
    rw [j2] at z2
    rw [k3] at hend
    rw [k0] at y3 y4
    rw [k1] at y1
    rw [k2] at y2
    have hcs := own_string (xs := PL) y3
    have x9 := y1.cell
    have u0 := z0.cell
    have u1 := z1.cell
    have v1 := z1.frozen
    have l1 := z1.lt
    have u2 := z2.cell
    have v2 := z2.frozen
    have l2 := z2.lt
    have hn1 : ¬ w.heap.size + 1 = w.heap.size + 1 + 1 := by omega
    have hn2 : ¬ w.heap.size + 1 + 1 = w.heap.size + 1 := by omega
    have hn3 : ¬ w.heap.size + 1 + 1 + 1 = w.heap.size + 1 := by omega
    have hfin : Hid (∀ (s : ByteArray) (c : Int), let WF := (W9.setCell ⟨w.heap.size + 1, 0, none⟩ (.string s)).setCell ⟨w.heap.size + 1 + 1, 0, none⟩ (.int .i64 c); WF.heap[W5.heap.size]? = some (.deferred (some [])) ∧ Blk (WF.putObj W5.heap.size (.deferred none)) (w.heap.size + 1) #[.string s] ∧ Blk (WF.putObj W5.heap.size (.deferred none)) (w.heap.size + 1 + 1) #[.int .i64 c] ∧ Below w.heap.size w (WF.putObj W5.heap.size (.deferred none))) := by
      intro s c WF
      have kF : ∀ b, b ≠ w.heap.size + 1 → b ≠ w.heap.size + 1 + 1 → WF.heap[b]? = W9.heap[b]? := fun b h1 h2 => by
        show ((W9.setCell ⟨w.heap.size + 1, 0, none⟩ (.string s)).setCell ⟨w.heap.size + 1 + 1, 0, none⟩ (.int .i64 c)).heap[b]? = _
        rw [Below.heap_setCell _ _ _ _ h2, Below.heap_setCell _ _ _ _ h1]
      have sF : WF.heap.size = W9.heap.size := by simp [WF, World.setCell]
      have r1 : Blk WF (w.heap.size + 1) #[.string s] := (z1.set 0 (.string s)).other (p := ⟨w.heap.size + 1 + 1, 0, none⟩) hn1 _
      have r2 : Blk WF (w.heap.size + 1 + 1) #[.int .i64 c] := (z2.other (p := ⟨w.heap.size + 1, 0, none⟩) hn2 _).set 0 (.int .i64 c)
      have hd : WF.heap[W5.heap.size]? = some (.deferred (some [])) := (kF _ (by omega) (by omega)).trans y2
      refine ⟨hd, blk_sameG r1 (World.putObj_heap_other (by omega)), blk_sameG r2 (World.putObj_heap_other (by omega)), ?_⟩
      refine y4.trans ⟨rfl, rfl, rfl, by simp [World.putObj, sF], fun b hb => ?_⟩
      exact (World.putObj_heap_other (by omega)).trans (kF b (by omega) (by omega))
    refine ⟨p.R.pending, W9, hend, ?_⟩
    rw [hpend]
    clear hend hpend hl8 hC hit hsk hpe hW9 k0 k1 k2 k3 k4 k5 hR hp hq hst hq7 y1 y2 y4 y5 y6 z0 z1 z2 hIt b0 b1 b2 b3 g1 g2 g3 y3 j0 j1 j2 j3 h5
    by_cases hlen : PL.length = N
    · rw [if_pos hlen] at hres
      have hb1 : ((PL.length : Int) == (N : Int)) = true := by rw [hlen]; simp
      have hfin2 := hid (hfin.out (strOfNums PL) 0)
      subst hres hv8
      rw [hlen] at hcs x9
      clear hfin hlen hb1
      gi_wp2
      obtain ⟨d1, d2, d3, d4⟩ := hfin2.out
      refine ⟨by simp, .inl ⟨_, _, rfl, run_takeDeferred d1, ?_⟩⟩
      have c1 := d2.cell
      have c2 := d3.cell
      refine ⟨.tuple #[.string (strOfNums PL), .int .i64 0], ?_, rfl, d4⟩
      simp [results, Tryz.results79, go_sem, c1, c2]
    · rw [if_neg hlen] at hres
      have hb1 : ((PL.length : Int) == (N : Int)) = false := by rw [beq_eq_false_iff_ne]; omega
      have hfin2 := hid (hfin.out ⟨#[]⟩ 8)
      subst hres hv8
      clear hfin hlen hcs
      gi_wp2
      obtain ⟨d1, d2, d3, d4⟩ := hfin2.out
      refine ⟨by simp, .inl ⟨_, _, rfl, run_takeDeferred d1, ?_⟩⟩
      have c1 := d2.cell
      have c2 := d3.cell
      refine ⟨.tuple #[.string ⟨#[]⟩, .int .i64 8], ?_, rfl, d4⟩
      simp [results, Tryz.results79, go_sem, c1, c2]
  · have hl8 := hX.lp
    have hend := run_endLoop (P := Tryz.prog) hl8 (by simp)
    obtain ⟨W9, hW9⟩ : ∃ W9, W8.putObj p.L (.loop { p.R with state := .exhausted, pending := some .ret }) = W9 := ⟨_, rfl⟩
    have hend2 : (Instr.endLoop (W5.heap.size + 1)).run Tryz.prog W8 = .ok (some .ret) W9 := by
      rw [← hW9, ← k3]
      exact hend
    have k9 : ∀ b, b ≠ p.L → W9.heap[b]? = W8.heap[b]? := fun b hb => by rw [← hW9]; exact World.putObj_heap_other (by omega)
    have s9 : W9.heap.size = W8.heap.size := by rw [← hW9]; simp [World.putObj]
    have d1 : W9.heap[W5.heap.size]? = some (.deferred (some [])) := by rw [← k2]; exact (k9 _ (by omega)).trans hX.df
    have r1 : Blk (W9.putObj W5.heap.size (.deferred none)) (w.heap.size + 1) #[.string ⟨#[]⟩] := by
      rw [← j1]
      exact blk_sameG (blk_sameG hX.rl (k9 _ (by omega))) (World.putObj_heap_other (by omega))
    have r2 : Blk (W9.putObj W5.heap.size (.deferred none)) (w.heap.size + 1 + 1) #[.int .i64 c] := by
      rw [← j2]
      exact blk_sameG (blk_sameG hX.re (k9 _ (by omega))) (World.putObj_heap_other (by omega))
    have hXb := hX.bel
    rw [k0] at hXb
    have d4 : Below w.heap.size w (W9.putObj W5.heap.size (.deferred none)) := by
      refine hXb.trans ⟨?_, ?_, ?_, by simp [World.putObj, s9], fun b hb => (World.putObj_heap_other (by omega)).trans (k9 b (by omega))⟩
      · rw [← hW9]; rfl
      · rw [← hW9]; rfl
      · rw [← hW9]; rfl
    refine ⟨some .ret, W9, hend2, ?_⟩
    subst hres
    replace d1 := hid d1
    replace r1 := hid r1
    replace r2 := hid r2
    replace d4 := hid d4
    clear hW9 hend hend2 hl8 hX hit hpe hsk hst hq7 k9 s9 hXb k0 k1 k2 k3 k4 k5 j0 j1 j2 j3 hR hp hq hIt b0 b1 b2 b3 g1 g2 g3 h5
    dsimp only
    gi_wp2
    refine ⟨by simp, .inl ⟨_, _, rfl, run_takeDeferred d1.out, ?_⟩⟩
    have c1 := r1.out.cell
    have c2 := r2.out.cell
    refine ⟨.tuple #[.string ⟨#[]⟩, .int .i64 c], ?_, rfl, d4.out⟩
    simp [results, Tryz.results79, go_sem, c1, c2]
end Go.Proofs.YtghcagibdcblnaaGreatDoor

/- What the program's copies answer: a bank's, and a memory's, in blocks of its own. -/
namespace Go.Proofs.YtghcagibdcblnaaGreatDoor
open Go.ChangeShapes Go.WideShapes Go.ChangeAt Go.RowKit
set_option linter.unusedVariables false
set_option linter.unusedSimpArgs false

/-- a row of its own at the end of the heap, and a bank that points to it behind it -/
structure Copied (w w' : World) (zs : List Int) : Prop where
  bank : Blk w' (w.heap.size + 1) #[.slice (some ⟨w.heap.size, 0, none⟩) zs.length zs.length]
  row : RowO w' w.heap.size (.slice (some ⟨w.heap.size, 0, none⟩) zs.length zs.length) zs
  bel : Below w.heap.size w w'
theorem ret_ptr {a b : Nat} (h : a = b) : Ending.returned (.pointer (some ⟨a, 0, none⟩)) = Ending.returned (.pointer (some ⟨b, 0, none⟩)) := by rw [h]
/-- one row more, wherever it was made -/
theorem Built.stepG {w wr w1 : World} {zss : List (List Int)} {k g : Nat} {u : Value} (h : Built w wr zss k) (hk : k < zss.length) (hr : RowO w1 g u (zss.getD k [])) (hg : wr.heap.size ≤ g) (hb : Below wr.heap.size wr w1) :
    Built w (w1.setCell ⟨w.heap.size, k, none⟩ u) zss (k + 1) := by
  have hl := h.lt
  obtain ⟨c, t, G, V, h1, h2, h3, h4⟩ := h
  have h1' : w1.heap[w.heap.size]? = some (.cells c t (0, 0)) := (hb.block _ hl).trans h1
  have hs : (w1.setCell ⟨w.heap.size, k, none⟩ u).heap.size = w1.heap.size := by simp [World.setCell]
  have hlt := hr.lt
  refine ⟨c.setIfInBounds k u, t, fun i => if i = k then g else G i, fun i => if i = k then u else V i, heap_setCell_same' _ _ _ _ _ _ h1', by simpa using h2, fun i hi => ?_, fun i j hi hj e => ?_⟩
  · by_cases e : i = k
    · subst e
      simp only [if_true, hs]
      refine ⟨by rw [Array.getElem?_setIfInBounds]; simp; omega, hr.kept (Below.heap_setCell _ _ _ _ (by simp; omega)), by omega, hlt⟩
    · simp only [if_neg e, hs]
      obtain ⟨k1, k2, k3, k4⟩ := h3 i (by omega)
      refine ⟨by rw [Array.getElem?_setIfInBounds, if_neg (fun h => e h.symm)]; exact k1, k2.kept ((Below.heap_setCell _ _ _ _ (by simp; omega)).trans (hb.block _ k4)), k3, by have := hb.size; omega⟩
  · by_cases e1 : i = k
    · by_cases e2 : j = k
      · rw [e1, e2]
      · simp only [if_pos e1, if_neg e2] at e
        have := (h3 j (by omega)).2.2.2
        omega
    · by_cases e2 : j = k
      · simp only [if_neg e1, if_pos e2] at e
        have := (h3 i (by omega)).2.2.2
        omega
      · simp only [if_neg e1, if_neg e2] at e
        exact h4 i j (by omega) (by omega) e
theorem Built.keptB {w wr w' : World} {zss : List (List Int)} {k : Nat} (h : Built w wr zss k) (hs : wr.heap.size ≤ w'.heap.size) (hk : ∀ b, w.heap.size ≤ b → b < wr.heap.size → w'.heap[b]? = wr.heap[b]?) : Built w w' zss k := by
  have hl := h.lt
  obtain ⟨c, t, G, V, h1, h2, h3, h4⟩ := h
  exact ⟨c, t, G, V, (hk _ (Nat.le_refl _) hl).trans h1, h2, fun i hi => by
    obtain ⟨k1, k2, k3, k4⟩ := h3 i hi
    exact ⟨k1, k2.kept (hk _ (by omega) k4), k3, by omega⟩, h4⟩
/-- a memory in blocks of its own, told by their numbers -/
structure Lies (w : World) (lo hi r s : Nat) (G : Nat → Nat) (M : Mem) : Prop where
  rom : RowO w r (.slice (some ⟨r, 0, none⟩) M.rom.length M.rom.length) M.rom
  ram : RowsO w s G (.slice (some ⟨s, 0, none⟩) M.ram.length M.ram.length) M.ram
  br : lo ≤ r ∧ r < hi
  bs : lo ≤ s ∧ s < hi
  bg : ∀ i, i < M.ram.length → lo ≤ G i ∧ G i < hi
  rs : r ≠ s
  gn : ∀ i, i < M.ram.length → G i ≠ r ∧ G i ≠ s
  inj : ∀ i j, i < M.ram.length → j < M.ram.length → G i = G j → i = j
theorem Lies.memO {w : World} {lo hi r s : Nat} {G : Nat → Nat} {M : Mem} (h : Lies w lo hi r s G M) : MemO w lo hi (memV (.slice (some ⟨r, 0, none⟩) M.rom.length M.rom.length) (.slice (some ⟨s, 0, none⟩) M.ram.length M.ram.length) M.page M.screen M.locked) M :=
  .inr ⟨_, _, r, s, G, rfl, h.rom, h.ram, h.br, h.bs, h.bg, h.rs, h.gn, h.inj⟩
theorem Lies.kept {w w' : World} {lo hi r s : Nat} {G : Nat → Nat} {M : Mem} (h : Lies w lo hi r s G M) (k : ∀ b, lo ≤ b → b < hi → w'.heap[b]? = w.heap[b]?) : Lies w' lo hi r s G M :=
  ⟨h.rom.kept (k _ h.br.1 h.br.2), h.ram.kept (k _ h.bs.1 h.bs.2) (fun i hi => k _ (h.bg i hi).1 (h.bg i hi).2), h.br, h.bs, h.bg, h.rs, h.gn, h.inj⟩
/-- while the rows of a memory are being copied -/
structure CmSt (w w6 wr : World) (r : Nat) (A0 A2 : Array Value) (M : Mem) (k : Nat) : Prop where
  q0 : Blk wr w.heap.size A0
  q1 : Blk wr (w.heap.size + 1) #[.slice none 0 0, .slice none 0 0, .int .i64 0, .int .i64 0, .bool false]
  q2 : Blk wr (w.heap.size + 1 + 1) A2
  row : RowO wr r (.slice (some ⟨r, 0, none⟩) M.rom.length M.rom.length) M.rom
  ord : w.heap.size + 1 + 1 < r ∧ r < w6.heap.size
  built : Built w6 wr M.ram k
  bel : Below w.heap.size w wr
theorem CmSt.step {w w6 wr w1 : World} {r : Nat} {A0 A2 : Array Value} {M : Mem} {k g : Nat} {u : Value} (h : CmSt w w6 wr r A0 A2 M k) (hk : k < M.ram.length) (hr : RowO w1 g u (M.ram.getD k [])) (hg : wr.heap.size ≤ g) (hb : Below wr.heap.size wr w1) :
    CmSt w w6 (w1.setCell ⟨w6.heap.size, k, none⟩ u) r A0 A2 M (k + 1) := by
  obtain ⟨q0, q1, q2, row, ord, built, bel⟩ := h
  have hl := built.lt
  exact ⟨(q0.below hb (by omega)).other (by simp; omega) _, (q1.below hb (by omega)).other (by simp; omega) _, (q2.below hb (by omega)).other (by simp; omega) _, row.kept ((Below.heap_setCell _ _ _ _ (by simp; omega)).trans (hb.block _ (by omega))), ord, built.stepG hk hr hg hb, (bel.trans (hb.mono bel.size)).setCell (p := ⟨w6.heap.size, k, none⟩) (by simp; omega) _⟩
theorem CmSt.lies {w w6 wr W' : World} {r : Nat} {A0 A2 : Array Value} {M : Mem} (h : CmSt w w6 wr r A0 A2 M M.ram.length) (hs : wr.heap.size ≤ W'.heap.size) (hk : ∀ b, w.heap.size + 1 + 1 < b → b < wr.heap.size → W'.heap[b]? = wr.heap[b]?) : ∃ G, Lies W' w.heap.size W'.heap.size r w6.heap.size G M := by
  obtain ⟨q0, q1, q2, row, ord, built, bel⟩ := h
  have hl := built.lt
  obtain ⟨c, t, G, V, h1, h2, h3, h4⟩ := built
  refine ⟨G, row.kept (hk _ ord.1 (by omega)), ⟨_, c, t, V, rfl, (hk _ (by omega) hl).trans h1, fun i hi => (h3 i hi).1, fun i hi => (h3 i hi).2.1.kept (hk _ (by have := (h3 i hi).2.2.1; omega) (h3 i hi).2.2.2)⟩, by omega, by omega, fun i hi => by have := (h3 i hi).2.2; omega, by omega, fun i hi => by have := (h3 i hi).2.2; omega, h4⟩
end Go.Proofs.YtghcagibdcblnaaGreatDoor
