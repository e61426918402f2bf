/- The pulses of a tape: the program. -/
import Derived.Test.YtifcdojaocndhaaDoorM38
import Derived.Test.YtifcdojaocndhaaDoorM34
namespace Go.Proofs.YtifcdojaocndhaaDoor
open Go.ChangeShapes Go.WideShapes Go.ChangeAt Go.RowKit Go.Shelf
attribute [local go_sem] Oper.semAt_some
set_option linter.unusedVariables false
set_option linter.unusedSimpArgs false

abbrev mk0 (d : Nat) : Deferred := { target := .collected d, args := #[] }
/-- the marks of loops that are over -/
theorem leaves_marks {F : Fence} {n : Nat} {fn : Func} {tmps : Array Value} {R : Ending → World → Prop} : ∀ (ds : List Nat) (W : World), (∀ d, d ∈ ds → W.heap[d]? = some (.deferred (some []))) → ds.Nodup → (∀ W' : World, (∀ b, b ∉ ds → W'.heap[b]? = W.heap[b]?) → W'.heap.size = W.heap.size → W'.os = W.os ∧ W'.tape = W.tape ∧ W'.output = W.output → LeavesInM F n Tryd.prog fn tmps R [] .returning W') → LeavesInM F n Tryd.prog fn tmps R (ds.map mk0) .returning W := by
  intro ds
  induction ds with
  | nil => intro W _ _ h; exact h W (fun _ _ => rfl) rfl ⟨rfl, rfl, rfl⟩
  | cons d ds ih =>
    intro W hd hn h
    have hn' := List.nodup_cons.1 hn
    have ho : ∀ b, b ≠ d → (W.putObj d (.deferred none)).heap[b]? = W.heap[b]? := fun b hb => World.putObj_heap_other (by omega)
    have hs : (W.putObj d (.deferred none)).heap.size = W.heap.size := by simp [World.putObj]
    refine ⟨by simp, .inl ⟨d, _, rfl, run_takeDeferred (hd d (List.mem_cons_self ..)), ih _ (fun e he => ?_) hn'.2 (fun W' h1 h2 h3 => ?_)⟩⟩
    · rw [ho e (fun x => hn'.1 (x ▸ he))]
      exact hd e (List.mem_cons_of_mem _ he)
    · refine h W' (fun b hb => ?_) (h2.trans hs) ⟨h3.1.trans rfl, h3.2.1.trans rfl, h3.2.2.trans rfl⟩
      have h4 : b ≠ d ∧ b ∉ ds := by simpa using hb
      exact (h1 b h4.2).trans (ho b h4.1)
/-- between two blocks of the tape -/
structure Tq (w W : World) (O : Nat) (ds : List Nat) (v : Value) (acc : List Int) : Prop where
  o : Blk W O #[v]
  far : w.heap.size ≤ O
  own : W.ownsRow w.heap.size 3 1 v acc.length (acc.map (Value.int .i64))
  no : v.ownBlock ≠ some O
  df : ∀ d, d ∈ ds → W.heap[d]? = some (.deferred (some []))
  nd : ds.Nodup
  dn : ∀ d, d ∈ ds → d ≠ O ∧ v.ownBlock ≠ some d ∧ w.heap.size ≤ d
  bel : Below w.heap.size w W
theorem Tq.form {w W : World} {O : Nat} {ds : List Nat} {v : Value} {acc : List Int} (h : Tq w W O ds v acc) : ∃ oa cap, v = .slice oa acc.length cap := by
  obtain ⟨_, ⟨h1, h0⟩ | ⟨g, cap, _, h1, _⟩⟩ := h.own
  · exact ⟨none, 0, by rw [h1, h0]⟩
  · exact ⟨_, _, h1⟩
theorem Tq.below {w W W' : World} {O : Nat} {ds : List Nat} {v : Value} {acc : List Int} (h : Tq w W O ds v acc) (hb : Below W.heap.size W W') : Tq w W' O ds v acc :=
  ⟨h.o.below hb h.o.lt, h.far, own_belowU h.own hb, h.no, fun d hd => (hb.block d (Array.getElem?_eq_some_iff.1 (h.df d hd)).1).trans (h.df d hd), h.nd, h.dn, h.bel.trans (hb.mono h.bel.size)⟩
/-- the loop over a block's pulses begins -/
theorem Tq.start {w W6 : World} {O : Nat} {ds : List Nat} {v : Value} {acc : List Int} (h : Tq w W6 O ds v acc) {p : Pj} {R : Loop} (hpw : p.w = w) (hO : p.O = O) (hD : p.DF = W6.heap.size) (hL : p.L = W6.heap.size + 1) (hR : p.R = R) : Sj p ((W6.alloc (.deferred (some []))).alloc (.loop R)) v acc := by
  have hb7 : Below W6.heap.size W6 ((W6.alloc (.deferred (some []))).alloc (.loop R)) := ((Below.refl _ _).alloc (Nat.le_refl _) _).alloc (by simp) _
  have hL7 : ((W6.alloc (.deferred (some []))).alloc (.loop R)).heap[W6.heap.size + 1]? = some (.loop R) := by
    have := World.alloc_heap_new (W6.alloc (.deferred (some []))) (.loop R)
    rwa [World.size_alloc] at this
  have hD7 : ((W6.alloc (.deferred (some []))).alloc (.loop R)).heap[W6.heap.size]? = some (.deferred (some [])) := (Below.heap_alloc _ _ _ (by simp)).trans (World.alloc_heap_new W6 _)
  have hl := h.o.lt
  have hs := h.bel.size
  have hf := h.far
  refine ⟨by omega, by rw [hpw]; omega, by rw [hO]; exact h.o.below hb7 hl, by rw [hD]; exact hD7, by rw [hL, hR]; exact hL7, by rw [hpw]; exact own_belowU h.own hb7, fun g e hm => ?_, ?_⟩
  · have hm' : g ∈ [p.O, p.DF, p.L] := hm
    simp only [List.mem_cons, List.not_mem_nil, or_false] at hm'
    have hgl := (h.own.lt g e).2
    rcases hm' with rfl | rfl | rfl
    · exact h.no (hO ▸ e)
    · omega
    · omega
  · rw [hpw]
    exact h.bel.trans (hb7.mono hs)
/-- and ends -/
theorem Tq.stop {w W6 W8 : World} {O : Nat} {ds : List Nat} {v v8 : Value} {acc acc8 : List Int} (h : Tq w W6 O ds v acc) {p : Pj} {R : Loop} (hpw : p.w = w) (hO : p.O = O) (hD : p.DF = W6.heap.size) (hL : p.L = W6.heap.size + 1) (h8 : Sj p W8 v8 acc8) (hK : Kp p.bs ((W6.alloc (.deferred (some []))).alloc (.loop R)) v W8 v8) (R' : Loop) : Tq w (W8.putObj p.L (.loop R')) O (W6.heap.size :: ds) v8 acc8 := by
  obtain ⟨n1, n2, n3⟩ := h8.nd
  obtain ⟨m1, m2, m3⟩ := p.mem
  have k9 : ∀ b, b ≠ p.L → (W8.putObj p.L (.loop R')).heap[b]? = W8.heap[b]? := fun b hb => World.putObj_heap_other (by omega)
  have s9 : (W8.putObj p.L (.loop R')).heap.size = W8.heap.size := by simp [World.putObj]
  have hb7 : Below W6.heap.size W6 ((W6.alloc (.deferred (some []))).alloc (.loop R)) := ((Below.refl _ _).alloc (Nat.le_refl _) _).alloc (by simp) _
  have hld : ∀ d, d ∈ ds → d < W6.heap.size := fun d hd => (Array.getElem?_eq_some_iff.1 (h.df d hd)).1
  have hl7 := hb7.size
  have hdn : ∀ d, d ∈ ds → d ∉ p.bs := fun d hd hm => by
    have hm' : d ∈ [p.O, p.DF, p.L] := hm
    simp only [List.mem_cons, List.not_mem_nil, or_false] at hm'
    have h1 := (h.dn d hd).1
    have h2 := hld d hd
    rcases hm' with rfl | rfl | rfl
    · exact h1 hO
    · omega
    · omega
  refine ⟨?_, h.far, own_sameV (hpw ▸ h8.own) (by omega) (fun g e => k9 g (fun e2 => h8.ne g e (e2 ▸ m3))), fun e => h8.ne _ e (hO ▸ m1), fun d hd => ?_, ?_, fun d hd => ?_, ?_⟩
  · obtain ⟨t, hq⟩ := h8.o
    rw [← hO]
    exact ⟨t, (k9 _ n2).trans hq⟩
  · rcases List.mem_cons.1 hd with rfl | hd
    · rw [← hD]
      exact (k9 _ n3).trans h8.df
    · have hdL : d ≠ p.L := fun e => hdn d hd (e ▸ m3)
      rw [k9 d hdL, hK.same d (by have := hld d hd; omega) (hdn d hd) (h.dn d hd).2.1, hb7.block d (hld d hd)]
      exact h.df d hd
  · exact List.nodup_cons.2 ⟨fun hm => by have := hld _ hm; omega, h.nd⟩
  · rcases List.mem_cons.1 hd with rfl | hd
    · refine ⟨fun e => ?_, fun e => h8.ne _ e (hD ▸ m2), h.bel.size⟩
      have := h.o.lt
      omega
    · exact ⟨(h.dn d hd).1, hK.ne (by have := hld d hd; omega) (h.dn d hd).2.1, (h.dn d hd).2.2⟩
  · rw [hpw.symm]
    exact h8.bel.trans ⟨rfl, rfl, rfl, by omega, fun b hb => k9 b (fun e => by have := h8.far.2.2; omega)⟩
/-- the pause is laid behind the block -/
theorem Tq.app {w W w2 : World} {O : Nat} {ds : List Nat} {v v' : Value} {acc : List Int} {x : Int} (h : Tq w W O ds v acc) (ho : w2.ownsRow w.heap.size 3 1 v' (acc.length + 1) (acc.map (Value.int .i64) ++ [.int .i64 x])) (hg : (W.alloc (.cells #[.int .i64 x] 3)).grownBy w2 v.ownBlock) (hat : v'.ownBlock = v.ownBlock ∨ v'.ownBlock = some (W.alloc (.cells #[.int .i64 x] 3)).heap.size) :
    Blk w2 O #[v] ∧ Tq w (w2.setCell ⟨O, 0, none⟩ v') O ds v' (acc ++ [x]) := by
  have k2 : ∀ b, b < W.heap.size → v.ownBlock ≠ some b → w2.heap[b]? = W.heap[b]? := fun b hb hne => (hg.block b (by rw [World.size_alloc]; omega) (fun e => hne e.symm)).trans (Below.heap_alloc _ _ _ hb)
  have q2 : Blk w2 O #[v] := by
    obtain ⟨t, hq⟩ := h.o
    exact ⟨t, (k2 _ h.o.lt h.no).trans hq⟩
  have ks : ∀ b, b ≠ O → (w2.setCell ⟨O, 0, none⟩ v').heap[b]? = w2.heap[b]? := fun b hb => Below.heap_setCell _ _ _ _ hb
  have hv : ∀ b, b < W.heap.size → v.ownBlock ≠ some b → v'.ownBlock ≠ some b := fun b hb hne e => by
    rcases hat with e1 | e1
    · exact hne (e1 ▸ e)
    · rw [e1, World.size_alloc] at e
      simp at e
      omega
  have hno := hv _ h.o.lt h.no
  have hld : ∀ d, d ∈ ds → d < W.heap.size := fun d hd => (Array.getElem?_eq_some_iff.1 (h.df d hd)).1
  have sg : w2.grownBy (w2.setCell ⟨O, 0, none⟩ v') (some O) := ⟨rfl, rfl, rfl, by simp [World.setCell], fun k _ hk => Below.heap_setCell _ _ _ _ (fun e => hk (by rw [e]))⟩
  have hbel : Below w.heap.size w w2 := (h.bel.alloc h.bel.size _).grown hg (by rw [World.size_alloc]; have := h.bel.size; omega) (fun g e => (h.own.lt g e).1)
  refine ⟨q2, q2.set 0 v', h.far, ?_, hno, fun d hd => ?_, h.nd, fun d hd => ⟨(h.dn d hd).1, hv d (hld d hd) (h.dn d hd).2.1, (h.dn d hd).2.2⟩, hbel.setCell (p := ⟨O, 0, none⟩) h.far _⟩
  · rw [List.length_append, List.map_append]
    exact ho.kept sg (.inr hno)
  · rw [ks d (h.dn d hd).1, k2 d (hld d hd) (h.dn d hd).2.1]
    exact h.df d hd
set_option maxRecDepth 100000 in
set_option maxHeartbeats 8000000 in
theorem tapepulses_impl (a : Option Addr) (cap : Nat) (l : List (Int × ByteArray)) (w : World) (h : BkR w a l) (hl : l.length ≤ 1048576) (hs : ∀ x ∈ l, x.2.size ≤ maxLen) (hT : Tim w) (hg : 3 < w.heap.size) :
    Calls Tryd.prog 80 #[.slice a l.length cap] w fun e w' => ∃ v, e = .returned (.tuple #[v, .int .i64 (tp2 l).2]) ∧ Grow w w' v (tp2 l).1 := by
  have hA := hid (fun W (hW : BkR W a l) => tapeFault_impl a cap l W hW hl hs)
  have h22 : (tap2 l).2 = (tp2 l).2 := by
    unfold tap2 tp2
    split
    · rfl
    · split <;> rfl
  rw [h22] at hA
  clear h22
  by_cases hc : (tp2 l).2 = 0
  · have hal : allL l = true := by
      unfold tp2 at hc
      split at hc
      · cases hc
      · split at hc
        · assumption
        · cases hc
    have e : tp2 l = (tpN l l.length, 0) := by
      unfold tp2
      rw [if_neg (by have := allL_len hal; omega), if_pos hal]
    rw [hc] at hA
    rw [e]
    have h6 := allL_len hal
    have hok : Hid (∀ k, k < l.length → okB (l.getD k bkz).1 (l.getD k bkz).2 = true) := fun k hk => allL_at hal hk
    have hZ : Hid (∀ k, k < l.length → (tpN l k).length ≤ 4146) := fun k hk => by have := tpN_len hal k (by omega); omega
    have hZ2 : Hid (∀ k, k < l.length → (plsB (l.getD k bkz).1 (l.getD k bkz).2).length ≤ 690) := fun k hk => by
      rw [plsB_len]
      have := ((okB_iff _ _).1 (allL_at hal hk)).2
      have := pilN_le (l.getD k bkz).1
      omega
    clear e hc hal hs
    replace h := hid h
    replace hT := hid hT
    obtain ⟨i0, hi0, hz0, hz1, hz2⟩ := info_parts infoI
    refine (callsIn_wide (n := 6)).1 (callsIn_of_wp_marks Tryd.func80 rfl trivial ?_ rfl)
    simp only [Tryd.ntmps80, List.size_toArray, List.length_cons, List.length_nil, Nat.reduceAdd, Nat.reduceSub, Array.replicate_succ, Array.replicate_zero, List.push_toArray, List.append_toArray, List.nil_append, List.cons_append]
    gi_wp2_with fail
    refine ⟨trivial, ?_⟩
    refine (callsIn_wide.2 (hA.out _ h.out)).mono ?_
    rintro e w1 ⟨rfl, hb⟩
    have hq0 : Hid (Tq w (w1.alloc (.cells #[.slice none 0 0] 27)) w1.heap.size [] (.slice none 0 0) []) := ⟨Blk.new w1 _ _, hb.size, World.ownsRow_nil _ _ _ _, by simp [Value.ownBlock], fun d hd => (by cases hd), List.nodup_nil, fun d hd => (by cases hd), hb.alloc hb.size _⟩
    clear hb hA
    gi_wp2
    obtain ⟨W4, hW4⟩ : ∃ W4, w1.alloc (.cells #[.slice none 0 0] 27) = W4 := ⟨_, rfl⟩
    rw [hW4] at hq0 ⊢
    obtain ⟨O, hOO⟩ : ∃ O, w1.heap.size = O := ⟨_, rfl⟩
    rw [hOO] at hq0 ⊢
    clear hW4 hOO
    refine wpIn_loop (fun ac wr => ∃ (k : Nat) (ds : List Nat) (v : Value) (u7 u8 u17 u18 u19 u20 u21 u22 u23 u24 u25 u26 u27 u28 u29 u30 : Value), ac = { tmps := #[.slice a l.length cap, undef, .slice none 0 0, .int .i64 0, .int .i64 0, .pointer (some ⟨O, 0, none⟩), undef, u7, u8, .slice a l.length cap, .int .i64 0, .int .i64 0, .bool false, undef, .slice a l.length cap, .int .i64 (l.length : Int), .int .i64 (k : Int), u17, u18, u19, u20, u21, u22, u23, u24, u25, u26, u27, u28, u29, u30, undef], defers := ds.map mk0 } ∧ k ≤ l.length ∧ Tq w wr O ds v (tpN l k)) (fun ac _ => l.length - (intOf (ac.tmps.getD 16 undef)).toNat) ?_ ?_
    · exact ⟨0, [], _, _, _, _, _, _, _, _, _, _, _, _, _, _, _, _, _, rfl, Nat.zero_le _, hq0.out⟩
    · rintro _ wr ⟨k, ds, v, u7, u8, u17, u18, u19, u20, u21, u22, u23, u24, u25, u26, u27, u28, u29, u30, rfl, hk, hq⟩
      clear hq0
      by_cases hlt : k < l.length
      · obtain ⟨g, o, rfl, x1, x2⟩ := (h.out.below hq.bel).at hlt
        have hok2 := hok.out k hlt
        have z1 := hZ.out k hlt
        have z2 := hZ2.out k hlt
        have hE : Hid (tpN l (k + 1) = tpN l k ++ plsB (l.getD k bkz).1 (l.getD k bkz).2 ++ [200]) := rfl
        have hIt : Hid (∀ {base Y N : Nat} {fix : List Nat} {S : World → Value → List Int → Prop} (K : Sink base Y fix (fun _ => True) N S) (BB : Nat) (W : World) (v : Value) (pre : List Int) (h : S W v pre) (hq : Blk W BB (bkA (l.getD k bkz).1 (l.getD k bkz).2)) (hf : BB ∉ fix) (hn : v.ownBlock ≠ some BB) (hT : Tim W) (hg : 3 < base) (hN : pre.length + 1024 ≤ N), Calls Tryd.prog 162 #[.func (.yield Y) #[] #[], .pointer (some ⟨BB, 0, none⟩)] W fun e W' => e = .returned (.tuple #[]) ∧ ∃ v', S W' v' (pre ++ plsB (l.getD k bkz).1 (l.getD k bkz).2) ∧ Kp fix W v W' v') := fun K => bpit_impl K _ _ hok2
        have hBP := hid (fun W => blockPulses_impl (l.getD k bkz).1 (l.getD k bkz).2 W)
        generalize plsB (l.getD k bkz).1 (l.getD k bkz).2 = X at *
        generalize (l.getD k bkz).1 = F at *
        generalize (l.getD k bkz).2 = D at *
        generalize tpN l k = Y at *
        have hq1 := hq.below ((Below.refl _ _).alloc (Nat.le_refl _) (.cells (bkA F D) 75))
        have hqb := Blk.new wr (bkA F D) 75
        have xb := hqb.cell
        have lb := hqb.lt
        have hOl := hq.o.lt
        replace hq1 := hid hq1
        clear hq hqb hok2
        gi_wp2_with fail
        refine ⟨trivial, ?_⟩
        refine (callsIn_wide.2 (hBP.out _)).mono ?_
        rintro e W5 ⟨rfl, hw5⟩
        obtain ⟨W4b, hW4⟩ : ∃ W4, wr.alloc (.cells (bkA F D) 75) = W4 := ⟨_, rfl⟩
        rw [hW4] at hq1 hw5
        have hs4 : W4b.heap.size = wr.heap.size + 1 := by rw [← hW4]; simp
        have hb5 : Below W4b.heap.size W4b W5 := by rw [hw5]; exact (Below.refl _ _).alloc (Nat.le_refl _) _
        have hq5 : Blk W5 W4b.heap.size (bkA F D) := by rw [hw5]; exact Blk.new W4b _ _
        have hs5 : W5.heap.size = W4b.heap.size + 1 := by rw [hw5]; simp
        rw [hs4] at hq5 hs5
        have hq6 := hid (hq1.out.below hb5)
        have hvb : Hid (v.ownBlock ≠ some (wr.heap.size + 1)) := fun e => by have := (hq1.out.own.lt _ e).2; omega
        replace hq5 := hid hq5
        replace hs5 := hid hs5
        clear hb5 hw5 hW4 xb lb hq1 hBP x1 x2 hs4
        gi_wp2_with fail
        refine wpIn_rangeFunc ?_
        intro fn hfn
        obtain ⟨R, hR⟩ : ∃ R : Loop, R = { state := .ready, pending := none, fn := fn, tmps := tpT (.slice (some ⟨g, o, none⟩) l.length cap) undef (.slice none 0 0) (.int .i64 0) (.int .i64 0) undef (.pointer (some ⟨wr.heap.size, 0, none⟩)) u8 (.slice (some ⟨g, o, none⟩) l.length cap) (.int .i64 0) (.int .i64 0) (.bool false) undef (.slice (some ⟨g, o, none⟩) l.length cap) (.int .i64 (l.length : Int)) (.int .i64 (k : Int)) (.bool true) (.pointer (some ⟨g, o + k * 2, none⟩)) (.agg #[.int .i64 F, .string D]) (.agg #[.int .i64 F, .string D]) (.func (.func 162) #[] #[.pointer (some ⟨wr.heap.size + 1, 0, none⟩)]) u23 u24 u25 u26 u27 u28 u29 u30 undef O u22, params := #[22], assign := tpAs, body := tpBd, defers := W5.heap.size } := ⟨_, rfl⟩
        obtain ⟨p, hp⟩ : ∃ p : Pj, p = { w := w, O := O, DF := W5.heap.size, L := W5.heap.size + 1, R := R } := ⟨_, rfl⟩
        refine ⟨W5.heap.size + 1, [{ target := .collected W5.heap.size, args := #[] }], (W5.alloc (.deferred (some []))).alloc (.loop R), { target := .fn (.func 162) #[.pointer (some ⟨wr.heap.size + 1, 0, none⟩)], args := #[.func (.yield (W5.heap.size + 1)) #[] #[]] }, (W5.alloc (.deferred (some []))).alloc (.loop R), 162, #[.func (.yield (W5.heap.size + 1)) #[] #[], .pointer (some ⟨wr.heap.size + 1, 0, none⟩)], (W5.alloc (.deferred (some []))).alloc (.loop R), ?_, ?_, fun _ _ => trivial, ?_, fun _ => by omega, ?_⟩
        · rw [hR]
          exact run_enterLoop_outer _ _ _ _ _
        · simp [resolve, go_sem]
        · simp [invoke, go_sem, enters_of Tryd.func162 (by kernel_rfl) rfl]
        have hpb : p.w = w ∧ p.O = O ∧ p.DF = W5.heap.size ∧ p.L = W5.heap.size + 1 ∧ p.R = R := by subst hp; exact ⟨rfl, rfl, rfl, rfl, rfl⟩
        obtain ⟨k0, k1, k2, k3, k4⟩ := hpb
        have hpe : p.R = { state := .ready, pending := none, fn := fn, tmps := tpT (.slice (some ⟨g, o, none⟩) l.length cap) undef (.slice none 0 0) (.int .i64 0) (.int .i64 0) undef (.pointer (some ⟨wr.heap.size, 0, none⟩)) u8 (.slice (some ⟨g, o, none⟩) l.length cap) (.int .i64 0) (.int .i64 0) (.bool false) undef (.slice (some ⟨g, o, none⟩) l.length cap) (.int .i64 (l.length : Int)) (.int .i64 (k : Int)) (.bool true) (.pointer (some ⟨g, o + k * 2, none⟩)) (.agg #[.int .i64 F, .string D]) (.agg #[.int .i64 F, .string D]) (.func (.func 162) #[] #[.pointer (some ⟨wr.heap.size + 1, 0, none⟩)]) u23 u24 u25 u26 u27 u28 u29 u30 undef p.O u22, params := #[22], assign := tpAs, body := tpBd, defers := p.DF } := by
          rw [k4, k1, k2]
          exact hR
        have hst := hq6.out.start (R := R) k0 k1 k2 k3 k4
        have hsk := tp_sink p fn _ _ _ _ _ _ _ _ _ _ _ _ _ _ _ _ _ _ _ _ _ _ _ _ _ _ _ _ _ _ _ hpe
        have h5 := hs5.out
        have hq7 : Blk ((W5.alloc (.deferred (some []))).alloc (.loop R)) (wr.heap.size + 1) (bkA F D) := (hq5.out.alloc _).alloc _
        have hT7 : Tim ((W5.alloc (.deferred (some []))).alloc (.loop R)) := hT.out.kept (by
          have := hst.bel.block 3 (by rw [k0]; exact hg)
          rw [k0] at this
          exact this)
        have hit := hIt.out hsk (wr.heap.size + 1) _ v Y hst hq7 (fun hm => by
          have hm' : wr.heap.size + 1 ∈ [p.O, p.DF, p.L] := hm
          simp only [List.mem_cons, List.not_mem_nil, or_false] at hm'
          omega) hvb.out hT7 (by rw [k0]; exact hg) (by omega)
        rw [k3] at hit
        refine (callsIn_wide.2 hit).mono ?_
        rintro e W8 ⟨rfl, v8, hS8, hK8⟩
        have hl8 := hS8.lp
        have hend := run_endLoop (P := Tryd.prog) hl8 (by rw [hpe]; simp)
        have hpend : p.R.pending = none := by rw [hpe]
        have hq9 := hq6.out.stop k0 k1 k2 k3 hS8 hK8 { p.R with state := .exhausted }
        obtain ⟨W9, hW9⟩ : ∃ W9, W8.putObj p.L (.loop { p.R with state := .exhausted }) = W9 := ⟨_, rfl⟩
        rw [hW9] at hend hq9
        rw [k3] at hend
        obtain ⟨oa, cap8, rfl⟩ := hq9.form
        refine ⟨p.R.pending, W9, hend, ?_⟩
        rw [hpend]
        have x9 := hq9.o.cell
        have l9 := hq9.o.lt
        have n9 : (Y ++ X).length ≤ 5000 := by rw [List.length_append]; omega
        have own9 := hid hq9.own
        have hcb := hq9.bel.size
        generalize Y ++ X = YX at *
        obtain ⟨n, hn⟩ : ∃ n, YX.length = n := ⟨_, rfl⟩
        have hfin : Hid (∀ w2 v', w2.ownsRow w.heap.size 3 1 v' (n + 1) (YX.map (Value.int .i64) ++ [.int .i64 200]) → (W9.alloc (.cells #[.int .i64 200] 3)).grownBy w2 (Value.slice oa n cap8).ownBlock → (v'.ownBlock = (Value.slice oa n cap8).ownBlock ∨ v'.ownBlock = some (W9.alloc (.cells #[.int .i64 200] 3)).heap.size) → Blk w2 O #[.slice oa n cap8] ∧ Tq w (w2.setCell ⟨O, 0, none⟩ v') O (W5.heap.size :: ds) v' (YX ++ [200])) := fun w2 v' ho hg2 hat => by
          rw [← hn] at ho hg2 hat ⊢
          exact hq9.app ho hg2 hat
        rw [hn] at own9 n9 x9
        rw [h5] at hfin
        clear hend hpend hl8 hS8 hK8 hit hsk hpe hW9 k0 k1 k2 k3 k4 hR hp hst hq7 hT7 hIt hq9 hq6 hq5 hn
        gi_wp2_with (gi_at_builtin; refine wpListIn_append_own_at _ rfl _ _ 27 rfl w.heap.size 3 i0 _ 1 8 Tryd.underlying27 hi0 hz0 hz1 hz2 rfl (by omega) _ n (YX.map (Value.int .i64)) rfl (own9.out.alloc _) ⟨_, 0, none⟩ 1 1 [.int .i64 200] rfl rfl (World.news_of_block (cs := #[.int .i64 200]) (t := 3) (fr := (0, 0)) (heap_alloc_new _ _)) (by simp [Value.oneCell']) (by unfold maxLen; omega) (by omega) (by simp; omega) ?_; intro v' w2 ho hg2 hnil hat; obtain ⟨g9, c9, rfl⟩ := ownsRow_succ ho; obtain ⟨q2, hC⟩ := hfin.out _ _ ho hg2 hat; have x2 := q2.cell; have f2 := q2.frozen; have z2 := q2.lt; replace hC := hid hC; clear ho hg2 hat hnil q2 hfin own9 x9 l9)
        have hk1 : ((k : Int) + 1) = ((k + 1 : Nat) : Int) := by omega
        rw [hk1]
        refine ⟨⟨k + 1, (wr.heap.size + 1 + 1) :: ds, _, _, _, _, _, _, _, _, _, _, _, _, _, _, _, _, _, rfl, by omega, by rw [hE.out]; exact hC.out⟩, ?_⟩
        simp [intOf] <;> omega
      · obtain rfl : k = l.length := by omega
        have x9 := hq.o.cell
        obtain ⟨oa, cap8, rfl⟩ := hq.form
        replace hq := hid hq
        gi_wp2
        refine leaves_marks ds wr hq.out.df hq.out.nd (fun W' h1 h2 h3 => ?_)
        have hWo : Grow w W' (.slice oa (tpN l l.length).length cap8) (tpN l l.length) := ⟨own_sameV hq.out.own (by omega) (fun g e => h1 g (fun hm => (hq.out.dn g hm).2.1 e)), hq.out.bel.trans ⟨h3.1, h3.2.1, h3.2.2, by omega, fun b hb => h1 b (fun hm => by have := (hq.out.dn b hm).2.2; omega)⟩⟩
        refine ⟨.tuple #[.slice oa (tpN l l.length).length cap8, .int .i64 0], ?_, _, rfl, hWo⟩
        simp [results, Tryd.results80]
  · have e : (tp2 l).1 = [] := by
      unfold tp2 at hc ⊢
      split
      · rfl
      · rename_i h1
        rw [if_neg h1] at hc
        split
        · rename_i h2
          rw [if_pos h2] at hc
          exact absurd rfl hc
        · rfl
    rw [e]
    have hcb : ((tp2 l).2 == 0) = false := by simpa using hc
    obtain ⟨c, hcc⟩ : ∃ c, (tp2 l).2 = c := ⟨_, rfl⟩
    rw [hcc] at hA hcb ⊢
    clear hcc e hc
    replace h := hid h
    refine (callsIn_wide (n := 6)).1 (callsIn_of_wp_marks Tryd.func80 rfl trivial ?_ rfl)
    simp only [Tryd.ntmps80, List.size_toArray, List.length_cons, List.length_nil, Nat.reduceAdd, Nat.reduceSub, Array.replicate_succ, Array.replicate_zero, List.push_toArray, List.append_toArray, List.nil_append, List.cons_append]
    gi_wp2_with fail
    refine ⟨trivial, ?_⟩
    refine (callsIn_wide.2 (hA.out _ h.out)).mono ?_
    rintro e w1 ⟨rfl, hb⟩
    replace hb := hid hb
    gi_wp2
    refine ⟨.tuple #[.slice none 0 0, .int .i64 c], ?_, _, rfl, ⟨World.ownsRow_nil _ _ _ _, hb.out⟩⟩
    simp [results, Tryd.results80]
end Go.Proofs.YtifcdojaocndhaaDoor
