/- A loop that gathers numbers: its start and its end. -/
import Derived.Test.YtakdhmlegickmaaDoorV16
import Derived.Test.YtakdhmlegickmaaDoorVnv
import Derived.Test.YtakdhmlegickmaaDoorVov
import Derived.Test.YtakdhmlegickmaaDoorVbv
namespace Go.Proofs.YtakdhmlegickmaaDoor
open Go.ChangeShapes Go.WideShapes Go.ChangeAt Go.RowKit Go.Shelf
attribute [local go_sem] Oper.semAt_some
set_option linter.unusedVariables false
set_option linter.unusedSimpArgs false

theorem Sj.fin {p : Pj} {W : World} {v : Value} {acc : List Int} (h : Sj p W v acc) (R' : Loop) :
    let W9 := W.putObj p.L (.loop R')
    Blk W9 p.O #[v] ∧ W9.heap[p.DF]? = some (.deferred (some [])) ∧ (W9.putObj p.DF (.deferred none)).ownsRow p.w.heap.size 3 1 v acc.length (acc.map (Value.int .i64)) ∧ Below p.w.heap.size p.w (W9.putObj p.DF (.deferred none)) ∧ (∀ b, b ≠ p.L → b ≠ p.DF → (W9.putObj p.DF (.deferred none)).heap[b]? = W.heap[b]?) ∧ (W9.putObj p.DF (.deferred none)).heap.size = W.heap.size := by
  intro W9
  obtain ⟨n1, n2, n3⟩ := h.nd
  obtain ⟨m1, m2, m3⟩ := p.mem
  have k9 : ∀ b, b ≠ p.L → W9.heap[b]? = W.heap[b]? := fun b hb => World.putObj_heap_other (by omega)
  have ke : ∀ b, b ≠ p.L → b ≠ p.DF → (W9.putObj p.DF (.deferred none)).heap[b]? = W.heap[b]? := fun b h1 h2 => (World.putObj_heap_other (by omega)).trans (k9 b h1)
  have se : (W9.putObj p.DF (.deferred none)).heap.size = W.heap.size := by simp [W9, World.putObj]
  refine ⟨?_, (k9 _ n3).trans h.df, own_sameV h.own (by omega) (fun g e => ke g (fun e2 => h.ne g e (e2 ▸ m3)) (fun e2 => h.ne g e (e2 ▸ m2))), ?_, ke, se⟩
  · obtain ⟨t, hq⟩ := h.o
    exact ⟨t, (k9 _ n2).trans hq⟩
  · exact h.bel.trans ⟨rfl, rfl, rfl, by omega, fun b hb => ke b (fun e => by have := h.far.2.2; omega) (fun e => by have := h.far.2.1; omega)⟩
/-- a loop that begins: its own blocks lie above all that was there -/
theorem Sj.start {p : Pj} {w W6 : World} {R : Loop} (hb : Below w.heap.size w W6) (hO : Blk W6 p.O #[.slice none 0 0]) (hf : w.heap.size ≤ p.O) (hpw : p.w = w) (hD : p.DF = W6.heap.size) (hL : p.L = W6.heap.size + 1) (hR : p.R = R) : Sj p ((W6.alloc (.deferred (some []))).alloc (.loop R)) (.slice none 0 0) [] := by
  have hb7 : Below W6.heap.size W6 ((W6.alloc (.deferred (some []))).alloc (.loop R)) := ((Below.refl _ _).alloc (Nat.le_refl _) _).alloc (by simp) _
  have hL7 : ((W6.alloc (.deferred (some []))).alloc (.loop R)).heap[W6.heap.size + 1]? = some (.loop R) := by
    have := World.alloc_heap_new (W6.alloc (.deferred (some []))) (.loop R)
    rwa [World.size_alloc] at this
  have hD7 : ((W6.alloc (.deferred (some []))).alloc (.loop R)).heap[W6.heap.size]? = some (.deferred (some [])) := (Below.heap_alloc _ _ _ (by simp)).trans (World.alloc_heap_new W6 _)
  have hl := hO.lt
  have hs := hb.size
  refine ⟨by omega, by rw [hpw]; omega, hO.below hb7 hl, by rw [hD]; exact hD7, by rw [hL, hR]; exact hL7, World.ownsRow_nil _ _ _ _, fun g e => by simp [Value.ownBlock] at e, ?_⟩
  rw [hpw]
  exact hb.trans (hb7.mono hs)
end Go.Proofs.YtakdhmlegickmaaDoor

/- The pulses of a block: the program. -/
namespace Go.Proofs.YtakdhmlegickmaaDoor
open Go.ChangeShapes Go.WideShapes Go.ChangeAt Go.RowKit Go.Shelf
attribute [local go_sem] Oper.semAt_some
set_option linter.unusedVariables false
set_option linter.unusedSimpArgs false

set_option maxRecDepth 100000 in
set_option maxHeartbeats 4000000 in
theorem pulsesof_impl (F : Int) (D : ByteArray) (w : World) (hD : D.size ≤ maxLen) (hT : Tim w) (hg : 3 < w.heap.size) : Calls Tryd.prog 21 #[bkV F D] w fun e w' => ∃ v, e = .returned (.tuple #[v, .int .i64 (pls2 F D).2]) ∧ Grow w w' v (pls2 F D).1 := by
  have hO := hid (fun W => bkokP_impl F D W hD)
  have hq := Blk.new w (bkA F D) 33
  have x0 := hq.cell
  have hB0 := hid ((Below.refl w.heap.size w).alloc (Nat.le_refl _) (.cells (bkA F D) 33))
  cases hok : okB F D
  · have e : pls2 F D = ([], 1) := by unfold pls2; rw [hok]; rfl
    rw [e]
    rw [hok] at hO
    clear e hok
    refine (callsIn_wide (n := 5)).1 (callsIn_of_wp_marks Tryd.func21 rfl trivial ?_ rfl)
    simp only [Tryd.ntmps21, List.size_toArray, List.length_cons, List.length_nil, Nat.reduceAdd, Nat.reduceSub, Array.replicate_succ, Array.replicate_zero, List.push_toArray, List.append_toArray, List.nil_append, List.cons_append]
    gi_wp2_with fail
    refine ⟨trivial, ?_⟩
    refine (callsIn_wide.2 (hO.out _)).mono ?_
    rintro e w1 ⟨rfl, hb⟩
    have hb1 := hid (hB0.out.trans (hb.mono hB0.out.size))
    clear hb hB0 x0 hq
    gi_wp2
    refine ⟨.tuple #[.slice none 0 0, .int .i64 1], ?_, _, rfl, ⟨World.ownsRow_nil _ _ _ _, hb1.out⟩⟩
    simp [results, Tryd.results21]
  · have e : pls2 F D = (plsB F D, 0) := by unfold pls2; rw [hok]; rfl
    rw [e]
    have hBP := hid (fun W => blockPulses_impl F D W)
    have hIt : Hid (∀ {base Y N : Nat} {fix : List Nat} {S : World → Value → List Int → Prop} (K : Sink base Y fix (fun _ => True) N S) (BB : Nat) (W : World) (v : Value) (pre : List Int) (h : S W v pre) (hq : Blk W BB (bkA F D)) (hf : BB ∉ fix) (hn : v.ownBlock ≠ some BB) (hT : Tim W) (hg : 3 < base) (hN : pre.length + 1024 ≤ N), Calls Tryd.prog 66 #[.func (.yield Y) #[] #[], .pointer (some ⟨BB, 0, none⟩)] W fun e W' => e = .returned (.tuple #[]) ∧ ∃ v', S W' v' (pre ++ plsB F D) ∧ Kp fix W v W' v') := fun K => bpit_impl K F D hok
    rw [hok] at hO
    clear e hok
    generalize plsB F D = PL at *
    replace hT := hid hT
    refine (callsIn_wide (n := 5)).1 (callsIn_of_wp_marks Tryd.func21 rfl trivial ?_ rfl)
    simp only [Tryd.ntmps21, List.size_toArray, List.length_cons, List.length_nil, Nat.reduceAdd, Nat.reduceSub, Array.replicate_succ, Array.replicate_zero, List.push_toArray, List.append_toArray, List.nil_append, List.cons_append]
    gi_wp2_with fail
    refine ⟨trivial, ?_⟩
    refine (callsIn_wide.2 (hO.out _)).mono ?_
    rintro e w1 ⟨rfl, hb⟩
    have hb1 := hB0.out.trans (hb.mono hB0.out.size)
    have hq1 := hq.below hb hq.lt
    have hq2 := hq1.alloc (.cells #[.slice none 0 0] 43)
    have hb2 := hid (hb1.alloc hb1.size (.cells #[.slice none 0 0] 43))
    have hO2 := hid (Blk.new w1 #[.slice none 0 0] 43)
    have x2 := hq2.cell
    have l2 := hq2.lt
    have l1 : w.heap.size ≤ w1.heap.size := hb1.size
    clear hb hB0 x0 hq hq1 hb1 hO
    gi_wp2_with fail
    refine ⟨trivial, ?_⟩
    refine (callsIn_wide.2 (hBP.out _)).mono ?_
    rintro e W5 ⟨rfl, hw5⟩
    obtain ⟨W4, hW4⟩ : ∃ W4, w1.alloc (.cells #[.slice none 0 0] 43) = W4 := ⟨_, rfl⟩
    rw [hW4] at hb2 hO2 hw5 ⊢
    obtain ⟨O, hOO⟩ : ∃ O, w1.heap.size = O := ⟨_, rfl⟩
    rw [hOO] at hO2 l1 ⊢
    have hs4 : W4.heap.size = O + 1 := by rw [← hW4]; simp [hOO]
    have hb5 : Below W4.heap.size W4 W5 := by rw [hw5]; exact (Below.refl _ _).alloc (Nat.le_refl _) _
    have hq5 : Blk W5 W4.heap.size (bkA F D) := by rw [hw5]; exact Blk.new W4 _ _
    have hs5 : W5.heap.size = W4.heap.size + 1 := by rw [hw5]; simp
    rw [hs4] at hq5 hs5
    have hO5 := hid (hO2.out.below hb5 hO2.out.lt)
    have hb6 := hid (hb2.out.trans (hb5.mono hb2.out.size))
    replace hq5 := hid hq5
    replace hs5 := hid hs5
    clear hb5 hw5 hO2 hb2 hW4 hOO x2 l2 hq2 hBP
    gi_wp2_with fail
    refine wpIn_rangeFunc ?_
    intro fn hfn
    obtain ⟨R, hR⟩ : ∃ R : Loop, R = { state := .ready, pending := none, fn := fn, tmps := poT (bkV F D) (.pointer (some ⟨w.heap.size, 0, none⟩)) (.slice none 0 0) (.int .i64 0) undef (bkV F D) (.bool true) (.bool false) (bkV F D) (.func (.func 66) #[] #[.pointer (some ⟨O + 1, 0, none⟩)]) undef undef undef undef undef O undef, params := #[11], assign := poAs, body := poBd, defers := W5.heap.size } := ⟨_, rfl⟩
    obtain ⟨p, hp⟩ : ∃ p : Pj, p = { w := w, O := O, DF := W5.heap.size, L := W5.heap.size + 1, R := R } := ⟨_, rfl⟩
    refine ⟨W5.heap.size + 1, [{ target := .collected W5.heap.size, args := #[] }], (W5.alloc (.deferred (some []))).alloc (.loop R), { target := .fn (.func 66) #[.pointer (some ⟨O + 1, 0, none⟩)], args := #[.func (.yield (W5.heap.size + 1)) #[] #[]] }, (W5.alloc (.deferred (some []))).alloc (.loop R), 66, #[.func (.yield (W5.heap.size + 1)) #[] #[], .pointer (some ⟨O + 1, 0, none⟩)], (W5.alloc (.deferred (some []))).alloc (.loop R), ?_, ?_, fun _ _ => trivial, ?_, fun _ => by omega, ?_⟩
    · rw [hR]
      exact run_enterLoop_outer _ _ _ _ _
    · simp [resolve, go_sem]
    · simp [invoke, go_sem, enters_of Tryd.func66 (by kernel_rfl) rfl]
    have hpb : p.w = w ∧ p.O = O ∧ p.DF = W5.heap.size ∧ p.L = W5.heap.size + 1 ∧ p.R = R := by subst hp; exact ⟨rfl, rfl, rfl, rfl, rfl⟩
    obtain ⟨k0, k1, k2, k3, k4⟩ := hpb
    have hpe : p.R = { state := .ready, pending := none, fn := fn, tmps := poT (bkV F D) (.pointer (some ⟨w.heap.size, 0, none⟩)) (.slice none 0 0) (.int .i64 0) undef (bkV F D) (.bool true) (.bool false) (bkV F D) (.func (.func 66) #[] #[.pointer (some ⟨O + 1, 0, none⟩)]) undef undef undef undef undef p.O undef, params := #[11], assign := poAs, body := poBd, defers := p.DF } := by
      rw [k4, k1, k2]
      exact hR
    have hst := Sj.start (R := R) hb6.out (by rw [k1]; exact hO5.out) (by omega) k0 k2 k3 k4
    have hsk := po_sink p fn _ _ _ _ _ _ _ _ _ _ _ _ _ _ _ _ hpe
    have h5 := hs5.out
    have hq7 : Blk ((W5.alloc (.deferred (some []))).alloc (.loop R)) (O + 1) (bkA F D) := (hq5.out.alloc _).alloc _
    have hT7 : Tim ((W5.alloc (.deferred (some []))).alloc (.loop R)) := hT.out.kept (by
      have := hst.bel.block 3 (by rw [k0]; exact hg)
      rw [k0] at this
      exact this)
    have hit := hIt.out hsk (O + 1) _ (.slice none 0 0) [] hst hq7 (fun hm => by
      have hm' : O + 1 ∈ [p.O, p.DF, p.L] := hm
      simp only [List.mem_cons, List.not_mem_nil, or_false] at hm'
      omega) (by simp [Value.ownBlock]) hT7 (by rw [k0]; exact hg) (by simp)
    rw [k3] at hit
    refine (callsIn_wide.2 hit).mono ?_
    rintro e W8 ⟨rfl, v8, hS8, hK8⟩
    rw [List.nil_append] at hS8
    have hl8 := hS8.lp
    have hend := run_endLoop (P := Tryd.prog) hl8 (by rw [hpe]; simp)
    have hpend : p.R.pending = none := by rw [hpe]
    obtain ⟨y1, y2, y3, y4, _, _⟩ := hS8.fin { p.R with state := .exhausted }
    obtain ⟨oa, cap, hv8⟩ := hS8.form
    obtain ⟨W9, hW9⟩ : ∃ W9, W8.putObj p.L (.loop { p.R with state := .exhausted }) = W9 := ⟨_, rfl⟩
    rw [hW9] at hend y1 y2 y3 y4
    rw [k3] at hend
    rw [k0] at y3 y4
    rw [k1] at y1
    rw [k2] at y2 y3 y4
    refine ⟨p.R.pending, W9, hend, ?_⟩
    rw [hpend]
    have x9 := y1.cell
    rw [h5] at y2 y3 y4
    replace y2 := hid y2
    replace y3 := hid y3
    replace y4 := hid y4
    clear hend hpend hl8 hS8 hK8 hit hsk hpe hW9 k0 k1 k2 k3 k4 hR hp hst hq7 hT7 y1 hIt hO5 hb6 hq5
    subst hv8
    gi_wp2
    refine ⟨by simp, .inl ⟨_, _, rfl, run_takeDeferred y2.out, ?_⟩⟩
    refine ⟨.tuple #[.slice oa PL.length cap, .int .i64 0], ?_, _, rfl, ⟨y3.out, y4.out⟩⟩
    simp [results, Tryd.results21]
end Go.Proofs.YtakdhmlegickmaaDoor
