/- The blocks of a text, one by one to whoever asks for them: the program's iterator. -/
import Derived.Test.YtakdhmlegickmaaDoorZuw
import Derived.Test.YtakdhmlegickmaaDoorZcw
import Derived.LoopNIn
import Derived.LoopIn
namespace Go.Proofs.YtakdhmlegickmaaDoor
open Go.ChangeShapes Go.WideShapes Go.ChangeAt Go.RowKit Go.Shelf
attribute [local go_sem] Oper.semAt_some
set_option linter.unusedVariables false
set_option linter.unusedSimpArgs false

theorem two_newI (w : World) (A B : Array Value) (t u : TypeId) : Blk ((w.alloc (.cells A t)).alloc (.cells B u)) w.heap.size A ∧ Blk ((w.alloc (.cells A t)).alloc (.cells B u)) (w.heap.size + 1) B ∧ Below w.heap.size w ((w.alloc (.cells A t)).alloc (.cells B u)) := by
  refine ⟨(Blk.new w A t).alloc _, ?_, ((Below.refl _ _).alloc (Nat.le_refl _) _).alloc (by simp) _⟩
  have := Blk.new (w.alloc (.cells A t)) B u
  rw [World.size_alloc] at this
  exact this
theorem Ry.set {p : Pk} {W : World} {cv : Value} {acc : List (Int × ByteArray)} (h : Ry p W cv acc) (C i : Nat) (u : Value) (hC : C ∉ p.bs) (ho : cv.ownBlock ≠ some C) (hb : p.w.heap.size ≤ C) : Ry p (W.setCell ⟨C, i, none⟩ u) cv acc := by
  have k : ∀ b, b ≠ C → (W.setCell ⟨C, i, none⟩ u).heap[b]? = W.heap[b]? := fun b hne => Below.heap_setCell _ _ _ _ hne
  obtain ⟨m1, m2, m3, m5, m6⟩ := p.mem
  have n : ∀ b, b ∈ p.bs → b ≠ C := fun b hb e => hC (e ▸ hb)
  have sg : W.grownBy (W.setCell ⟨C, i, none⟩ u) (some C) := ⟨rfl, rfl, rfl, by simp [World.setCell], fun k _ hk => Below.heap_setCell _ _ _ _ (fun e => hk (by rw [e]))⟩
  exact ⟨h.sep, blk_same h.rl (k _ (n _ m1)), blk_same h.re (k _ (n _ m2)), blk_same h.o (k _ (n _ m3)), (k _ (n _ m5)).trans h.df, (k _ (n _ m6)).trans h.lp, h.own.kept sg (.inr ho), h.ne, h.bel.setCell (p := ⟨C, i, none⟩) hb _⟩
/-- the iterator at work -/
structure It (p : Pk) (W : World) (t : ByteArray) (C : Nat) (a : Int) (cv : Value) (acc : List (Int × ByteArray)) : Prop where
  r : Ry p W cv acc
  c : Blk W C (curA t a)
  ne : cv.ownBlock ≠ some C
  out : C ∉ p.bs
  far : p.w.heap.size ≤ C
theorem It.below {p : Pk} {W W' : World} {t : ByteArray} {C : Nat} {a : Int} {cv : Value} {acc : List (Int × ByteArray)} (h : It p W t C a cv acc) (hb : Below W.heap.size W W') : It p W' t C a cv acc := ⟨h.r.below hb, h.c.below hb h.c.lt, h.ne, h.out, h.far⟩
/-- a block has been kept: the cursor goes on -/
theorem It.next {p : Pk} {W W' : World} {t : ByteArray} {C : Nat} {a A : Int} {cv cv' : Value} {acc acc' : List (Int × ByteArray)} (h : It p W t C a cv acc) (hr : Ry p W' cv' acc') (hk : ∀ b, b < W.heap.size → b ≠ p.O → b ≠ p.L → cv.ownBlock ≠ some b → W'.heap[b]? = W.heap[b]?) (hg : cv'.ownBlock = cv.ownBlock ∨ ∃ g, cv'.ownBlock = some g ∧ W.heap.size ≤ g) :
    Blk W' C (curA t a) ∧ It p ((W'.setCell ⟨C, 0, none⟩ (.string t)).setCell ⟨C, 1, none⟩ (.int .i64 A)) t C A cv' acc' := by
  have nO : C ≠ p.O := fun e => h.out (e ▸ p.mem.2.2.1)
  have nL : C ≠ p.L := fun e => h.out (e ▸ p.mem.2.2.2.2)
  have q : Blk W' C (curA t a) := blk_same h.c (hk C h.c.lt nO nL h.ne)
  have hne : cv'.ownBlock ≠ some C := by
    rcases hg with e | ⟨g, e, hl⟩
    · rw [e]; exact h.ne
    · rw [e]
      intro e2
      have := h.c.lt
      simp at e2
      omega
  exact ⟨q, (hr.set C 0 _ h.out hne h.far).set C 1 _ h.out hne h.far, (q.set 0 (.string t)).set 1 (.int .i64 A), hne, h.out, h.far⟩
theorem rdL_code (t : ByteArray) : ∀ (f : Nat) (a : Int) (acc : List (Int × ByteArray)), (rdL t f a acc).2 = 0 ∨ (rdL t f a acc).2 = 1 ∨ (rdL t f a acc).2 = 4 ∨ (rdL t f a acc).2 = 9 ∨ (rdL t f a acc).2 = 8 ∨ (rdL t f a acc).2 = 10 ∨ (rdL t f a acc).2 = 6 := by
  intro f
  induction f with
  | zero => intro a acc; exact .inl rfl
  | succ f ih =>
    intro a acc
    have e : rdL t (f + 1) a acc = if a < (t.size : Int) then (if (tkB t a).2 ≠ 0 then ([], (tkB t a).2) else if acc.length = 6 then ([], 6) else rdL t f (tkB t a).1.1.2 (acc ++ [(tkB t a).1.2])) else (acc, 0) := rfl
    rw [e]
    have hc := tkB_code t a
    split
    · split
      · show (tkB t a).2 = 0 ∨ _
        omega
      · split
        · exact .inr (.inr (.inr (.inr (.inr (.inr rfl)))))
        · exact ih _ _
    · exact .inl rfl
set_option maxRecDepth 100000 in
set_option maxHeartbeats 4000000 in
theorem it_impl (p : Pk) (t : ByteArray) (e0 e1 e2 e3 e4 e5 : Addr) (hE : Err6 p.w e0 e1 e2 e3 e4 e5) (hY1 : Yok p) (hY2 : Yerr p) (hY3 : Ymany p e5) (W : World) (h : Ry p W (.slice none 0 0) []) (ht : t.size ≤ 65536) (BT : Nat) (hBT : Blk p.w BT #[.string t]) :
    Calls Tryd.prog 59 #[.func (.yield p.L) #[] #[], .pointer (some ⟨BT, 0, none⟩)] W fun e W' => e = .returned (.tuple #[]) ∧ ItP p W' (rdL t (t.size + 1) 0 []).1 (errV6 e0 e1 e2 e3 e4 e5 (rdL t (t.size + 1) 0 []).2) := by
  have hlt0 : ∀ b, b ∈ p.bs → b < W.heap.size := fun b hb => by
    have hb' : b ∈ [p.RL, p.RE, p.O, p.DF, p.L] := hb
    simp only [List.mem_cons, List.not_mem_nil, or_false] at hb'
    rcases hb' with rfl | rfl | rfl | rfl | rfl
    · exact h.rl.lt
    · exact h.re.lt
    · exact h.o.lt
    · exact (Array.getElem?_eq_some_iff.1 h.df).1
    · exact (Array.getElem?_eq_some_iff.1 h.lp).1
  have hI0 : Hid (It p (W.alloc (.cells (curA t 0) 39)) t W.heap.size 0 (.slice none 0 0) []) :=
    ⟨h.below ((Below.refl _ _).alloc (Nat.le_refl _) _), Blk.new W _ _, by simp [Value.ownBlock], fun hb => by have := hlt0 _ hb; omega, h.bel.size⟩
  have xbt := hBT.below h.bel hBT.lt
  have xb := xbt.cell
  have hbt := xbt.lt
  replace hBT := hid hBT
  clear xbt
  obtain ⟨Z, hZ⟩ : ∃ Z, rdL t (t.size + 1) 0 [] = Z := ⟨_, rfl⟩
  rw [hZ]
  replace hZ := hid hZ
  replace h := hid h
  replace hY1 := hid hY1
  replace hY2 := hid hY2
  replace hY3 := hid hY3
  replace hE := hid hE
  clear hlt0
  refine (callsIn_wide (n := 3)).1 (callsIn_of_wp Tryd.func59 rfl trivial ?_ rfl)
  simp only [Tryd.ntmps59, List.size_toArray, List.length_cons, List.length_nil, Nat.reduceAdd, Nat.reduceSub, Array.replicate_succ, Array.replicate_zero, List.push_toArray, List.append_toArray, List.nil_append, List.cons_append]
  gi_wp2
  obtain ⟨C, hC⟩ : ∃ C, W.heap.size = C := ⟨_, rfl⟩
  obtain ⟨W1, hW1⟩ : ∃ W1, W.alloc (.cells (curA t 0) 39) = W1 := ⟨_, rfl⟩
  rw [hW1, hC] at hI0
  rw [hW1, hC]
  clear hW1 hC xb hbt h
  gi_loopw [] (fun wr => ∃ (f : Nat) (a : Int) (cv : Value) (acc : List (Int × ByteArray)), It p wr t C a cv acc ∧ rdL t f a acc = Z ∧ (t.size : Int) - a < f ∧ 0 ≤ a ∧ a ≤ t.size ∧ acc.length ≤ 6) (fun wr => rdM wr C t.size)
  case atStart => exact ⟨t.size + 1, 0, _, [], hI0.out, hZ.out, by omega, by omega, by omega, by simp⟩
  case round =>
    obtain ⟨f, a, cv, acc, hI, hZ2, hf, ha0, ha1, hacc⟩ := hrel
    clear hI0 hZ
    have xc := hI.c.cell
    have lc := hI.c.lt
    have xbt := hBT.out.below hI.r.bel hBT.out.lt
    have xb := xbt.cell
    have lb := xbt.lt
    clear xbt
    by_cases hlt : a < (t.size : Int)
    · obtain ⟨f, rfl⟩ : ∃ f', f = f' + 1 := ⟨f - 1, by omega⟩
      have hT := hid (fun V (hV : Err6 V e0 e1 e2 e3 e4 e5) => takeBlock_impl t a e0 e1 e2 e3 e4 e5 V (by unfold maxLen; omega) hV)
      have hk := @tkB_ok t a
      have hE9 : rdL t (f + 1) a acc = if a < (t.size : Int) then (if (tkB t a).2 ≠ 0 then ([], (tkB t a).2) else if acc.length = 6 then ([], 6) else rdL t f (tkB t a).1.1.2 (acc ++ [(tkB t a).1.2])) else (acc, 0) := rfl
      rw [if_pos hlt, hZ2] at hE9
      clear hZ2
      obtain ⟨X, hX⟩ : ∃ X, tkB t a = X := ⟨_, rfl⟩
      rw [hX] at hT hk hE9
      clear hX
      obtain ⟨⟨⟨S, A⟩, ⟨F, D⟩⟩, c⟩ := X
      simp only at hk hE9
      have hM0 : Hid (rdM wr C t.size = ((t.size : Int) - a).toNat) := rdM_at hI.c
      have hEr := hid (hE.out.below hI.r.bel)
      replace hI := hid hI
      replace hk := hid hk
      replace hE9 := hid hE9
      have hltb : decide (a < (t.size : Int)) = true := decide_eq_true hlt
      gi_wp2_with fail
      refine ⟨trivial, ?_⟩
      refine (callsIn_wide.2 (hT.out _ hEr.out)).mono ?_
      rintro e w1 ⟨rfl, hb⟩
      obtain ⟨q4, q5, hal⟩ := two_newI w1 (curA S A) (bkA F D) 39 33
      have hI1 := hid ((hI.out.below hb).below hal)
      have hob : Hid (∀ g, cv.ownBlock = some g → g < w1.heap.size) := fun g e => ((hI.out.below hb).r.own.lt g e).2
      have hlC := (hI.out.below hb).c.lt
      have hlb : Hid (∀ b, b ∈ p.bs → b < w1.heap.size) := fun b hb' => by
        have hh := (hI.out.below hb).r
        have hb2 : b ∈ [p.RL, p.RE, p.O, p.DF, p.L] := hb'
        simp only [List.mem_cons, List.not_mem_nil, or_false] at hb2
        rcases hb2 with rfl | rfl | rfl | rfl | rfl
        · exact hh.rl.lt
        · exact hh.re.lt
        · exact hh.o.lt
        · exact (Array.getElem?_eq_some_iff.1 hh.df).1
        · exact (Array.getElem?_eq_some_iff.1 hh.lp).1
      replace q4 := hid q4
      replace q5 := hid q5
      clear hb hI xc lc xb lb hal hT hEr
      by_cases hc : c = 0
      · obtain ⟨hS9, hA1, hA2, _⟩ := hk.out hc
        have hE2 := hE9.out
        rw [if_neg (by omega)] at hE2
        replace hE2 := hid hE2
        clear hE9 hk
        subst hc hS9
        have er : errV6 e0 e1 e2 e3 e4 e5 0 = .nilIface := rfl
        unfold tkE
        dsimp only
        rw [er]
        clear er
        obtain ⟨b4, eb4⟩ : ∃ b, w1.heap.size = b := ⟨_, rfl⟩
        obtain ⟨W2, eW⟩ : ∃ W, (w1.alloc (.cells (curA S A) 39)).alloc (.cells (bkA F D) 33) = W := ⟨_, rfl⟩
        rw [eW, eb4] at q4 q5
        rw [eW] at hI1
        rw [eb4] at hob hlb hlC
        have x5 := q5.out.cell
        by_cases h6 : acc.length = 6
        · have hE3 := hE2.out
          rw [if_pos h6] at hE3
          subst hE3
          obtain ⟨fn, tmps, assign, body, hy, hR⟩ := hY3.out 2 W2 cv acc F D hI1.out.r h6
          replace hR := hid hR
          clear hE2 h6
          gi_wp2
          refine hR.out.mono ?_
          rintro e W3 ⟨rfl, hx3⟩
          replace hx3 := hid hx3
          clear hy hR x5
          gi_wp2
          exact bodyPost_ret (results_none rfl _ _ _) rfl ⟨rfl, .inr ⟨rfl, e5, rfl, hx3.out⟩⟩
        · have hE3 := hE2.out
          rw [if_neg h6] at hE3
          replace hE3 := hid hE3
          obtain ⟨fn, tmps, assign, body, hy, hR⟩ := hY1.out 2 W2 cv acc F D hI1.out.r (by omega)
          replace hR := hid hR
          clear hE2
          gi_wp2
          refine hR.out.mono ?_
          rintro e W3 ⟨rfl, cv', hr3, hk3, hs3, hg3⟩
          obtain ⟨qC, hI3⟩ := It.next (A := A) hI1.out hr3 hk3 hg3
          have nO : b4 ≠ p.O := fun e => by have := hlb.out _ p.mem.2.2.1; omega
          have nL : b4 ≠ p.L := fun e => by have := hlb.out _ p.mem.2.2.2.2; omega
          have q43 : Blk W3 b4 (curA S A) := blk_same q4.out (hk3 b4 q4.out.lt nO nL (fun e => by have := hob.out _ e; omega))
          have yC := qC.cell
          have fC := qC.frozen
          have kC := qC.lt
          have y4 := q43.cell
          have hM3 : Hid (rdM ((W3.setCell ⟨C, 0, none⟩ (.string S)).setCell ⟨C, 1, none⟩ (.int .i64 A)) C S.size = ((S.size : Int) - A).toNat) := rdM_at hI3.c
          have n4 : ¬ b4 = C := by omega
          have n5 : ¬ C = b4 := by omega
          replace hI3 := hid hI3
          clear hr3 hk3 hs3 hg3 qC q43 hy hR x5 eW eb4
          gi_wp2
          go_roundw
          case rel => exact ⟨f, A, cv', _, hI3.out, hE3.out.symm, by omega, by omega, by omega, by rw [List.length_append]; simp; omega⟩
          case measure =>
            rw [hM3.out, hM0.out]
            omega
      · have hE2 := hE9.out
        rw [if_pos hc] at hE2
        subst hE2
        obtain ⟨x, hx⟩ := errV6_some e0 e1 e2 e3 e4 e5 c hc
        unfold tkE
        dsimp only
        rw [hx]
        replace hx := hid hx
        clear hE9 hk
        obtain ⟨b4, eb4⟩ : ∃ b, w1.heap.size = b := ⟨_, rfl⟩
        obtain ⟨W2, eW⟩ : ∃ W, (w1.alloc (.cells (curA S A) 39)).alloc (.cells (bkA F D) 33) = W := ⟨_, rfl⟩
        rw [eW, eb4] at q4 q5
        rw [eW] at hI1
        rw [eb4] at hob hlb hlC
        have x5 := q5.out.cell
        obtain ⟨fn, tmps, assign, body, hy, hR⟩ := hY2.out 2 W2 cv acc F D x hI1.out.r
        replace hR := hid hR
        gi_wp2
        refine hR.out.mono ?_
        rintro e W3 ⟨rfl, hx3⟩
        replace hx3 := hid hx3
        clear hy hR x5
        gi_wp2
        exact bodyPost_ret (results_none rfl _ _ _) rfl ⟨rfl, .inr ⟨rfl, x, hx.out, by show Rx p _ (errV6 e0 e1 e2 e3 e4 e5 c); rw [hx.out]; exact hx3.out⟩⟩
    · have hE9 : rdL t f a acc = (acc, 0) := by
        cases f with
        | zero => rfl
        | succ f => exact if_neg hlt
      rw [hZ2] at hE9
      subst hE9
      have hltb : decide (a < (t.size : Int)) = false := decide_eq_false hlt
      replace hI := hid hI
      clear hZ2
      gi_wp2
      exact bodyPost_end (v := .tuple #[]) (by simp [results, Tryd.results59]) rfl ⟨rfl, .inl ⟨cv, hI.out.r, rfl⟩⟩
end Go.Proofs.YtakdhmlegickmaaDoor
