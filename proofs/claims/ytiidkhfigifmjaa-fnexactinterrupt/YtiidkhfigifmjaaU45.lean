/- Eight registers that are the same are told the same. -/
import Derived.Test.YtiidkhfigifmjaaCbu
import Derived.ChangeKeysEq
import Derived.Test.YtiidkhfigifmjaaU18
namespace Go.Proofs.Ytiidkhfigifmjaa
open Go.ChangeShapes Go.WideShapes Go.ChangeAt Go.RowKit
set_option linter.unusedVariables false
set_option linter.unusedSimpArgs false

theorem part_int {xs : Array Value} {i : Nat} {v : Value} (h : xs[i]? = some v) (w : World) : (part 3 xs i).run Try.prog w = .ok v w := by
  have hu := Try.underlying3
  simp [part, isAgg, go_sem, hu, h]
theorem eq_int1 (d : Nat) (z : Int) (w : World) : (Op.equalIn (d + 1) 3 (.int .i64 z) (.int .i64 z)).run Try.prog w = .ok true w := by
  have hu := Try.underlying3
  simp [Op.equalIn, go_sem, hu]
theorem items_self (d : Nat) (xs : Array Value) (w : World) : ∀ is : List Nat, (∀ i ∈ is, ∃ z, xs[i * 1]? = some (.int .i64 z)) → (Op.eqItems (d + 1) 3 1 xs xs is).run Try.prog w = .ok true w := by
  intro is
  induction is with
  | nil => intro _; rfl
  | cons i t ih =>
    intro h
    obtain ⟨z, hz⟩ := h i (by simp)
    simp only [Op.eqItems, Sem.run_bind, part_int hz, Result.andThen_ok, eq_int1, Bool.not_true, Bool.false_eq_true, if_false]
    exact ih (fun j hj => h j (by simp [hj]))
theorem eq8 (d : Nat) (x0 x1 x2 x3 x4 x5 x6 x7 : Int) (w : World) : Sem.run Try.prog (Op.equalIn (d + 1 + 1) 23 (.agg #[.int .i64 x0, .int .i64 x1, .int .i64 x2, .int .i64 x3, .int .i64 x4, .int .i64 x5, .int .i64 x6, .int .i64 x7]) (.agg #[.int .i64 x0, .int .i64 x1, .int .i64 x2, .int .i64 x3, .int .i64 x4, .int .i64 x5, .int .i64 x6, .int .i64 x7])) w = .ok true w := by
  obtain ⟨i, hi⟩ : ∃ i, Try.prog.info? 3 = some i := Option.isSome_iff_exists.1 (by kernel_rfl)
  have c1 : Try.prog.cellsOf 3 = 1 := by kernel_rfl
  rw [run_equalIn_array (w := w) (d + 1) _ _ Try.underlying23 hi, c1]
  refine items_self d _ w _ (fun i hi => ?_)
  have hi8 : i < 8 := List.mem_range.1 hi
  rcases (by omega : i = 0 ∨ i = 1 ∨ i = 2 ∨ i = 3 ∨ i = 4 ∨ i = 5 ∨ i = 6 ∨ i = 7) with rfl | rfl | rfl | rfl | rfl | rfl | rfl | rfl <;> exact ⟨_, rfl⟩
theorem eq8a (x0 x1 x2 x3 x4 x5 x6 x7 : Int) (w : World) : Sem.run Try.prog (Op.equalIn 9999 23 (.agg #[.int .i64 x0, .int .i64 x1, .int .i64 x2, .int .i64 x3, .int .i64 x4, .int .i64 x5, .int .i64 x6, .int .i64 x7]) (.agg #[.int .i64 x0, .int .i64 x1, .int .i64 x2, .int .i64 x3, .int .i64 x4, .int .i64 x5, .int .i64 x6, .int .i64 x7])) w = .ok true w := eq8 9997 _ _ _ _ _ _ _ _ w
theorem eq8b (x0 x1 x2 x3 x4 x5 x6 x7 : Int) (w : World) : Sem.run Try.prog (Op.equalIn 10000 23 (.agg #[.int .i64 x0, .int .i64 x1, .int .i64 x2, .int .i64 x3, .int .i64 x4, .int .i64 x5, .int .i64 x6, .int .i64 x7]) (.agg #[.int .i64 x0, .int .i64 x1, .int .i64 x2, .int .i64 x3, .int .i64 x4, .int .i64 x5, .int .i64 x6, .int .i64 x7])) w = .ok true w := eq8 9998 _ _ _ _ _ _ _ _ w
end Go.Proofs.Ytiidkhfigifmjaa

/- Slots of a frame that are written in any order. -/
namespace Go.Proofs.Ytiidkhfigifmjaa
set_option linter.unusedVariables false

def putsA (A : Act) : List (Nat × Value) → Act
  | [] => A
  | (i, v) :: t => (putsA A t).put (some i) v
def lookA : List (Nat × Value) → Nat → Option Value
  | [], _ => none
  | (i, v) :: t, k => if i = k then some v else lookA t k
def updA : List (Nat × Value) → Nat → Value → List (Nat × Value)
  | [], _, _ => []
  | (i, u) :: t, k, v => if i = k then (i, v) :: t else (i, u) :: updA t k v
theorem putsA_size (A : Act) : ∀ L, (putsA A L).tmps.size = A.tmps.size := by
  intro L
  induction L with
  | nil => rfl
  | cons x t ih =>
    show ((putsA A t).tmps.setIfInBounds x.1 x.2).size = _
    rw [Array.size_setIfInBounds, ih]
theorem putsA_defers (A : Act) : ∀ L, (putsA A L).defers = A.defers := by
  intro L
  induction L with
  | nil => rfl
  | cons x t ih => exact ih
theorem putsA_get (A : Act) (k : Nat) (hk : k < A.tmps.size) : ∀ L, (putsA A L).tmps.getD k undef = (lookA L k).getD (A.tmps.getD k undef) := by
  intro L
  induction L with
  | nil => rfl
  | cons x t ih =>
    obtain ⟨i, v⟩ := x
    show ((putsA A t).tmps.setIfInBounds i v).getD k undef = ((if i = k then some v else lookA t k).getD _)
    have hs := putsA_size A t
    by_cases e : i = k
    · subst e
      rw [if_pos rfl, Array.getD_eq_getD_getElem?, Array.getElem?_setIfInBounds, if_pos rfl, if_pos (by omega)]
      rfl
    · rw [if_neg e, ← ih, Array.getD_eq_getD_getElem?, Array.getElem?_setIfInBounds, if_neg e, ← Array.getD_eq_getD_getElem?]
theorem put_same (a : Act) (k : Nat) (u v : Value) : (a.put (some k) u).put (some k) v = a.put (some k) v := by
  show ({ a with tmps := (a.tmps.setIfInBounds k u).setIfInBounds k v } : Act) = { a with tmps := a.tmps.setIfInBounds k v }
  congr 1
  apply Array.ext_getElem?
  intro j
  simp only [Array.getElem?_setIfInBounds, Array.size_setIfInBounds]
  split <;> rfl
theorem putsA_put (A : Act) (k : Nat) (v : Value) : ∀ L, (lookA L k).isSome = true → (putsA A L).put (some k) v = putsA A (updA L k v) := by
  intro L
  induction L with
  | nil => intro h; cases h
  | cons x t ih =>
    obtain ⟨i, u⟩ := x
    intro h
    show ((putsA A t).put (some i) u).put (some k) v = putsA A (if i = k then (i, v) :: t else (i, u) :: updA t k v)
    by_cases e : i = k
    · subst e
      rw [if_pos rfl]
      exact put_same _ _ _ _
    · rw [if_neg e]
      have h2 : (lookA t k).isSome = true := by
        have : (lookA ((i, u) :: t) k) = lookA t k := by show (if i = k then some u else lookA t k) = _; rw [if_neg e]
        rw [this] at h
        exact h
      show _ = (putsA A (updA t k v)).put (some i) u
      rw [← ih h2]
      exact (Act.put_comm _ (x := some i) (y := some k) u v (fun d hd => by
        have : i = d := Option.some.inj hd
        subst this
        exact fun e2 => e (Option.some.inj e2).symm))
theorem putsA_self (A : Act) : ∀ (ks : List Nat), putsA A (ks.map fun k => (k, A.tmps.getD k undef)) = A := by
  intro ks
  induction ks with
  | nil => rfl
  | cons k t ih =>
    show (putsA A (t.map fun k => (k, A.tmps.getD k undef))).put (some k) (A.tmps.getD k undef) = A
    rw [ih]
    show ({ A with tmps := A.tmps.setIfInBounds k (A.tmps.getD k undef) } : Act) = A
    have : A.tmps.setIfInBounds k (A.tmps.getD k undef) = A.tmps := by
      apply Array.ext_getElem?
      intro j
      rw [Array.getElem?_setIfInBounds]
      split
      · rename_i e
        subst e
        split
        · rename_i hl
          rw [Array.getElem?_eq_getElem hl]
          rfl
        · rename_i hl
          rw [Array.getElem?_eq_none (by omega)]
      · rfl
    rw [this]
end Go.Proofs.Ytiidkhfigifmjaa

/- While an answer of a processor, a memory and cycles is laid into variables of its own, in any order. -/
namespace Go.Proofs.Ytiidkhfigifmjaa
open Go.ChangeShapes Go.WideShapes Go.ChangeAt Go.RowKit
set_option linter.unusedVariables false
set_option linter.unusedSimpArgs false

theorem Sts.perm {W : World} {L L' : List Thing} (h : Sts W L) (hp : L.Perm L') : Sts W L' :=
  ⟨fun t ht => h.lies t (hp.mem_iff.2 ht), (hp.pairwise_iff (fun {s t} hst b h1 h2 => hst b h2 h1)).1 h.apart⟩
/-- more things, all of them in blocks that are new -/
theorem Sts.join {W0 W : World} {L0 L : List Thing} (h0 : Sts W0 L0) (h : Sts W L) (hb : Below W0.heap.size W0 W) (hf : ∀ t, t ∈ L → ∀ b, t.dom b → W0.heap.size ≤ b) : Sts W (L ++ L0) :=
  ⟨fun t ht => by
    rcases List.mem_append.1 ht with ht | ht
    · exact h.lies t ht
    · exact (h0.lies t ht).below hb, List.pairwise_append.2 ⟨h.apart, h0.apart, fun s hs t ht b h1 h2 => by
      have := hf s hs b h1
      have := (h0.lies t ht).lt b h2
      omega⟩⟩
def wiL (lc la lb sa sb : Bool) (X : Mx) (u cv : Value) (lo hi b6 b7 : Nat) (mA : Array Value) : List Thing :=
  (bif lc then [tCyc cv X.cy, tMem lo hi u X.m] else []) ++ ((bif la then [tBox b6 (bif sa then cpA X.c else zC)] else []) ++ (bif lb then [tBox b7 (bif sb then mA else zM)] else []))
structure WI (w1 w : World) (lc la lb sa sb : Bool) (X : Mx) (u cv : Value) (lo hi b6 b7 : Nat) (mA : Array Value) : Prop where
  bel : Below w1.heap.size w1 w
  sts : Sts w (wiL lc la lb sa sb X u cv lo hi b6 b7 mA)
  far : ∀ t, t ∈ wiL lc la lb sa sb X u cv lo hi b6 b7 mA → ∀ b, t.dom b → w1.heap.size ≤ b
theorem Ans.things2 {W0 W : World} {x : Mx} {u cv : Value} {L : List Thing} (h : Ans W0 W x u cv) (hS : Sts W0 L) : ∃ lo hi, Sts W (tCyc cv x.cy :: tMem lo hi u x.m :: L) ∧ W0.heap.size ≤ lo ∧ ∀ b, cv.ownBlock = some b → W0.heap.size ≤ b := by
  obtain ⟨⟨lo, hi, h1, h2, h3, h4⟩, h5, h6⟩ := h
  refine ⟨lo, hi, (hS.push h6 (sits_mem h1 h3) (fun b hb => by have := hb.1; omega)).add (sits_cyc (h5.mono (Nat.zero_le _))) (fun s hs b hb hd => ?_), h2, fun b hb => (h5.lt b hb).1⟩
  have hlt := h5.lt b hb
  rcases List.mem_cons.1 hs with rfl | hs
  · have : lo ≤ b ∧ b < hi := hd
    have := h4 b hb
    omega
  · have := (hS.lies s hs).lt b hd
    omega
section
variable {w1 w w' : World} {lc la lb sa sb : Bool} {X : Mx} {u cv : Value} {lo hi b6 b7 : Nat} {mA : Array Value}
theorem WI.start (h : Below w1.heap.size w1 w) : WI w1 w false false false sa sb X u cv lo hi b6 b7 mA := ⟨h, Sts.nil _, fun t h => by cases h⟩
theorem WI.below (h : WI w1 w lc la lb sa sb X u cv lo hi b6 b7 mA) (hb : Below w.heap.size w w') : WI w1 w' lc la lb sa sb X u cv lo hi b6 b7 mA := ⟨new_trans h.bel hb, h.sts.below hb, h.far⟩
theorem WI.call {u' cv' : Value} (mA' : Array Value) (h : WI w1 w false la lb false false X u cv lo hi b6 b7 mA) (hA : Ans w w' X u' cv') : ∃ lo' hi', WI w1 w' true la lb false false X u' cv' lo' hi' b6 b7 mA' := by
  obtain ⟨lo', hi', hS, h1, h2⟩ := hA.things2 h.sts
  have e : wiL true la lb false false X u' cv' lo' hi' b6 b7 mA' = tCyc cv' X.cy :: tMem lo' hi' u' X.m :: wiL false la lb false false X u cv lo hi b6 b7 mA := rfl
  have hz := h.bel.size
  refine ⟨lo', hi', new_trans h.bel hA.bel, by rw [e]; exact hS, ?_⟩
  rw [e]
  intro t ht b hd
  rcases List.mem_cons.1 ht with rfl | ht
  · exact Nat.le_trans hz (h2 b hd)
  rcases List.mem_cons.1 ht with rfl | ht
  · exact Nat.le_trans hz (Nat.le_trans h1 hd.1)
  · exact h.far t ht b hd
theorem WI.alA (t : TypeId) (h : WI w1 w lc false lb false sb X u cv lo hi b6 b7 mA) : WI w1 (w.alloc (.cells zC t)) lc true lb false sb X u cv lo hi w.heap.size b7 mA := by
  have hb := (Below.refl w.heap.size w).alloc (Nat.le_refl _) (.cells zC t)
  have hp : (tBox w.heap.size zC :: wiL lc false lb false sb X u cv lo hi b6 b7 mA).Perm (wiL lc true lb false sb X u cv lo hi w.heap.size b7 mA) := by
    show (tBox w.heap.size zC :: ((bif lc then [tCyc cv X.cy, tMem lo hi u X.m] else []) ++ ([] ++ (bif lb then [tBox b7 (bif sb then mA else zM)] else [])))).Perm ((bif lc then [tCyc cv X.cy, tMem lo hi u X.m] else []) ++ ([tBox w.heap.size zC] ++ (bif lb then [tBox b7 (bif sb then mA else zM)] else [])))
    exact (List.perm_middle (l₁ := (bif lc then [tCyc cv X.cy, tMem lo hi u X.m] else []))).symm
  refine ⟨new_trans h.bel hb, (h.sts.box zC t).perm hp, fun s hs b hd => ?_⟩
  rcases List.mem_cons.1 (hp.mem_iff.2 hs) with rfl | hs
  · have : b = w.heap.size := hd
    rw [this]; exact h.bel.size
  · exact h.far s hs b hd
theorem WI.alB (t : TypeId) (h : WI w1 w lc la false sa false X u cv lo hi b6 b7 mA) : WI w1 (w.alloc (.cells zM t)) lc la true sa false X u cv lo hi b6 w.heap.size mA := by
  have hb := (Below.refl w.heap.size w).alloc (Nat.le_refl _) (.cells zM t)
  have hp : (tBox w.heap.size zM :: wiL lc la false sa false X u cv lo hi b6 b7 mA).Perm (wiL lc la true sa false X u cv lo hi b6 w.heap.size mA) := by
    show (tBox w.heap.size zM :: ((bif lc then [tCyc cv X.cy, tMem lo hi u X.m] else []) ++ ((bif la then [tBox b6 (bif sa then cpA X.c else zC)] else []) ++ []))).Perm ((bif lc then [tCyc cv X.cy, tMem lo hi u X.m] else []) ++ ((bif la then [tBox b6 (bif sa then cpA X.c else zC)] else []) ++ [tBox w.heap.size zM]))
    rw [List.append_nil, ← List.append_assoc]
    exact (List.perm_append_singleton _ _).symm
  refine ⟨new_trans h.bel hb, (h.sts.box zM t).perm hp, fun s hs b hd => ?_⟩
  rcases List.mem_cons.1 (hp.mem_iff.2 hs) with rfl | hs
  · have : b = w.heap.size := hd
    rw [this]; exact h.bel.size
  · exact h.far s hs b hd
theorem WI.boxA (h : WI w1 w lc true lb sa sb X u cv lo hi b6 b7 mA) : Blk w b6 (bif sa then cpA X.c else zC) :=
  (h.sts.lies (tBox b6 (bif sa then cpA X.c else zC)) (List.mem_append.2 (.inr (List.mem_append.2 (.inl (List.mem_singleton.2 rfl)))))).now
theorem WI.boxB (h : WI w1 w lc la true sa sb X u cv lo hi b6 b7 mA) : Blk w b7 (bif sb then mA else zM) :=
  (h.sts.lies (tBox b7 (bif sb then mA else zM)) (List.mem_append.2 (.inr (List.mem_append.2 (.inr (List.mem_singleton.2 rfl)))))).now
theorem WI.turn {L1 L2 : List Thing} {b : Nat} {A A' : Array Value} {l : List Value} (hS : Sts w (L1 ++ tBox b A :: L2)) (hA : setsA 0 l A = A') : Sts (sets w b 0 l) (L1 ++ tBox b A' :: L2) := by
  have hq : Blk w b A := (hS.lies (tBox b A) (List.mem_append.2 (.inr (List.mem_cons_self ..)))).now
  have hq' := sets_blk b l w 0 A hq
  rw [hA] at hq'
  have := hS.turn (W' := sets w b 0 l) L1.length (t := tBox b A) (say' := fun W => Blk W b A') (by rw [List.getElem?_append_right (Nat.le_refl _), Nat.sub_self]; rfl) (by rw [sets_size]; exact Nat.le_refl _) (fun y _ hn => sets_heap b l w 0 y hn) (sits_box hq')
  rw [List.set_append_right _ _ (Nat.le_refl _), Nat.sub_self] at this
  exact this
theorem WI.stA (h : WI w1 w lc true lb false sb X u cv lo hi b6 b7 mA) : WI w1 (sets w b6 0 (cpuL X.c)) lc true lb true sb X u cv lo hi b6 b7 mA := by
  have e : wiL lc true lb false sb X u cv lo hi b6 b7 mA = (bif lc then [tCyc cv X.cy, tMem lo hi u X.m] else []) ++ tBox b6 zC :: (bif lb then [tBox b7 (bif sb then mA else zM)] else []) := rfl
  have e2 : wiL lc true lb true sb X u cv lo hi b6 b7 mA = (bif lc then [tCyc cv X.cy, tMem lo hi u X.m] else []) ++ tBox b6 (cpA X.c) :: (bif lb then [tBox b7 (bif sb then mA else zM)] else []) := rfl
  have hl : w1.heap.size ≤ b6 := h.far (tBox b6 zC) (List.mem_append.2 (.inr (List.mem_append.2 (.inl (List.mem_singleton.2 rfl))))) b6 rfl
  refine ⟨sets_below _ _ _ _ _ _ h.bel hl, by rw [e2]; exact WI.turn (by rw [← e]; exact h.sts) (setsC _), fun t ht b hd => ?_⟩
  rw [e2] at ht
  rcases List.mem_append.1 ht with ht | ht
  · exact h.far t (by rw [e]; exact List.mem_append.2 (.inl ht)) b hd
  · rcases List.mem_cons.1 ht with rfl | ht
    · have : b = b6 := hd
      rw [this]; exact hl
    · exact h.far t (by rw [e]; exact List.mem_append.2 (.inr (List.mem_cons_of_mem _ ht))) b hd
theorem WI.stB {vr vm : Value} (h : WI w1 w lc la true sa false X u cv lo hi b6 b7 #[vr, vm, .int .i64 X.m.page, .int .i64 X.m.screen, .bool X.m.locked]) : WI w1 (sets w b7 0 (meL vr vm X.m)) lc la true sa true X u cv lo hi b6 b7 #[vr, vm, .int .i64 X.m.page, .int .i64 X.m.screen, .bool X.m.locked] := by
  obtain ⟨L1, hL1⟩ : ∃ L1, (bif lc then [tCyc cv X.cy, tMem lo hi u X.m] else []) ++ (bif la then [tBox b6 (bif sa then cpA X.c else zC)] else []) = L1 := ⟨_, rfl⟩
  have e : wiL lc la true sa false X u cv lo hi b6 b7 #[vr, vm, .int .i64 X.m.page, .int .i64 X.m.screen, .bool X.m.locked] = L1 ++ tBox b7 zM :: [] := by rw [← hL1, List.append_assoc]; rfl
  have e2 : wiL lc la true sa true X u cv lo hi b6 b7 #[vr, vm, .int .i64 X.m.page, .int .i64 X.m.screen, .bool X.m.locked] = L1 ++ tBox b7 #[vr, vm, .int .i64 X.m.page, .int .i64 X.m.screen, .bool X.m.locked] :: [] := by rw [← hL1, List.append_assoc]; rfl
  have hl : w1.heap.size ≤ b7 := h.far (tBox b7 zM) (by rw [e]; exact List.mem_append.2 (.inr (List.mem_cons_self ..))) b7 rfl
  refine ⟨sets_below _ _ _ _ _ _ h.bel hl, by rw [e2]; exact WI.turn (by rw [← e]; exact h.sts) (setsM _ _ _), fun t ht b hd => ?_⟩
  rw [e2] at ht
  rcases List.mem_append.1 ht with ht | ht
  · exact h.far t (by rw [e]; exact List.mem_append.2 (.inl ht)) b hd
  · rcases List.mem_cons.1 ht with rfl | ht
    · have : b = b7 := hd
      rw [this]; exact hl
    · cases ht
theorem WI.done {L0 : List Thing} (h : WI w1 w true true true true true X u cv lo hi b6 b7 mA) (h0 : Sts w1 L0) : Sts w (tCyc cv X.cy :: tMem lo hi u X.m :: tBox b6 (cpA X.c) :: tBox b7 mA :: L0) := h0.join h.sts h.bel h.far
end
end Go.Proofs.Ytiidkhfigifmjaa
