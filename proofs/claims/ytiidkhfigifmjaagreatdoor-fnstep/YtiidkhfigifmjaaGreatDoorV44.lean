/- A region that draws its order: what every operation keeps holds at its end, whatever the order. -/
import Derived.Test.YtiidkhfigifmjaaGreatDoorV00
import Derived.Deep.RegionHeld3
import Derived.Test.YtiidkhfigifmjaaGreatDoorV13
namespace Go.Proofs.YtiidkhfigifmjaaGreatDoor
open Go.ChangeShapes Go.WideShapes Go.ChangeAt Go.RowKit
set_option linter.unusedVariables false

theorem count_set : ∀ (l : List Bool) (i : Nat), l.getD i true = false → (l.set i true).count false + 1 = l.count false := by
  intro l
  induction l with
  | nil => intro i h; simp at h
  | cons b t ih =>
    intro i h
    cases i with
    | zero =>
      have : b = false := by simpa using h
      subst this
      simp
    | succ i =>
      have := ih i (by simpa using h)
      cases b <;> simp [List.set_cons_succ] <;> omega
theorem count_zero : ∀ (l : List Bool) (i : Nat), l.count false = 0 → l.getD i true = true := by
  intro l
  induction l with
  | nil => intro i _; simp
  | cons b t ih =>
    intro i h
    cases b
    · simp at h
    · cases i with
      | zero => rfl
      | succ i => simpa using ih i (by simpa using h)
section
variable {P : Program} {ops : Array Oper} {Q : Exit → Act → World → Prop} {md : Region.Mode}
theorem getD_list (l : Array Bool) (i : Nat) (d : Bool) : l.getD i d = l.toList.getD i d := by
  rw [Array.getD_eq_getD_getElem?, List.getD_eq_getElem?_getD, Array.getElem?_toList]
theorem any_inv (I : Array Bool → Act → World → Prop)
    (step : ∀ (listed : Array Bool) (a : Act) (w : World) (i : Nat) (o : Oper), I listed a w → listed.getD i true = false → ops[i]? = some o → (∀ e ∈ o.after, Region.binds md e = true → listed.getD e.on false = true) →
      ∀ K' : Act → World → Prop, (∀ a' w', I (listed.setIfInBounds i true) a' w' → K' a' w') → if Region.wanted o (yielded ops a.tmps) = true then Oper.wp P o a w K' Q else K' (a.put o.dst undef) w)
    (done : ∀ (listed : Array Bool) (a : Act) (w : World), I listed a w → Region.ready md ops listed = [] → Q .normal a w) :
    ∀ (fuel : Nat) (listed : Array Bool) (a : Act) (w : World), I listed a w → listed.toList.count false ≤ fuel → wpAny P md ops Q fuel listed a w := by
  intro fuel
  induction fuel with
  | zero =>
    intro listed a w hI hc
    have hr : Region.ready md ops listed = [] := by
      rw [List.eq_nil_iff_forall_not_mem]
      intro j hj
      have h1 := (mem_ready.1 hj).1
      rw [getD_list, count_zero _ _ (by omega)] at h1
      cases h1
    exact ⟨hr, done _ _ _ hI hr⟩
  | succ fuel ih =>
    intro listed a w hI hc
    refine ⟨fun hr => done _ _ _ hI hr, fun i hi => ?_⟩
    obtain ⟨h1, o, ho, hd⟩ := mem_ready.1 hi
    refine wpOp_step ho (fun K' hK => step listed a w i o hI h1 ho hd K' (fun a' w' hI' => hK a' w' (ih _ a' w' hI' ?_)))
    rw [getD_list] at h1
    have := count_set listed.toList i h1
    rw [Array.toList_setIfInBounds]
    omega
/-- each operation waits for earlier ones alone -/
def acyc (md : Region.Mode) (ops : Array Oper) : Bool := (List.range ops.size).all fun i => match ops[i]? with
  | some o => o.after.all fun e => !Region.binds md e || decide (e.on < i)
  | none => true
theorem ready_nil_all {listed : Array Bool} (hac : acyc md ops = true) (hs : listed.size = ops.size) (hr : Region.ready md ops listed = []) : ∀ i, i < ops.size → listed.getD i false = true := by
  intro i
  induction i using Nat.strongRecOn with
  | ind i ih =>
    intro hi
    have hi2 : i < listed.size := by omega
    have e1 : ∀ d, listed.getD i d = listed[i] := fun d => by simp [Array.getD, hi2]
    cases hb : listed[i] with
    | true => rw [e1, hb]
    | false =>
      have hm : i ∈ Region.ready md ops listed := by
        refine mem_ready.2 ⟨by rw [e1, hb], ops[i], Array.getElem?_eq_getElem hi, fun e he hbind => ?_⟩
        have h1 := List.all_eq_true.1 hac i (List.mem_range.2 hi)
        rw [Array.getElem?_eq_getElem hi] at h1
        have h2 := Array.all_eq_true'.1 h1 e he
        rw [hbind] at h2
        have h3 : e.on < i := by simpa using h2
        exact ih e.on h3 (by omega)
      rw [hr] at hm
      cases hm
theorem wp_region_inv {id : Nat} {a : Act} {w : World} (hm : P.follows .mixedOrders = true) (I : Array Bool → Act → World → Prop)
    (step : ∀ (listed : Array Bool) (a : Act) (w : World) (i : Nat) (o : Oper), I listed a w → listed.getD i true = false → ops[i]? = some o → (∀ e ∈ o.after, Region.binds .any e = true → listed.getD e.on false = true) →
      ∀ K' : Act → World → Prop, (∀ a' w', I (listed.setIfInBounds i true) a' w' → K' a' w') → if Region.wanted o (yielded ops a.tmps) = true then Oper.wp P o a w K' Q else K' (a.put o.dst undef) w)
    (hac : acyc .any ops = true) (size : ∀ listed a w, I listed a w → listed.size = ops.size)
    (done : ∀ (listed : Array Bool) (a : Act) (w : World), I listed a w → (∀ i, i < ops.size → listed.getD i false = true) → Q .normal a w)
    (start : I (Array.replicate ops.size false) a { w with drawn := w.drawn + 1 }) : (Code.region id ops true).wp P Q a w :=
  wp_region_any hm (any_inv I step (fun l a w hI hr => done l a w hI (ready_nil_all hac (size l a w hI) hr)) _ _ _ _ start (by
    have : (Array.replicate ops.size false).toList.length = ops.size := by simp
    exact Nat.le_trans List.count_le_length (by omega)))
end
end Go.Proofs.YtiidkhfigifmjaaGreatDoor

/- Slots of a frame that are written in any order. -/
namespace Go.Proofs.YtiidkhfigifmjaaGreatDoor
set_option linter.unusedVariables false

def putsA (A : Act) : List (Nat × Value) → Act
  | [] => A
  | (i, v) :: t => (putsA A t).put (some i) v
def lookA : List (Nat × Value) → Nat → Option Value
  | [], _ => none
  | (i, v) :: t, k => if i = k then some v else lookA t k
def updA : List (Nat × Value) → Nat → Value → List (Nat × Value)
  | [], _, _ => []
  | (i, u) :: t, k, v => if i = k then (i, v) :: t else (i, u) :: updA t k v
theorem putsA_size (A : Act) : ∀ L, (putsA A L).tmps.size = A.tmps.size := by
  intro L
  induction L with
  | nil => rfl
  | cons x t ih =>
    show ((putsA A t).tmps.setIfInBounds x.1 x.2).size = _
    rw [Array.size_setIfInBounds, ih]
theorem putsA_defers (A : Act) : ∀ L, (putsA A L).defers = A.defers := by
  intro L
  induction L with
  | nil => rfl
  | cons x t ih => exact ih
theorem putsA_get (A : Act) (k : Nat) (hk : k < A.tmps.size) : ∀ L, (putsA A L).tmps.getD k undef = (lookA L k).getD (A.tmps.getD k undef) := by
  intro L
  induction L with
  | nil => rfl
  | cons x t ih =>
    obtain ⟨i, v⟩ := x
    show ((putsA A t).tmps.setIfInBounds i v).getD k undef = ((if i = k then some v else lookA t k).getD _)
    have hs := putsA_size A t
    by_cases e : i = k
    · subst e
      rw [if_pos rfl, Array.getD_eq_getD_getElem?, Array.getElem?_setIfInBounds, if_pos rfl, if_pos (by omega)]
      rfl
    · rw [if_neg e, ← ih, Array.getD_eq_getD_getElem?, Array.getElem?_setIfInBounds, if_neg e, ← Array.getD_eq_getD_getElem?]
theorem put_same (a : Act) (k : Nat) (u v : Value) : (a.put (some k) u).put (some k) v = a.put (some k) v := by
  show ({ a with tmps := (a.tmps.setIfInBounds k u).setIfInBounds k v } : Act) = { a with tmps := a.tmps.setIfInBounds k v }
  congr 1
  apply Array.ext_getElem?
  intro j
  simp only [Array.getElem?_setIfInBounds, Array.size_setIfInBounds]
  split <;> rfl
theorem putsA_put (A : Act) (k : Nat) (v : Value) : ∀ L, (lookA L k).isSome = true → (putsA A L).put (some k) v = putsA A (updA L k v) := by
  intro L
  induction L with
  | nil => intro h; cases h
  | cons x t ih =>
    obtain ⟨i, u⟩ := x
    intro h
    show ((putsA A t).put (some i) u).put (some k) v = putsA A (if i = k then (i, v) :: t else (i, u) :: updA t k v)
    by_cases e : i = k
    · subst e
      rw [if_pos rfl]
      exact put_same _ _ _ _
    · rw [if_neg e]
      have h2 : (lookA t k).isSome = true := by
        have : (lookA ((i, u) :: t) k) = lookA t k := by show (if i = k then some u else lookA t k) = _; rw [if_neg e]
        rw [this] at h
        exact h
      show _ = (putsA A (updA t k v)).put (some i) u
      rw [← ih h2]
      exact (Act.put_comm _ (x := some i) (y := some k) u v (fun d hd => by
        have : i = d := Option.some.inj hd
        subst this
        exact fun e2 => e (Option.some.inj e2).symm))
theorem putsA_self (A : Act) : ∀ (ks : List Nat), putsA A (ks.map fun k => (k, A.tmps.getD k undef)) = A := by
  intro ks
  induction ks with
  | nil => rfl
  | cons k t ih =>
    show (putsA A (t.map fun k => (k, A.tmps.getD k undef))).put (some k) (A.tmps.getD k undef) = A
    rw [ih]
    show ({ A with tmps := A.tmps.setIfInBounds k (A.tmps.getD k undef) } : Act) = A
    have : A.tmps.setIfInBounds k (A.tmps.getD k undef) = A.tmps := by
      apply Array.ext_getElem?
      intro j
      rw [Array.getElem?_setIfInBounds]
      split
      · rename_i e
        subst e
        split
        · rename_i hl
          rw [Array.getElem?_eq_getElem hl]
          rfl
        · rename_i hl
          rw [Array.getElem?_eq_none (by omega)]
      · rfl
    rw [this]
end Go.Proofs.YtiidkhfigifmjaaGreatDoor

/- While an answer of a processor, a memory and cycles is laid into variables of its own, in any order. -/
namespace Go.Proofs.YtiidkhfigifmjaaGreatDoor
open Go.ChangeShapes Go.WideShapes Go.ChangeAt Go.RowKit
set_option linter.unusedVariables false
set_option linter.unusedSimpArgs false

theorem Sts.perm {W : World} {L L' : List Thing} (h : Sts W L) (hp : L.Perm L') : Sts W L' :=
  ⟨fun t ht => h.lies t (hp.mem_iff.2 ht), (hp.pairwise_iff (fun {s t} hst b h1 h2 => hst b h2 h1)).1 h.apart⟩
/-- more things, all of them in blocks that are new -/
theorem Sts.join {W0 W : World} {L0 L : List Thing} (h0 : Sts W0 L0) (h : Sts W L) (hb : Below W0.heap.size W0 W) (hf : ∀ t, t ∈ L → ∀ b, t.dom b → W0.heap.size ≤ b) : Sts W (L ++ L0) :=
  ⟨fun t ht => by
    rcases List.mem_append.1 ht with ht | ht
    · exact h.lies t ht
    · exact (h0.lies t ht).below hb, List.pairwise_append.2 ⟨h.apart, h0.apart, fun s hs t ht b h1 h2 => by
      have := hf s hs b h1
      have := (h0.lies t ht).lt b h2
      omega⟩⟩
def wiL (lc la lb sa sb : Bool) (X : Mx) (u cv : Value) (lo hi b6 b7 : Nat) (mA : Array Value) : List Thing :=
  (bif lc then [tCyc cv X.cy, tMem lo hi u X.m] else []) ++ ((bif la then [tBox b6 (bif sa then cpA X.c else zC)] else []) ++ (bif lb then [tBox b7 (bif sb then mA else zM)] else []))
structure WI (w1 w : World) (lc la lb sa sb : Bool) (X : Mx) (u cv : Value) (lo hi b6 b7 : Nat) (mA : Array Value) : Prop where
  bel : Below w1.heap.size w1 w
  sts : Sts w (wiL lc la lb sa sb X u cv lo hi b6 b7 mA)
  far : ∀ t, t ∈ wiL lc la lb sa sb X u cv lo hi b6 b7 mA → ∀ b, t.dom b → w1.heap.size ≤ b
theorem Ans.things2 {W0 W : World} {x : Mx} {u cv : Value} {L : List Thing} (h : Ans W0 W x u cv) (hS : Sts W0 L) : ∃ lo hi, Sts W (tCyc cv x.cy :: tMem lo hi u x.m :: L) ∧ W0.heap.size ≤ lo ∧ ∀ b, cv.ownBlock = some b → W0.heap.size ≤ b := by
  obtain ⟨⟨lo, hi, h1, h2, h3, h4⟩, h5, h6⟩ := h
  refine ⟨lo, hi, (hS.push h6 (sits_mem h1 h3) (fun b hb => by have := hb.1; omega)).add (sits_cyc (h5.mono (Nat.zero_le _))) (fun s hs b hb hd => ?_), h2, fun b hb => (h5.lt b hb).1⟩
  have hlt := h5.lt b hb
  rcases List.mem_cons.1 hs with rfl | hs
  · have : lo ≤ b ∧ b < hi := hd
    have := h4 b hb
    omega
  · have := (hS.lies s hs).lt b hd
    omega
section
variable {w1 w w' : World} {lc la lb sa sb : Bool} {X : Mx} {u cv : Value} {lo hi b6 b7 : Nat} {mA : Array Value}
theorem WI.start (h : Below w1.heap.size w1 w) : WI w1 w false false false sa sb X u cv lo hi b6 b7 mA := ⟨h, Sts.nil _, fun t h => by cases h⟩
theorem WI.below (h : WI w1 w lc la lb sa sb X u cv lo hi b6 b7 mA) (hb : Below w.heap.size w w') : WI w1 w' lc la lb sa sb X u cv lo hi b6 b7 mA := ⟨new_trans h.bel hb, h.sts.below hb, h.far⟩
theorem WI.call {u' cv' : Value} (mA' : Array Value) (h : WI w1 w false la lb false false X u cv lo hi b6 b7 mA) (hA : Ans w w' X u' cv') : ∃ lo' hi', WI w1 w' true la lb false false X u' cv' lo' hi' b6 b7 mA' := by
  obtain ⟨lo', hi', hS, h1, h2⟩ := hA.things2 h.sts
  have e : wiL true la lb false false X u' cv' lo' hi' b6 b7 mA' = tCyc cv' X.cy :: tMem lo' hi' u' X.m :: wiL false la lb false false X u cv lo hi b6 b7 mA := rfl
  have hz := h.bel.size
  refine ⟨lo', hi', new_trans h.bel hA.bel, by rw [e]; exact hS, ?_⟩
  rw [e]
  intro t ht b hd
  rcases List.mem_cons.1 ht with rfl | ht
  · exact Nat.le_trans hz (h2 b hd)
  rcases List.mem_cons.1 ht with rfl | ht
  · exact Nat.le_trans hz (Nat.le_trans h1 hd.1)
  · exact h.far t ht b hd
theorem WI.alA (t : TypeId) (h : WI w1 w lc false lb false sb X u cv lo hi b6 b7 mA) : WI w1 (w.alloc (.cells zC t)) lc true lb false sb X u cv lo hi w.heap.size b7 mA := by
  have hb := (Below.refl w.heap.size w).alloc (Nat.le_refl _) (.cells zC t)
  have hp : (tBox w.heap.size zC :: wiL lc false lb false sb X u cv lo hi b6 b7 mA).Perm (wiL lc true lb false sb X u cv lo hi w.heap.size b7 mA) := by
    show (tBox w.heap.size zC :: ((bif lc then [tCyc cv X.cy, tMem lo hi u X.m] else []) ++ ([] ++ (bif lb then [tBox b7 (bif sb then mA else zM)] else [])))).Perm ((bif lc then [tCyc cv X.cy, tMem lo hi u X.m] else []) ++ ([tBox w.heap.size zC] ++ (bif lb then [tBox b7 (bif sb then mA else zM)] else [])))
    exact (List.perm_middle (l₁ := (bif lc then [tCyc cv X.cy, tMem lo hi u X.m] else []))).symm
  refine ⟨new_trans h.bel hb, (h.sts.box zC t).perm hp, fun s hs b hd => ?_⟩
  rcases List.mem_cons.1 (hp.mem_iff.2 hs) with rfl | hs
  · have : b = w.heap.size := hd
    rw [this]; exact h.bel.size
  · exact h.far s hs b hd
theorem WI.alB (t : TypeId) (h : WI w1 w lc la false sa false X u cv lo hi b6 b7 mA) : WI w1 (w.alloc (.cells zM t)) lc la true sa false X u cv lo hi b6 w.heap.size mA := by
  have hb := (Below.refl w.heap.size w).alloc (Nat.le_refl _) (.cells zM t)
  have hp : (tBox w.heap.size zM :: wiL lc la false sa false X u cv lo hi b6 b7 mA).Perm (wiL lc la true sa false X u cv lo hi b6 w.heap.size mA) := by
    show (tBox w.heap.size zM :: ((bif lc then [tCyc cv X.cy, tMem lo hi u X.m] else []) ++ ((bif la then [tBox b6 (bif sa then cpA X.c else zC)] else []) ++ []))).Perm ((bif lc then [tCyc cv X.cy, tMem lo hi u X.m] else []) ++ ((bif la then [tBox b6 (bif sa then cpA X.c else zC)] else []) ++ [tBox w.heap.size zM]))
    rw [List.append_nil, ← List.append_assoc]
    exact (List.perm_append_singleton _ _).symm
  refine ⟨new_trans h.bel hb, (h.sts.box zM t).perm hp, fun s hs b hd => ?_⟩
  rcases List.mem_cons.1 (hp.mem_iff.2 hs) with rfl | hs
  · have : b = w.heap.size := hd
    rw [this]; exact h.bel.size
  · exact h.far s hs b hd
theorem WI.boxA (h : WI w1 w lc true lb sa sb X u cv lo hi b6 b7 mA) : Blk w b6 (bif sa then cpA X.c else zC) :=
  (h.sts.lies (tBox b6 (bif sa then cpA X.c else zC)) (List.mem_append.2 (.inr (List.mem_append.2 (.inl (List.mem_singleton.2 rfl)))))).now
theorem WI.boxB (h : WI w1 w lc la true sa sb X u cv lo hi b6 b7 mA) : Blk w b7 (bif sb then mA else zM) :=
  (h.sts.lies (tBox b7 (bif sb then mA else zM)) (List.mem_append.2 (.inr (List.mem_append.2 (.inr (List.mem_singleton.2 rfl)))))).now
theorem WI.turn {L1 L2 : List Thing} {b : Nat} {A A' : Array Value} {l : List Value} (hS : Sts w (L1 ++ tBox b A :: L2)) (hA : setsA 0 l A = A') : Sts (sets w b 0 l) (L1 ++ tBox b A' :: L2) := by
  have hq : Blk w b A := (hS.lies (tBox b A) (List.mem_append.2 (.inr (List.mem_cons_self ..)))).now
  have hq' := sets_blk b l w 0 A hq
  rw [hA] at hq'
  have := hS.turn (W' := sets w b 0 l) L1.length (t := tBox b A) (say' := fun W => Blk W b A') (by rw [List.getElem?_append_right (Nat.le_refl _), Nat.sub_self]; rfl) (by rw [sets_size]; exact Nat.le_refl _) (fun y _ hn => sets_heap b l w 0 y hn) (sits_box hq')
  rw [List.set_append_right _ _ (Nat.le_refl _), Nat.sub_self] at this
  exact this
theorem WI.stA (h : WI w1 w lc true lb false sb X u cv lo hi b6 b7 mA) : WI w1 (sets w b6 0 (cpuL X.c)) lc true lb true sb X u cv lo hi b6 b7 mA := by
  have e : wiL lc true lb false sb X u cv lo hi b6 b7 mA = (bif lc then [tCyc cv X.cy, tMem lo hi u X.m] else []) ++ tBox b6 zC :: (bif lb then [tBox b7 (bif sb then mA else zM)] else []) := rfl
  have e2 : wiL lc true lb true sb X u cv lo hi b6 b7 mA = (bif lc then [tCyc cv X.cy, tMem lo hi u X.m] else []) ++ tBox b6 (cpA X.c) :: (bif lb then [tBox b7 (bif sb then mA else zM)] else []) := rfl
  have hl : w1.heap.size ≤ b6 := h.far (tBox b6 zC) (List.mem_append.2 (.inr (List.mem_append.2 (.inl (List.mem_singleton.2 rfl))))) b6 rfl
  refine ⟨sets_below _ _ _ _ _ _ h.bel hl, by rw [e2]; exact WI.turn (by rw [← e]; exact h.sts) (setsC _), fun t ht b hd => ?_⟩
  rw [e2] at ht
  rcases List.mem_append.1 ht with ht | ht
  · exact h.far t (by rw [e]; exact List.mem_append.2 (.inl ht)) b hd
  · rcases List.mem_cons.1 ht with rfl | ht
    · have : b = b6 := hd
      rw [this]; exact hl
    · exact h.far t (by rw [e]; exact List.mem_append.2 (.inr (List.mem_cons_of_mem _ ht))) b hd
theorem WI.stB {vr vm : Value} (h : WI w1 w lc la true sa false X u cv lo hi b6 b7 #[vr, vm, .int .i64 X.m.page, .int .i64 X.m.screen, .bool X.m.locked]) : WI w1 (sets w b7 0 (meL vr vm X.m)) lc la true sa true X u cv lo hi b6 b7 #[vr, vm, .int .i64 X.m.page, .int .i64 X.m.screen, .bool X.m.locked] := by
  obtain ⟨L1, hL1⟩ : ∃ L1, (bif lc then [tCyc cv X.cy, tMem lo hi u X.m] else []) ++ (bif la then [tBox b6 (bif sa then cpA X.c else zC)] else []) = L1 := ⟨_, rfl⟩
  have e : wiL lc la true sa false X u cv lo hi b6 b7 #[vr, vm, .int .i64 X.m.page, .int .i64 X.m.screen, .bool X.m.locked] = L1 ++ tBox b7 zM :: [] := by rw [← hL1, List.append_assoc]; rfl
  have e2 : wiL lc la true sa true X u cv lo hi b6 b7 #[vr, vm, .int .i64 X.m.page, .int .i64 X.m.screen, .bool X.m.locked] = L1 ++ tBox b7 #[vr, vm, .int .i64 X.m.page, .int .i64 X.m.screen, .bool X.m.locked] :: [] := by rw [← hL1, List.append_assoc]; rfl
  have hl : w1.heap.size ≤ b7 := h.far (tBox b7 zM) (by rw [e]; exact List.mem_append.2 (.inr (List.mem_cons_self ..))) b7 rfl
  refine ⟨sets_below _ _ _ _ _ _ h.bel hl, by rw [e2]; exact WI.turn (by rw [← e]; exact h.sts) (setsM _ _ _), fun t ht b hd => ?_⟩
  rw [e2] at ht
  rcases List.mem_append.1 ht with ht | ht
  · exact h.far t (by rw [e]; exact List.mem_append.2 (.inl ht)) b hd
  · rcases List.mem_cons.1 ht with rfl | ht
    · have : b = b7 := hd
      rw [this]; exact hl
    · cases ht
theorem WI.done {L0 : List Thing} (h : WI w1 w true true true true true X u cv lo hi b6 b7 mA) (h0 : Sts w1 L0) : Sts w (tCyc cv X.cy :: tMem lo hi u X.m :: tBox b6 (cpA X.c) :: tBox b7 mA :: L0) := h0.join h.sts h.bel h.far
end
end Go.Proofs.YtiidkhfigifmjaaGreatDoor
