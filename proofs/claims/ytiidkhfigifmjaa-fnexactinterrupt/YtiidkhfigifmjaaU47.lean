/- What is asked of the answers of a call on a processor in the exact laws: they are small; marks are laid into them. -/
import Derived.Test.YtiidkhfigifmjaaJlu
import Derived.Test.YtiidkhfigifmjaaJru
import Derived.Test.YtiidkhfigifmjaaU45
import Derived.Test.YtiidkhfigifmjaaMeu
import Derived.Test.YtiidkhfigifmjaaMju
namespace Go.Proofs.Ytiidkhfigifmjaa
open Go.ChangeShapes Go.WideShapes Go.ChangeAt Go.RowKit
set_option linter.unusedVariables false
set_option linter.unusedSimpArgs false

theorem mem0_smallq : Small mem0 := ⟨Nat.zero_le _, Nat.zero_le _, Nat.zero_le _⟩
theorem small_ok {M : Mem} (h : okM M = true) : Small M := by
  obtain ⟨k1, k2, k3, k4, k5⟩ := ok_parts h
  have hl := bytes_len k1
  have hb : ∀ i, i < 4 → (M.ram.getD i []).length = 64 := fun i hi => bytes_len (k5 i (by omega))
  refine ⟨by omega, by omega, ?_⟩
  have p1 := pre_succ M.ram 0 (by omega)
  have p2 := pre_succ M.ram 1 (by omega)
  have p3 := pre_succ M.ram 2 (by omega)
  have p4 := pre_succ M.ram 3 (by omega)
  rw [hb 0 (by omega), pre_zero] at p1
  rw [hb 1 (by omega)] at p2
  rw [hb 2 (by omega)] at p3
  rw [hb 3 (by omega)] at p4
  simp only [Nat.zero_add, Nat.reduceAdd] at p1 p2 p3 p4
  rw [k2]
  omega
/-- things that lie apart, all of them made since w -/
structure StF (w W : World) (L : List Thing) : Prop where
  sts : Sts W L
  bel : Below w.heap.size w W
  far : ∀ t, t ∈ L → ∀ b, t.dom b → w.heap.size ≤ b
theorem StF.at {w W : World} {L : List Thing} (h : StF w W L) (i : Nat) {t : Thing} (e : L[i]? = some t) : t.say W := h.sts.at i e
theorem StF.below {w W W' : World} {L : List Thing} (h : StF w W L) (hb : Below W.heap.size W W') : StF w W' L := ⟨h.sts.below hb, new_trans h.bel hb, h.far⟩
theorem StF.nil (w : World) : StF w w [] := ⟨Sts.nil _, Below.refl _ _, fun t h => by cases h⟩
theorem StF.box {w W : World} {L : List Thing} (h : StF w W L) (A : Array Value) (t : TypeId) : StF w (W.alloc (.cells A t)) (tBox W.heap.size A :: L) :=
  ⟨h.sts.box A t, h.bel.alloc h.bel.size _, fun s hs b hd => by
    rcases List.mem_cons.1 hs with rfl | hs
    · have : b = W.heap.size := hd
      rw [this]; exact h.bel.size
    · exact h.far s hs b hd⟩
theorem StF.mem {w W W' : World} {L : List Thing} {v : Value} {M : Mem} (h : StF w W L) (hb : Below W.heap.size W W') (hm : MemO W' W.heap.size W'.heap.size v M) : StF w W' (tMem W.heap.size W'.heap.size v M :: L) :=
  ⟨h.sts.mem hb hm, new_trans h.bel hb, fun s hs b hd => by
    rcases List.mem_cons.1 hs with rfl | hs
    · exact Nat.le_trans h.bel.size hd.1
    · exact h.far s hs b hd⟩
theorem StF.turn {w W W' : World} {L : List Thing} (h : StF w W L) (i : Nat) {t : Thing} {say' : World → Prop} (e : L[i]? = some t) (hs : W.heap.size ≤ W'.heap.size) (ho : W'.os = W.os ∧ W'.tape = W.tape ∧ W'.output = W.output) (hk : ∀ b, b < W.heap.size → ¬ t.dom b → W'.heap[b]? = W.heap[b]?) (ht : Sits W' ⟨t.dom, say'⟩) : StF w W' (L.set i ⟨t.dom, say'⟩) := by
  have hmem := List.mem_of_getElem? e
  refine ⟨h.sts.turn i e hs hk ht, ⟨ho.1.trans h.bel.os, ho.2.1.trans h.bel.tape, ho.2.2.trans h.bel.output, Nat.le_trans h.bel.size hs, fun k hk2 => ?_⟩, fun s hs2 b hd => ?_⟩
  · have hz := h.bel.size
    rw [hk k (by omega) (fun hd => by have := h.far t hmem k hd; omega)]
    exact h.bel.block k hk2
  · obtain ⟨j, hj, rfl⟩ := List.getElem_of_mem hs2
    rw [List.length_set] at hj
    by_cases e2 : i = j
    · subst e2
      rw [List.getElem_set_self] at hd
      exact h.far t hmem b hd
    · rw [List.getElem_set_ne e2] at hd
      exact h.far L[j] (List.getElem_mem hj) b hd
theorem StF.touch {w W W' : World} {L : List Thing} (h : StF w W L) (i : Nat) {lo hi : Nat} {v : Value} {M M' : Mem} (e : L[i]? = some (tMem lo hi v M)) (ht : Touch lo hi W W') (hm : MemO W' lo hi v M') : StF w W' (L.set i (tMem lo hi v M')) := by
  have hl := h.sts.has i e
  refine h.turn i e ht.size ⟨ht.os, ht.tape, ht.output⟩ (fun b hb hn => ht.block b hb (by show b < lo ∨ hi ≤ b; have : ¬ (lo ≤ b ∧ b < hi) := hn; omega)) ⟨hm, fun b hb => ?_, fun W2 hk => hm.kept (fun b h0 h1 => hk b ⟨h0, h1⟩)⟩
  exact Nat.lt_of_lt_of_le (hl.lt b hb) ht.size
theorem StF.mark {w W W' : World} {L : List Thing} (h : StF w W L) (i : Nat) {v : Value} {l l' : List (Nat × Nat × Nat)} (e : L[i]? = some (tCyc v l)) (hm : CyO W' v l') (hg : W.grownBy W' v.ownBlock) : StF w W' (L.set i (tCyc v l')) :=
  h.turn i e hg.size ⟨hg.os, hg.tape, hg.output⟩ (fun b hb hn => hg.block b hb (fun e2 => hn e2.symm)) (sits_cyc hm)
theorem WI.stf {w w1 w' : World} {X : Mx} {u cv : Value} {lo hi b6 b7 : Nat} {mA : Array Value} {L0 : List Thing} (h : WI w1 w' true true true true true X u cv lo hi b6 b7 mA) (h0 : StF w w1 L0) : StF w w' (tCyc cv X.cy :: tMem lo hi u X.m :: tBox b6 (cpA X.c) :: tBox b7 mA :: L0) :=
  ⟨h.done h0.sts, new_trans h0.bel h.bel, fun t ht b hd => by
    have ht : t ∈ wiL true true true true true X u cv lo hi b6 b7 mA ++ L0 := ht
    rcases List.mem_append.1 ht with ht | ht
    · exact Nat.le_trans h0.bel.size (h.far t ht b hd)
    · exact h0.far t ht b hd⟩
set_option maxRecDepth 100000 in
theorem int_small {c : Cu} {M : Mem} (h : Small M) : Small (intX c M).m := by
  unfold intX
  split
  · rename_i hb
    have hb : okC c = true ∧ okM M = true := by simpa using hb
    split
    · exact h
    · have hp : c.cp.pc < 256 := (okC_cp hb.1).2.2.2.2.2.2.2.2.2.2
      have hq : inB ((c.cp.pc : Nat) : Int) 0 255 = true := in_yes (by omega) (by omega)
      have hr : okM (intM c.cp M).m = true := poke_ok hb.2 hq
      exact small_ok hr
  · exact mem0_smallq
theorem int_len (c : Cu) (M : Mem) : (intX c M).cy.length ≤ 1000 := by
  unfold intX
  split
  · split
    · exact Nat.zero_le _
    · show ([_] ++ [_] : List (Nat × Nat × Nat)).length ≤ 1000
      simp
  · exact Nat.zero_le _
theorem stp_inv {c : Cu} {M : Mem} {n : Int} (hb : (okC c && okM M) = true) (hn : inB n 0 255 = true) : Inv M (1, c.cp.pc, peekN M c.cp.pc) 4 (stepM c.cp M n.toNat) := by
  have hb : okC c = true ∧ okM M = true := by simpa using hb
  have := inB_bd hn
  exact step_inv (okC_cp hb.1).2 hb.2 (by omega)
theorem stp_small {c : Cu} {M : Mem} {n : Int} (h : Small M) : Small (stpX c M n).m := by
  unfold stpX
  split
  · rename_i hb
    split
    · rename_i hn
      exact small_ok (stp_inv hb hn).m
    · exact mem0_smallq
  · exact mem0_smallq
theorem stp_len (c : Cu) (M : Mem) (n : Int) : (stpX c M n).cy.length ≤ 1000 := by
  unfold stpX
  split
  · rename_i hb
    split
    · rename_i hn
      exact Nat.le_trans (stp_inv hb hn).len (by omega)
    · exact Nat.zero_le _
  · exact Nat.zero_le _
theorem MemO.none {W W' : World} {lo hi lo' hi' : Nat} {v : Value} {M : Mem} (h : MemO W lo hi v M) (hh : hi ≤ lo) : MemO W' lo' hi' v M := by
  rcases h with h | ⟨vr, vm, r, s, G, e, h1, h2, b1, b2, _⟩
  · exact .inl h
  · omega
theorem markm' (v : Value) (M : Mem) (m : Int) (lo hi : Nat) (w : World) (h : Sits w (tMem lo hi v M)) (hs : Small M) (hm0 : 0 ≤ m) (hm1 : m ≤ 10000000) :
    Calls Try.prog 18 #[v, .int .i64 m] w fun e w' => e = .returned (.int .i64 (m + (cntM M : Nat))) ∧ MemO w' lo hi v (markM M m) ∧ Touch lo hi w w' := by
  by_cases hh : lo < hi
  · exact markm v M m lo hi w h.now (by have := h.lt (hi - 1) ⟨by omega, by omega⟩; omega) hs hm0 hm1
  · refine (markm v M m 0 0 w (h.now.none (by omega)) (Nat.zero_le _) hs hm0 hm1).mono ?_
    rintro e w' ⟨h1, h2, h3⟩
    exact ⟨h1, h2.none (Nat.le_refl _), ⟨h3.os, h3.tape, h3.output, h3.size, fun k hk _ => h3.block k hk (.inr (Nat.zero_le _))⟩⟩
end Go.Proofs.Ytiidkhfigifmjaa

/- A region that draws its order: its slots are kept by name, the rest of the state by what is said of the operations done. -/
namespace Go.Proofs.Ytiidkhfigifmjaa
open Go.ChangeShapes Go.WideShapes Go.ChangeAt Go.RowKit
set_option linter.unusedVariables false

def arrOf (n : Nat) (f : Nat → Bool) : Array Bool := ((List.range n).map f).toArray
theorem arrOf_get (n : Nat) (f : Nat → Bool) (i : Nat) (d : Bool) : (arrOf n f).getD i d = if i < n then f i else d := by
  rw [getD_list]
  show ((List.range n).map f).getD i d = _
  rw [List.getD_eq_getElem?_getD, List.getElem?_map]
  by_cases h : i < n
  · rw [List.getElem?_range h, if_pos h]; rfl
  · rw [List.getElem?_eq_none (by simpa using h), if_neg h]; rfl
theorem arrOf_set (n : Nat) (f : Nat → Bool) (i : Nat) : (arrOf n f).setIfInBounds i true = arrOf n (fun j => j == i || f j) := by
  apply Array.ext_getElem?
  intro j
  rw [Array.getElem?_setIfInBounds]
  have hs : ∀ g, (arrOf n g).size = n := fun g => by simp [arrOf]
  have hg : ∀ g : Nat → Bool, (arrOf n g)[j]? = if j < n then some (g j) else none := fun g => by
    show ((List.range n).map g).toArray[j]? = _
    rw [List.getElem?_toArray, List.getElem?_map]
    by_cases h : j < n
    · rw [List.getElem?_range h, if_pos h]; rfl
    · rw [List.getElem?_eq_none (by simpa using h), if_neg h]; rfl
  rw [hg, hg, hs]
  by_cases e : i = j
  · subst e
    simp
  · rw [if_neg e]
    have : (j == i) = false := by simp; exact fun e2 => e e2.symm
    rw [this]; rfl
theorem arrOf_false (n : Nat) : Array.replicate n false = arrOf n (fun _ => false) := by
  apply Array.ext_getElem?
  intro j
  show (Array.replicate n false)[j]? = ((List.range n).map fun _ => false).toArray[j]?
  rw [Array.getElem?_replicate, List.getElem?_toArray, List.getElem?_map]
  by_cases h : j < n
  · rw [List.getElem?_range h, if_pos h]; rfl
  · rw [List.getElem?_eq_none (by simpa using h), if_neg h]; rfl
/-- the slot that operation i writes -/
def dstAt (ops : Array Oper) (i : Nat) : Option Nat := (ops[i]?).bind (·.dst)
/-- no two operations write one slot -/
def dstOK (ops : Array Oper) : Bool := (List.range ops.size).all fun i => (List.range ops.size).all fun j => i == j || dstAt ops i == none || dstAt ops i != dstAt ops j
theorem dst_apart {ops : Array Oper} (h : dstOK ops = true) {i j s : Nat} (hi : dstAt ops i = some s) (hj : dstAt ops j = some s) : i = j := by
  have lt : ∀ {k}, dstAt ops k = some s → k < ops.size := fun {k} hk => by
    rcases Nat.lt_or_ge k ops.size with h1 | h1
    · exact h1
    · unfold dstAt at hk
      rw [Array.getElem?_eq_none h1] at hk
      cases hk
  have h1 := List.all_eq_true.1 (List.all_eq_true.1 h i (List.mem_range.2 (lt hi))) j (List.mem_range.2 (lt hj))
  rw [hi, hj] at h1
  simpa using h1
/-- what is known of a frame while a region is done -/
structure Fr (ops : Array Oper) (A : Act) (f : Nat → Bool) (V : Nat → Value) (a : Act) : Prop where
  size : a.tmps.size = A.tmps.size
  defers : a.defers = A.defers
  old : ∀ s, (∀ i, dstAt ops i ≠ some s) → a.tmps.getD s undef = A.tmps.getD s undef
  new : ∀ i s, dstAt ops i = some s → f i = true → a.tmps.getD s undef = V i
theorem put_get (a : Act) (k s : Nat) (v : Value) (hk : k < a.tmps.size) : (a.put (some k) v).tmps.getD s undef = if k = s then v else a.tmps.getD s undef := by
  show (a.tmps.setIfInBounds k v).getD s undef = _
  rw [Array.getD_eq_getD_getElem?, Array.getElem?_setIfInBounds]
  by_cases e : k = s
  · subst e
    rw [if_pos rfl, if_pos rfl, if_pos hk]; rfl
  · rw [if_neg e, if_neg e, ← Array.getD_eq_getD_getElem?]
theorem Fr.put {ops : Array Oper} {A : Act} {f : Nat → Bool} {V V' : Nat → Value} {a : Act} (h : Fr ops A f V a) (hd : dstOK ops = true) (hin : ∀ i s, dstAt ops i = some s → s < A.tmps.size) {i : Nat} {o : Oper} (ho : ops[i]? = some o) (hf : f i = false) {v : Value} (hv : v = V' i) (hV : ∀ j, f j = true → V' j = V j) :
    Fr ops A (fun j => j == i || f j) V' (a.put o.dst v) := by
  have hdi : dstAt ops i = o.dst := by unfold dstAt; rw [ho]; rfl
  cases hds : o.dst with
  | none =>
    refine ⟨h.size, h.defers, h.old, fun j s hj hfj => ?_⟩
    have hne : (j == i) = false := by
      simp
      intro e
      rw [e, hdi, hds] at hj
      cases hj
    have hfj : (j == i || f j) = true := hfj
    rw [hne] at hfj
    have hfj : f j = true := hfj
    rw [hV j hfj]
    exact h.new j s hj hfj
  | some k =>
    have hk : k < a.tmps.size := by rw [h.size]; exact hin i k (by rw [hdi, hds])
    refine ⟨by show (a.tmps.setIfInBounds k v).size = _; rw [Array.size_setIfInBounds]; exact h.size, h.defers, fun s hs => ?_, fun j s hj hfj => ?_⟩
    · rw [put_get a k s v hk, if_neg (fun e => hs i (by rw [hdi, hds, e]))]
      exact h.old s hs
    · rw [put_get a k s v hk]
      by_cases e : k = s
      · subst e
        have : i = j := dst_apart hd (by rw [hdi, hds]) hj
        subst this
        rw [if_pos rfl, hv]
      · rw [if_neg e]
        have hne : (j == i) = false := by
          simp
          intro e2
          rw [e2, hdi, hds] at hj
          exact e (Option.some.inj hj)
        have hfj : (j == i || f j) = true := hfj
        rw [hne] at hfj
        have hfj : f j = true := hfj
        rw [hV j hfj]
        exact h.new j s hj hfj
theorem wp_region_slots {P : Program} {ops : Array Oper} {Q : Exit → Act → World → Prop} {id : Nat} {A : Act} {w1 : World} {E : Type} (V : Nat → E → Value) (J : (Nat → Bool) → E → World → Prop) (hm : P.follows .mixedOrders = true) (hac : acyc .any ops = true) (hd : dstOK ops = true) (hin : ∀ i s, dstAt ops i = some s → s < A.tmps.size)
    (step : ∀ (f : Nat → Bool) (e : E) (a : Act) (w : World) (i : Nat) (o : Oper), i < ops.size → ops[i]? = some o → f i = false → (∀ d ∈ o.after, Region.binds .any d = true → f d.on = true) → J f e w → Fr ops A f (fun j => V j e) a →
      ∀ K : Act → World → Prop, (∀ v e' w', v = V i e' → (∀ j, f j = true → V j e' = V j e) → J (fun j => j == i || f j) e' w' → K (a.put o.dst v) w') → if Region.wanted o (yielded ops a.tmps) = true then Oper.wp P o a w K Q else K (a.put o.dst undef) w)
    (e0 : E) (start : J (fun _ => false) e0 w1.drew)
    (done : ∀ (f : Nat → Bool) (e : E) (a : Act) (w : World), (∀ i, i < ops.size → f i = true) → J f e w → Fr ops A f (fun j => V j e) a → Q .normal a w) :
    (Code.region id ops true).wp P Q A w1 := by
  refine wp_region_inv hm (fun listed a w => ∃ f e, listed = arrOf ops.size f ∧ Fr ops A f (fun j => V j e) a ∧ J f e w) ?_ hac ?_ ?_ ?_
  · rintro listed a w i o ⟨f, e, rfl, hF, hJ⟩ hun ho hdep K hK
    have hi : i < ops.size := (Array.getElem?_eq_some_iff.1 ho).1
    rw [arrOf_get, if_pos hi] at hun
    refine step f e a w i o hi ho hun (fun d hd1 hd2 => ?_) hJ hF K (fun v e' w' hv hV hJ' => hK _ _ ⟨_, e', arrOf_set _ _ _, hF.put hd hin ho hun (V' := fun j => V j e') hv hV, hJ'⟩)
    have := hdep d hd1 hd2
    rw [arrOf_get] at this
    split at this
    · exact this
    · cases this
  · rintro listed a w ⟨f, e, rfl, _⟩
    simp [arrOf]
  · rintro listed a w ⟨f, e, rfl, hF, hJ⟩ hall
    refine done f e a w (fun i hi => ?_) hJ hF
    have := hall i hi
    rw [arrOf_get, if_pos hi] at this
    exact this
  · exact ⟨fun _ => false, e0, arrOf_false _, ⟨rfl, rfl, fun _ _ => rfl, fun i s _ h => by cases h⟩, start⟩
/-- the frame behind the region -/
theorem Fr.eq {ops : Array Oper} {A : Act} {f : Nat → Bool} {V : Nat → Value} {a : Act} (h : Fr ops A f V a) (L : List (Nat × Value)) (hL : ∀ s, (∀ i, dstAt ops i ≠ some s) → lookA L s = none) (hN : ∀ i s, dstAt ops i = some s → f i = true ∧ lookA L s = some (V i)) : a = putsA A L := by
  have ht : a.tmps = (putsA A L).tmps := by
    apply Array.ext
    · rw [h.size, putsA_size]
    · intro k h1 h2
      have hk : k < A.tmps.size := by rw [← h.size]; exact h1
      have e1 : a.tmps.getD k undef = a.tmps[k] := by simp [Array.getD, h1]
      have e2 : (putsA A L).tmps.getD k undef = (putsA A L).tmps[k] := by simp [Array.getD, h2]
      rw [← e1, ← e2, putsA_get A k hk L]
      by_cases hx : ∃ i, dstAt ops i = some k
      · obtain ⟨i, hi⟩ := hx
        rw [(hN i k hi).2, h.new i k hi (hN i k hi).1]
        rfl
      · have hno : ∀ i, dstAt ops i ≠ some k := fun i hi => hx ⟨i, hi⟩
        rw [hL k hno, h.old k hno]
        rfl
  have hdf : a.defers = (putsA A L).defers := by rw [h.defers, putsA_defers]
  cases a
  cases hp : putsA A L
  rw [hp] at ht hdf
  simp only at ht hdf
  rw [ht, hdf]
end Go.Proofs.Ytiidkhfigifmjaa
