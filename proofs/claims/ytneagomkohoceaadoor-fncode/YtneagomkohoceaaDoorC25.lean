/- A region that draws its order: what every operation keeps holds at its end, whatever the order. -/
import Derived.Test.YtneagomkohoceaaDoorBlc
import Derived.Deep.RegionHeld3
namespace Go.Proofs.YtneagomkohoceaaDoor
open Go.ChangeShapes Go.WideShapes Go.ChangeAt Go.RowKit
set_option linter.unusedVariables false

theorem count_set : ∀ (l : List Bool) (i : Nat), l.getD i true = false → (l.set i true).count false + 1 = l.count false := by
  intro l
  induction l with
  | nil => intro i h; simp at h
  | cons b t ih =>
    intro i h
    cases i with
    | zero =>
      have : b = false := by simpa using h
      subst this
      simp
    | succ i =>
      have := ih i (by simpa using h)
      cases b <;> simp [List.set_cons_succ] <;> omega
theorem count_zero : ∀ (l : List Bool) (i : Nat), l.count false = 0 → l.getD i true = true := by
  intro l
  induction l with
  | nil => intro i _; simp
  | cons b t ih =>
    intro i h
    cases b
    · simp at h
    · cases i with
      | zero => rfl
      | succ i => simpa using ih i (by simpa using h)
section
variable {P : Program} {ops : Array Oper} {Q : Exit → Act → World → Prop} {md : Region.Mode}
theorem getD_list (l : Array Bool) (i : Nat) (d : Bool) : l.getD i d = l.toList.getD i d := by
  rw [Array.getD_eq_getD_getElem?, List.getD_eq_getElem?_getD, Array.getElem?_toList]
theorem any_inv (I : Array Bool → Act → World → Prop)
    (step : ∀ (listed : Array Bool) (a : Act) (w : World) (i : Nat) (o : Oper), I listed a w → listed.getD i true = false → ops[i]? = some o → (∀ e ∈ o.after, Region.binds md e = true → listed.getD e.on false = true) →
      ∀ K' : Act → World → Prop, (∀ a' w', I (listed.setIfInBounds i true) a' w' → K' a' w') → if Region.wanted o (yielded ops a.tmps) = true then Oper.wp P o a w K' Q else K' (a.put o.dst undef) w)
    (done : ∀ (listed : Array Bool) (a : Act) (w : World), I listed a w → Region.ready md ops listed = [] → Q .normal a w) :
    ∀ (fuel : Nat) (listed : Array Bool) (a : Act) (w : World), I listed a w → listed.toList.count false ≤ fuel → wpAny P md ops Q fuel listed a w := by
  intro fuel
  induction fuel with
  | zero =>
    intro listed a w hI hc
    have hr : Region.ready md ops listed = [] := by
      rw [List.eq_nil_iff_forall_not_mem]
      intro j hj
      have h1 := (mem_ready.1 hj).1
      rw [getD_list, count_zero _ _ (by omega)] at h1
      cases h1
    exact ⟨hr, done _ _ _ hI hr⟩
  | succ fuel ih =>
    intro listed a w hI hc
    refine ⟨fun hr => done _ _ _ hI hr, fun i hi => ?_⟩
    obtain ⟨h1, o, ho, hd⟩ := mem_ready.1 hi
    refine wpOp_step ho (fun K' hK => step listed a w i o hI h1 ho hd K' (fun a' w' hI' => hK a' w' (ih _ a' w' hI' ?_)))
    rw [getD_list] at h1
    have := count_set listed.toList i h1
    rw [Array.toList_setIfInBounds]
    omega
/-- each operation waits for earlier ones alone -/
def acyc (md : Region.Mode) (ops : Array Oper) : Bool := (List.range ops.size).all fun i => match ops[i]? with
  | some o => o.after.all fun e => !Region.binds md e || decide (e.on < i)
  | none => true
theorem ready_nil_all {listed : Array Bool} (hac : acyc md ops = true) (hs : listed.size = ops.size) (hr : Region.ready md ops listed = []) : ∀ i, i < ops.size → listed.getD i false = true := by
  intro i
  induction i using Nat.strongRecOn with
  | ind i ih =>
    intro hi
    have hi2 : i < listed.size := by omega
    have e1 : ∀ d, listed.getD i d = listed[i] := fun d => by simp [Array.getD, hi2]
    cases hb : listed[i] with
    | true => rw [e1, hb]
    | false =>
      have hm : i ∈ Region.ready md ops listed := by
        refine mem_ready.2 ⟨by rw [e1, hb], ops[i], Array.getElem?_eq_getElem hi, fun e he hbind => ?_⟩
        have h1 := List.all_eq_true.1 hac i (List.mem_range.2 hi)
        rw [Array.getElem?_eq_getElem hi] at h1
        have h2 := Array.all_eq_true'.1 h1 e he
        rw [hbind] at h2
        have h3 : e.on < i := by simpa using h2
        exact ih e.on h3 (by omega)
      rw [hr] at hm
      cases hm
theorem wp_region_inv {id : Nat} {a : Act} {w : World} (hm : P.follows .mixedOrders = true) (I : Array Bool → Act → World → Prop)
    (step : ∀ (listed : Array Bool) (a : Act) (w : World) (i : Nat) (o : Oper), I listed a w → listed.getD i true = false → ops[i]? = some o → (∀ e ∈ o.after, Region.binds .any e = true → listed.getD e.on false = true) →
      ∀ K' : Act → World → Prop, (∀ a' w', I (listed.setIfInBounds i true) a' w' → K' a' w') → if Region.wanted o (yielded ops a.tmps) = true then Oper.wp P o a w K' Q else K' (a.put o.dst undef) w)
    (hac : acyc .any ops = true) (size : ∀ listed a w, I listed a w → listed.size = ops.size)
    (done : ∀ (listed : Array Bool) (a : Act) (w : World), I listed a w → (∀ i, i < ops.size → listed.getD i false = true) → Q .normal a w)
    (start : I (Array.replicate ops.size false) a { w with drawn := w.drawn + 1 }) : (Code.region id ops true).wp P Q a w :=
  wp_region_any hm (any_inv I step (fun l a w hI hr => done l a w hI (ready_nil_all hac (size l a w hI) hr)) _ _ _ _ start (by
    have : (Array.replicate ops.size false).toList.length = ops.size := by simp
    exact Nat.le_trans List.count_le_length (by omega)))
end
end Go.Proofs.YtneagomkohoceaaDoor

/- Slots of a frame that are written in any order. -/
namespace Go.Proofs.YtneagomkohoceaaDoor
set_option linter.unusedVariables false

def putsA (A : Act) : List (Nat × Value) → Act
  | [] => A
  | (i, v) :: t => (putsA A t).put (some i) v
def lookA : List (Nat × Value) → Nat → Option Value
  | [], _ => none
  | (i, v) :: t, k => if i = k then some v else lookA t k
def updA : List (Nat × Value) → Nat → Value → List (Nat × Value)
  | [], _, _ => []
  | (i, u) :: t, k, v => if i = k then (i, v) :: t else (i, u) :: updA t k v
theorem putsA_size (A : Act) : ∀ L, (putsA A L).tmps.size = A.tmps.size := by
  intro L
  induction L with
  | nil => rfl
  | cons x t ih =>
    show ((putsA A t).tmps.setIfInBounds x.1 x.2).size = _
    rw [Array.size_setIfInBounds, ih]
theorem putsA_defers (A : Act) : ∀ L, (putsA A L).defers = A.defers := by
  intro L
  induction L with
  | nil => rfl
  | cons x t ih => exact ih
theorem putsA_get (A : Act) (k : Nat) (hk : k < A.tmps.size) : ∀ L, (putsA A L).tmps.getD k undef = (lookA L k).getD (A.tmps.getD k undef) := by
  intro L
  induction L with
  | nil => rfl
  | cons x t ih =>
    obtain ⟨i, v⟩ := x
    show ((putsA A t).tmps.setIfInBounds i v).getD k undef = ((if i = k then some v else lookA t k).getD _)
    have hs := putsA_size A t
    by_cases e : i = k
    · subst e
      rw [if_pos rfl, Array.getD_eq_getD_getElem?, Array.getElem?_setIfInBounds, if_pos rfl, if_pos (by omega)]
      rfl
    · rw [if_neg e, ← ih, Array.getD_eq_getD_getElem?, Array.getElem?_setIfInBounds, if_neg e, ← Array.getD_eq_getD_getElem?]
theorem put_same (a : Act) (k : Nat) (u v : Value) : (a.put (some k) u).put (some k) v = a.put (some k) v := by
  show ({ a with tmps := (a.tmps.setIfInBounds k u).setIfInBounds k v } : Act) = { a with tmps := a.tmps.setIfInBounds k v }
  congr 1
  apply Array.ext_getElem?
  intro j
  simp only [Array.getElem?_setIfInBounds, Array.size_setIfInBounds]
  split <;> rfl
theorem putsA_put (A : Act) (k : Nat) (v : Value) : ∀ L, (lookA L k).isSome = true → (putsA A L).put (some k) v = putsA A (updA L k v) := by
  intro L
  induction L with
  | nil => intro h; cases h
  | cons x t ih =>
    obtain ⟨i, u⟩ := x
    intro h
    show ((putsA A t).put (some i) u).put (some k) v = putsA A (if i = k then (i, v) :: t else (i, u) :: updA t k v)
    by_cases e : i = k
    · subst e
      rw [if_pos rfl]
      exact put_same _ _ _ _
    · rw [if_neg e]
      have h2 : (lookA t k).isSome = true := by
        have : (lookA ((i, u) :: t) k) = lookA t k := by show (if i = k then some u else lookA t k) = _; rw [if_neg e]
        rw [this] at h
        exact h
      show _ = (putsA A (updA t k v)).put (some i) u
      rw [← ih h2]
      exact (Act.put_comm _ (x := some i) (y := some k) u v (fun d hd => by
        have : i = d := Option.some.inj hd
        subst this
        exact fun e2 => e (Option.some.inj e2).symm))
theorem putsA_self (A : Act) : ∀ (ks : List Nat), putsA A (ks.map fun k => (k, A.tmps.getD k undef)) = A := by
  intro ks
  induction ks with
  | nil => rfl
  | cons k t ih =>
    show (putsA A (t.map fun k => (k, A.tmps.getD k undef))).put (some k) (A.tmps.getD k undef) = A
    rw [ih]
    show ({ A with tmps := A.tmps.setIfInBounds k (A.tmps.getD k undef) } : Act) = A
    have : A.tmps.setIfInBounds k (A.tmps.getD k undef) = A.tmps := by
      apply Array.ext_getElem?
      intro j
      rw [Array.getElem?_setIfInBounds]
      split
      · rename_i e
        subst e
        split
        · rename_i hl
          rw [Array.getElem?_eq_getElem hl]
          rfl
        · rename_i hl
          rw [Array.getElem?_eq_none (by omega)]
      · rfl
    rw [this]
end Go.Proofs.YtneagomkohoceaaDoor

/- A region that draws its order: its slots are kept by name, the rest of the state by what is said of the operations done. -/
namespace Go.Proofs.YtneagomkohoceaaDoor
open Go.ChangeShapes Go.WideShapes Go.ChangeAt Go.RowKit
set_option linter.unusedVariables false

def arrOf (n : Nat) (f : Nat → Bool) : Array Bool := ((List.range n).map f).toArray
theorem arrOf_get (n : Nat) (f : Nat → Bool) (i : Nat) (d : Bool) : (arrOf n f).getD i d = if i < n then f i else d := by
  rw [getD_list]
  show ((List.range n).map f).getD i d = _
  rw [List.getD_eq_getElem?_getD, List.getElem?_map]
  by_cases h : i < n
  · rw [List.getElem?_range h, if_pos h]; rfl
  · rw [List.getElem?_eq_none (by simpa using h), if_neg h]; rfl
theorem arrOf_set (n : Nat) (f : Nat → Bool) (i : Nat) : (arrOf n f).setIfInBounds i true = arrOf n (fun j => j == i || f j) := by
  apply Array.ext_getElem?
  intro j
  rw [Array.getElem?_setIfInBounds]
  have hs : ∀ g, (arrOf n g).size = n := fun g => by simp [arrOf]
  have hg : ∀ g : Nat → Bool, (arrOf n g)[j]? = if j < n then some (g j) else none := fun g => by
    show ((List.range n).map g).toArray[j]? = _
    rw [List.getElem?_toArray, List.getElem?_map]
    by_cases h : j < n
    · rw [List.getElem?_range h, if_pos h]; rfl
    · rw [List.getElem?_eq_none (by simpa using h), if_neg h]; rfl
  rw [hg, hg, hs]
  by_cases e : i = j
  · subst e
    simp
  · rw [if_neg e]
    have : (j == i) = false := by simp; exact fun e2 => e e2.symm
    rw [this]; rfl
theorem arrOf_false (n : Nat) : Array.replicate n false = arrOf n (fun _ => false) := by
  apply Array.ext_getElem?
  intro j
  show (Array.replicate n false)[j]? = ((List.range n).map fun _ => false).toArray[j]?
  rw [Array.getElem?_replicate, List.getElem?_toArray, List.getElem?_map]
  by_cases h : j < n
  · rw [List.getElem?_range h, if_pos h]; rfl
  · rw [List.getElem?_eq_none (by simpa using h), if_neg h]; rfl
/-- the slot that operation i writes -/
def dstAt (ops : Array Oper) (i : Nat) : Option Nat := (ops[i]?).bind (·.dst)
/-- no two operations write one slot -/
def dstOK (ops : Array Oper) : Bool := (List.range ops.size).all fun i => (List.range ops.size).all fun j => i == j || dstAt ops i == none || dstAt ops i != dstAt ops j
theorem dst_apart {ops : Array Oper} (h : dstOK ops = true) {i j s : Nat} (hi : dstAt ops i = some s) (hj : dstAt ops j = some s) : i = j := by
  have lt : ∀ {k}, dstAt ops k = some s → k < ops.size := fun {k} hk => by
    rcases Nat.lt_or_ge k ops.size with h1 | h1
    · exact h1
    · unfold dstAt at hk
      rw [Array.getElem?_eq_none h1] at hk
      cases hk
  have h1 := List.all_eq_true.1 (List.all_eq_true.1 h i (List.mem_range.2 (lt hi))) j (List.mem_range.2 (lt hj))
  rw [hi, hj] at h1
  simpa using h1
/-- what is known of a frame while a region is done -/
structure Fr (ops : Array Oper) (A : Act) (f : Nat → Bool) (V : Nat → Value) (a : Act) : Prop where
  size : a.tmps.size = A.tmps.size
  defers : a.defers = A.defers
  old : ∀ s, (∀ i, dstAt ops i ≠ some s) → a.tmps.getD s undef = A.tmps.getD s undef
  new : ∀ i s, dstAt ops i = some s → f i = true → a.tmps.getD s undef = V i
theorem put_get (a : Act) (k s : Nat) (v : Value) (hk : k < a.tmps.size) : (a.put (some k) v).tmps.getD s undef = if k = s then v else a.tmps.getD s undef := by
  show (a.tmps.setIfInBounds k v).getD s undef = _
  rw [Array.getD_eq_getD_getElem?, Array.getElem?_setIfInBounds]
  by_cases e : k = s
  · subst e
    rw [if_pos rfl, if_pos rfl, if_pos hk]; rfl
  · rw [if_neg e, if_neg e, ← Array.getD_eq_getD_getElem?]
theorem Fr.put {ops : Array Oper} {A : Act} {f : Nat → Bool} {V V' : Nat → Value} {a : Act} (h : Fr ops A f V a) (hd : dstOK ops = true) (hin : ∀ i s, dstAt ops i = some s → s < A.tmps.size) {i : Nat} {o : Oper} (ho : ops[i]? = some o) (hf : f i = false) {v : Value} (hv : v = V' i) (hV : ∀ j, f j = true → V' j = V j) :
    Fr ops A (fun j => j == i || f j) V' (a.put o.dst v) := by
  have hdi : dstAt ops i = o.dst := by unfold dstAt; rw [ho]; rfl
  cases hds : o.dst with
  | none =>
    refine ⟨h.size, h.defers, h.old, fun j s hj hfj => ?_⟩
    have hne : (j == i) = false := by
      simp
      intro e
      rw [e, hdi, hds] at hj
      cases hj
    have hfj : (j == i || f j) = true := hfj
    rw [hne] at hfj
    have hfj : f j = true := hfj
    rw [hV j hfj]
    exact h.new j s hj hfj
  | some k =>
    have hk : k < a.tmps.size := by rw [h.size]; exact hin i k (by rw [hdi, hds])
    refine ⟨by show (a.tmps.setIfInBounds k v).size = _; rw [Array.size_setIfInBounds]; exact h.size, h.defers, fun s hs => ?_, fun j s hj hfj => ?_⟩
    · rw [put_get a k s v hk, if_neg (fun e => hs i (by rw [hdi, hds, e]))]
      exact h.old s hs
    · rw [put_get a k s v hk]
      by_cases e : k = s
      · subst e
        have : i = j := dst_apart hd (by rw [hdi, hds]) hj
        subst this
        rw [if_pos rfl, hv]
      · rw [if_neg e]
        have hne : (j == i) = false := by
          simp
          intro e2
          rw [e2, hdi, hds] at hj
          exact e (Option.some.inj hj)
        have hfj : (j == i || f j) = true := hfj
        rw [hne] at hfj
        have hfj : f j = true := hfj
        rw [hV j hfj]
        exact h.new j s hj hfj
theorem wp_region_slots {P : Program} {ops : Array Oper} {Q : Exit → Act → World → Prop} {id : Nat} {A : Act} {w1 : World} {E : Type} (V : Nat → E → Value) (J : (Nat → Bool) → E → World → Prop) (hm : P.follows .mixedOrders = true) (hac : acyc .any ops = true) (hd : dstOK ops = true) (hin : ∀ i s, dstAt ops i = some s → s < A.tmps.size)
    (step : ∀ (f : Nat → Bool) (e : E) (a : Act) (w : World) (i : Nat) (o : Oper), i < ops.size → ops[i]? = some o → f i = false → (∀ d ∈ o.after, Region.binds .any d = true → f d.on = true) → J f e w → Fr ops A f (fun j => V j e) a →
      ∀ K : Act → World → Prop, (∀ v e' w', v = V i e' → (∀ j, f j = true → V j e' = V j e) → J (fun j => j == i || f j) e' w' → K (a.put o.dst v) w') → if Region.wanted o (yielded ops a.tmps) = true then Oper.wp P o a w K Q else K (a.put o.dst undef) w)
    (e0 : E) (start : J (fun _ => false) e0 w1.drew)
    (done : ∀ (f : Nat → Bool) (e : E) (a : Act) (w : World), (∀ i, i < ops.size → f i = true) → J f e w → Fr ops A f (fun j => V j e) a → Q .normal a w) :
    (Code.region id ops true).wp P Q A w1 := by
  refine wp_region_inv hm (fun listed a w => ∃ f e, listed = arrOf ops.size f ∧ Fr ops A f (fun j => V j e) a ∧ J f e w) ?_ hac ?_ ?_ ?_
  · rintro listed a w i o ⟨f, e, rfl, hF, hJ⟩ hun ho hdep K hK
    have hi : i < ops.size := (Array.getElem?_eq_some_iff.1 ho).1
    rw [arrOf_get, if_pos hi] at hun
    refine step f e a w i o hi ho hun (fun d hd1 hd2 => ?_) hJ hF K (fun v e' w' hv hV hJ' => hK _ _ ⟨_, e', arrOf_set _ _ _, hF.put hd hin ho hun (V' := fun j => V j e') hv hV, hJ'⟩)
    have := hdep d hd1 hd2
    rw [arrOf_get] at this
    split at this
    · exact this
    · cases this
  · rintro listed a w ⟨f, e, rfl, _⟩
    simp [arrOf]
  · rintro listed a w ⟨f, e, rfl, hF, hJ⟩ hall
    refine done f e a w (fun i hi => ?_) hJ hF
    have := hall i hi
    rw [arrOf_get, if_pos hi] at this
    exact this
  · exact ⟨fun _ => false, e0, arrOf_false _, ⟨rfl, rfl, fun _ _ => rfl, fun i s _ h => by cases h⟩, start⟩
/-- the frame behind the region -/
theorem Fr.eq {ops : Array Oper} {A : Act} {f : Nat → Bool} {V : Nat → Value} {a : Act} (h : Fr ops A f V a) (L : List (Nat × Value)) (hL : ∀ s, (∀ i, dstAt ops i ≠ some s) → lookA L s = none) (hN : ∀ i s, dstAt ops i = some s → f i = true ∧ lookA L s = some (V i)) : a = putsA A L := by
  have ht : a.tmps = (putsA A L).tmps := by
    apply Array.ext
    · rw [h.size, putsA_size]
    · intro k h1 h2
      have hk : k < A.tmps.size := by rw [← h.size]; exact h1
      have e1 : a.tmps.getD k undef = a.tmps[k] := by simp [Array.getD, h1]
      have e2 : (putsA A L).tmps.getD k undef = (putsA A L).tmps[k] := by simp [Array.getD, h2]
      rw [← e1, ← e2, putsA_get A k hk L]
      by_cases hx : ∃ i, dstAt ops i = some k
      · obtain ⟨i, hi⟩ := hx
        rw [(hN i k hi).2, h.new i k hi (hN i k hi).1]
        rfl
      · have hno : ∀ i, dstAt ops i ≠ some k := fun i hi => hx ⟨i, hi⟩
        rw [hL k hno, h.old k hno]
        rfl
  have hdf : a.defers = (putsA A L).defers := by rw [h.defers, putsA_defers]
  cases a
  cases hp : putsA A L
  rw [hp] at ht hdf
  simp only at ht hdf
  rw [ht, hdf]
end Go.Proofs.YtneagomkohoceaaDoor
