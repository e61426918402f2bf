/- A region that draws its order: its slots are kept by name, the rest of the state by what is said of the operations done. -/
import Derived.Test.YtneagomkohoceaaDoorC21
import Derived.Test.YtneagomkohoceaaDoorTxbc
namespace Go.Proofs.YtneagomkohoceaaDoor
open Go.ChangeShapes Go.WideShapes Go.ChangeAt Go.RowKit
set_option linter.unusedVariables false

def arrOf (n : Nat) (f : Nat → Bool) : Array Bool := ((List.range n).map f).toArray
theorem arrOf_get (n : Nat) (f : Nat → Bool) (i : Nat) (d : Bool) : (arrOf n f).getD i d = if i < n then f i else d := by
  rw [getD_list]
  show ((List.range n).map f).getD i d = _
  rw [List.getD_eq_getElem?_getD, List.getElem?_map]
  by_cases h : i < n
  · rw [List.getElem?_range h, if_pos h]; rfl
  · rw [List.getElem?_eq_none (by simpa using h), if_neg h]; rfl
theorem arrOf_set (n : Nat) (f : Nat → Bool) (i : Nat) : (arrOf n f).setIfInBounds i true = arrOf n (fun j => j == i || f j) := by
  apply Array.ext_getElem?
  intro j
  rw [Array.getElem?_setIfInBounds]
  have hs : ∀ g, (arrOf n g).size = n := fun g => by simp [arrOf]
  have hg : ∀ g : Nat → Bool, (arrOf n g)[j]? = if j < n then some (g j) else none := fun g => by
    show ((List.range n).map g).toArray[j]? = _
    rw [List.getElem?_toArray, List.getElem?_map]
    by_cases h : j < n
    · rw [List.getElem?_range h, if_pos h]; rfl
    · rw [List.getElem?_eq_none (by simpa using h), if_neg h]; rfl
  rw [hg, hg, hs]
  by_cases e : i = j
  · subst e
    simp
  · rw [if_neg e]
    have : (j == i) = false := by simp; exact fun e2 => e e2.symm
    rw [this]; rfl
theorem arrOf_false (n : Nat) : Array.replicate n false = arrOf n (fun _ => false) := by
  apply Array.ext_getElem?
  intro j
  show (Array.replicate n false)[j]? = ((List.range n).map fun _ => false).toArray[j]?
  rw [Array.getElem?_replicate, List.getElem?_toArray, List.getElem?_map]
  by_cases h : j < n
  · rw [List.getElem?_range h, if_pos h]; rfl
  · rw [List.getElem?_eq_none (by simpa using h), if_neg h]; rfl
/-- the slot that operation i writes -/
def dstAt (ops : Array Oper) (i : Nat) : Option Nat := (ops[i]?).bind (·.dst)
/-- no two operations write one slot -/
def dstOK (ops : Array Oper) : Bool := (List.range ops.size).all fun i => (List.range ops.size).all fun j => i == j || dstAt ops i == none || dstAt ops i != dstAt ops j
theorem dst_apart {ops : Array Oper} (h : dstOK ops = true) {i j s : Nat} (hi : dstAt ops i = some s) (hj : dstAt ops j = some s) : i = j := by
  have lt : ∀ {k}, dstAt ops k = some s → k < ops.size := fun {k} hk => by
    rcases Nat.lt_or_ge k ops.size with h1 | h1
    · exact h1
    · unfold dstAt at hk
      rw [Array.getElem?_eq_none h1] at hk
      cases hk
  have h1 := List.all_eq_true.1 (List.all_eq_true.1 h i (List.mem_range.2 (lt hi))) j (List.mem_range.2 (lt hj))
  rw [hi, hj] at h1
  simpa using h1
/-- what is known of a frame while a region is done -/
structure Fr (ops : Array Oper) (A : Act) (f : Nat → Bool) (V : Nat → Value) (a : Act) : Prop where
  size : a.tmps.size = A.tmps.size
  defers : a.defers = A.defers
  old : ∀ s, (∀ i, dstAt ops i ≠ some s) → a.tmps.getD s undef = A.tmps.getD s undef
  new : ∀ i s, dstAt ops i = some s → f i = true → a.tmps.getD s undef = V i
theorem put_get (a : Act) (k s : Nat) (v : Value) (hk : k < a.tmps.size) : (a.put (some k) v).tmps.getD s undef = if k = s then v else a.tmps.getD s undef := by
  show (a.tmps.setIfInBounds k v).getD s undef = _
  rw [Array.getD_eq_getD_getElem?, Array.getElem?_setIfInBounds]
  by_cases e : k = s
  · subst e
    rw [if_pos rfl, if_pos rfl, if_pos hk]; rfl
  · rw [if_neg e, if_neg e, ← Array.getD_eq_getD_getElem?]
theorem Fr.put {ops : Array Oper} {A : Act} {f : Nat → Bool} {V V' : Nat → Value} {a : Act} (h : Fr ops A f V a) (hd : dstOK ops = true) (hin : ∀ i s, dstAt ops i = some s → s < A.tmps.size) {i : Nat} {o : Oper} (ho : ops[i]? = some o) (hf : f i = false) {v : Value} (hv : v = V' i) (hV : ∀ j, f j = true → V' j = V j) :
    Fr ops A (fun j => j == i || f j) V' (a.put o.dst v) := by
  have hdi : dstAt ops i = o.dst := by unfold dstAt; rw [ho]; rfl
  cases hds : o.dst with
  | none =>
    refine ⟨h.size, h.defers, h.old, fun j s hj hfj => ?_⟩
    have hne : (j == i) = false := by
      simp
      intro e
      rw [e, hdi, hds] at hj
      cases hj
    have hfj : (j == i || f j) = true := hfj
    rw [hne] at hfj
    have hfj : f j = true := hfj
    rw [hV j hfj]
    exact h.new j s hj hfj
  | some k =>
    have hk : k < a.tmps.size := by rw [h.size]; exact hin i k (by rw [hdi, hds])
    refine ⟨by show (a.tmps.setIfInBounds k v).size = _; rw [Array.size_setIfInBounds]; exact h.size, h.defers, fun s hs => ?_, fun j s hj hfj => ?_⟩
    · rw [put_get a k s v hk, if_neg (fun e => hs i (by rw [hdi, hds, e]))]
      exact h.old s hs
    · rw [put_get a k s v hk]
      by_cases e : k = s
      · subst e
        have : i = j := dst_apart hd (by rw [hdi, hds]) hj
        subst this
        rw [if_pos rfl, hv]
      · rw [if_neg e]
        have hne : (j == i) = false := by
          simp
          intro e2
          rw [e2, hdi, hds] at hj
          exact e (Option.some.inj hj)
        have hfj : (j == i || f j) = true := hfj
        rw [hne] at hfj
        have hfj : f j = true := hfj
        rw [hV j hfj]
        exact h.new j s hj hfj
theorem wp_region_slots {P : Program} {ops : Array Oper} {Q : Exit → Act → World → Prop} {id : Nat} {A : Act} {w1 : World} {E : Type} (V : Nat → E → Value) (J : (Nat → Bool) → E → World → Prop) (hm : P.follows .mixedOrders = true) (hac : acyc .any ops = true) (hd : dstOK ops = true) (hin : ∀ i s, dstAt ops i = some s → s < A.tmps.size)
    (step : ∀ (f : Nat → Bool) (e : E) (a : Act) (w : World) (i : Nat) (o : Oper), i < ops.size → ops[i]? = some o → f i = false → (∀ d ∈ o.after, Region.binds .any d = true → f d.on = true) → J f e w → Fr ops A f (fun j => V j e) a →
      ∀ K : Act → World → Prop, (∀ v e' w', v = V i e' → (∀ j, f j = true → V j e' = V j e) → J (fun j => j == i || f j) e' w' → K (a.put o.dst v) w') → if Region.wanted o (yielded ops a.tmps) = true then Oper.wp P o a w K Q else K (a.put o.dst undef) w)
    (e0 : E) (start : J (fun _ => false) e0 w1.drew)
    (done : ∀ (f : Nat → Bool) (e : E) (a : Act) (w : World), (∀ i, i < ops.size → f i = true) → J f e w → Fr ops A f (fun j => V j e) a → Q .normal a w) :
    (Code.region id ops true).wp P Q A w1 := by
  refine wp_region_inv hm (fun listed a w => ∃ f e, listed = arrOf ops.size f ∧ Fr ops A f (fun j => V j e) a ∧ J f e w) ?_ hac ?_ ?_ ?_
  · rintro listed a w i o ⟨f, e, rfl, hF, hJ⟩ hun ho hdep K hK
    have hi : i < ops.size := (Array.getElem?_eq_some_iff.1 ho).1
    rw [arrOf_get, if_pos hi] at hun
    refine step f e a w i o hi ho hun (fun d hd1 hd2 => ?_) hJ hF K (fun v e' w' hv hV hJ' => hK _ _ ⟨_, e', arrOf_set _ _ _, hF.put hd hin ho hun (V' := fun j => V j e') hv hV, hJ'⟩)
    have := hdep d hd1 hd2
    rw [arrOf_get] at this
    split at this
    · exact this
    · cases this
  · rintro listed a w ⟨f, e, rfl, _⟩
    simp [arrOf]
  · rintro listed a w ⟨f, e, rfl, hF, hJ⟩ hall
    refine done f e a w (fun i hi => ?_) hJ hF
    have := hall i hi
    rw [arrOf_get, if_pos hi] at this
    exact this
  · exact ⟨fun _ => false, e0, arrOf_false _, ⟨rfl, rfl, fun _ _ => rfl, fun i s _ h => by cases h⟩, start⟩
/-- the frame behind the region -/
theorem Fr.eq {ops : Array Oper} {A : Act} {f : Nat → Bool} {V : Nat → Value} {a : Act} (h : Fr ops A f V a) (L : List (Nat × Value)) (hL : ∀ s, (∀ i, dstAt ops i ≠ some s) → lookA L s = none) (hN : ∀ i s, dstAt ops i = some s → f i = true ∧ lookA L s = some (V i)) : a = putsA A L := by
  have ht : a.tmps = (putsA A L).tmps := by
    apply Array.ext
    · rw [h.size, putsA_size]
    · intro k h1 h2
      have hk : k < A.tmps.size := by rw [← h.size]; exact h1
      have e1 : a.tmps.getD k undef = a.tmps[k] := by simp [Array.getD, h1]
      have e2 : (putsA A L).tmps.getD k undef = (putsA A L).tmps[k] := by simp [Array.getD, h2]
      rw [← e1, ← e2, putsA_get A k hk L]
      by_cases hx : ∃ i, dstAt ops i = some k
      · obtain ⟨i, hi⟩ := hx
        rw [(hN i k hi).2, h.new i k hi (hN i k hi).1]
        rfl
      · have hno : ∀ i, dstAt ops i ≠ some k := fun i hi => hx ⟨i, hi⟩
        rw [hL k hno, h.old k hno]
        rfl
  have hdf : a.defers = (putsA A L).defers := by rw [h.defers, putsA_defers]
  cases a
  cases hp : putsA A L
  rw [hp] at ht hdf
  simp only at ht hdf
  rw [ht, hdf]
end Go.Proofs.YtneagomkohoceaaDoor

/- A word and words of numbers behind it: what is said of them while they are gathered. -/
namespace Go.Proofs.YtneagomkohoceaaDoor
open Go.ChangeShapes Go.WideShapes Go.ChangeAt Go.RowKit
set_option linter.unusedVariables false
set_option linter.unusedSimpArgs false

/-- a list of pointers to just these numbers -/
def PlR (w : World) (v : Value) (ns : List Nat) : Prop := ∃ pa pg c, v = .slice pa ns.length c ∧ (0 < ns.length → pa = some ⟨pg, 0, none⟩) ∧ ∀ i, i < ns.length → ∃ b o, w.cell? ⟨pg, i, none⟩ = some (.pointer (some ⟨b, o, none⟩)) ∧ w.cell? ⟨b, o, none⟩ = some (.int .i64 (ns.getD i 0 : Nat)) ∧ ns.getD i 0 < 1000000000
theorem PlR.up {w w' : World} {v : Value} {ns : List Nat} (h : PlR w v ns) (hb : Below w.heap.size w w') : PlR w' v ns := by
  obtain ⟨pa, pg, c, h1, h2, h3⟩ := h
  refine ⟨pa, pg, c, h1, h2, fun i hi => ?_⟩
  obtain ⟨b, o, c1, c2, c3⟩ := h3 i hi
  exact ⟨b, o, cellX_kept hb c1, cellX_kept hb c2, c3⟩
/-- words in a list of their own, in a block above lo -/
def NwR (lo : Nat) (w : World) (v : Value) (ws : List ByteArray) : Prop := ∃ g, v = .slice (some ⟨g, 0, none⟩) ws.length ws.length ∧ lo ≤ g ∧ ∀ i x, ws[i]? = some x → w.cell? ⟨g, i, none⟩ = some (.string x)
theorem NwR.up {lo : Nat} {w w' : World} {v : Value} {ws : List ByteArray} (h : NwR lo w v ws) (hb : Below w.heap.size w w') : NwR lo w' v ws := by
  obtain ⟨g, h1, h2, h3⟩ := h
  exact ⟨g, h1, h2, fun i x hx => cellX_kept hb (h3 i x hx)⟩
theorem run_append_zeroX {P : Program} (w : World) (t ty e : TypeId) (i : TypeInfo) (ht : P.underlying t = some (.slice e)) (hi : P.info? e = some i) (x a : Addr) (n c c' : Nat) (hle : n ≤ c') :
    (Builtin.append_ #[t, t] ty #[.slice (some x) n c', .slice (some a) 0 c]).run P w = .ok (.slice (some x) n c') w := by
  simp [Builtin.append_, run_underlying ht, sizeOf, typeInfo, hi, Builtin.lenOf, Builtin.firstCells, loadCells, loadCellsFrom, storeCells, hle]
theorem wp_append_zeroX {P : Program} (w : World) {o : Oper} {a : Act} {K : Act → World → Prop} {Q : Exit → Act → World → Prop} (s x : Operand) (t : TypeId)
    (ho : o.op = .call { callee := .builtin .append, args := #[s, x], argTypes := #[t, t] }) (e : TypeId) (i : TypeInfo) (ht : P.underlying t = some (.slice e)) (hi : P.info? e = some i)
    (y b : Addr) (n c c' : Nat) (hle : n ≤ c') (hs : a.eval s = .slice (some y) n c') (hx : a.eval x = .slice (some b) 0 c) (h : K (a.put o.dst (.slice (some y) n c')) w) : o.wp P a w K Q := by
  unfold Oper.wp execOp
  simp only [ho, resolve, invoke, builtin, Sem.run_bind, Sem.run_pure, Result.andThen_ok, List.map_toArray, List.map_cons, List.map_nil, hs, hx, run_append_zeroX w t o.type e i ht hi y b n c c' hle]
  exact h
/-- the words that stand in a list of one's own -/
theorem own_cells {W : World} {lo : Nat} {v : Value} {ws : List ByteArray} (h : W.ownsRow lo 9 1 v ws.length (ws.map Value.string)) (hn : 0 < ws.length) : ∃ g c, v = .slice (some ⟨g, 0, none⟩) ws.length c ∧ lo ≤ g ∧ g < W.heap.size ∧ ws.length ≤ c ∧ ∀ (i : Nat) x, ws[i]? = some x → W.cell? ⟨g, i, none⟩ = some (.string x) := by
  obtain ⟨g, c, rfl, h1, h2⟩ := h.form hn
  refine ⟨g, c, rfl, h1, h2, ?_, fun i x hx => ?_⟩
  · rcases h.2 with ⟨h0, _⟩ | ⟨g', cap', cur, hv', _, _, hc, _⟩
    · cases h0
    · injection hv' with _ _ e
      omega
  have hi := (List.getElem?_eq_some_iff.1 hx).1
  rw [h.cellAt i (by omega), List.getElem?_map, hx]
  rfl
end Go.Proofs.YtneagomkohoceaaDoor
