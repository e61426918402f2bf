/- A region that draws its order, walked in one order: where each operation answers the same in every world that meets S, and leaves one that meets it, all orders answer alike. -/
import Derived.Test.YtneagomkohoceaaDoorC25
import Derived.Deep.MidRow
namespace Go.Proofs.YtneagomkohoceaaDoor
open Go.ChangeShapes Go.WideShapes Go.ChangeAt Go.RowKit
set_option linter.unusedVariables false
set_option linter.unusedSimpArgs false

section
variable {P : Program} {ops : Array Oper}
/-- a wanted operation, in a world that meets S, answers v and leaves a world that meets T -/
def Calm (P : Program) (S T : World → Prop) (o : Oper) (v : Value) (a : Act) : Prop :=
  ∀ w, S w → ∀ K : Act → World → Prop, (∀ w', T w' → K (a.put o.dst v) w') → Oper.wp P o a w K (fun _ _ _ => False)
theorem put_inj {a b : Act} {d : Option Tmp} {u v : Value} (hd : ∀ k, d = some k → k < a.tmps.size) (h : a.put d u = a.put d v) : b.put d u = b.put d v := by
  cases d with
  | none => rfl
  | some k =>
    have e : (a.put (some k) u).tmps.getD k undef = (a.put (some k) v).tmps.getD k undef := by rw [h]
    rw [put_get a k k u (hd k rfl), put_get a k k v (hd k rfl), if_pos rfl, if_pos rfl] at e
    rw [e]
theorem calm_move {S T : World → Prop} {o : Oper} {v : Value} {a b : Act} (h : Calm P S T o v a) (he : execOp b.eval o = execOp a.eval o) (hd : ∀ k, o.dst = some k → k < a.tmps.size) {w : World} (hS : S w) {K : Act → World → Prop} {Q : Exit → Act → World → Prop} (hK : ∀ w', T w' → K (b.put o.dst v) w') : Oper.wp P o b w K Q := by
  have h1 := h w hS (fun a' w' => T w' ∧ a' = a.put o.dst v) (fun w' ht => ⟨ht, rfl⟩)
  unfold Oper.wp at h1 ⊢
  rw [he]
  generalize (execOp a.eval o).run P w = r at *
  have key : ∀ u w', T w' → a.put o.dst u = a.put o.dst v → K (b.put o.dst u) w' := fun u w' ht e => by
    rw [put_inj hd e]
    exact hK w' ht
  cases r with
  | ok n w' =>
    cases n <;> simp only [Oper.upon] at h1 ⊢
    case value u => exact key u w' h1.1 h1.2
    case skip => exact key undef w' h1.1 h1.2
    case defer d =>
      have e := congrArg Act.defers h1.2
      have e1 : ∀ (x : Act) (q : Option Tmp) (z : Value), (x.put q z).defers = x.defers := fun x q z => by cases q <;> rfl
      rw [e1, e1] at e
      have := congrArg List.length e
      simp at this
    case enter f args =>
      refine Calls.mono h1 (fun e w'' hh => ?_)
      cases e with
      | returned u => exact key u w'' hh.1 hh.2
      | panicked c => exact False.elim hh
      | outgrown => obtain ⟨_, _, hh⟩ := hh; exact False.elim hh
    case row row args => exact Rows.mono h1 (fun u w'' hh => key u w'' hh.1 hh.2)
  | halt x w' => cases x <;> simp only [Oper.upon] at h1 ⊢
/-- two frames that show an operation the same -/
def SeesAlike (ops : Array Oper) (o : Oper) (a b : Act) : Prop := a.tmps.size = b.tmps.size ∧ ∀ s, s ∈ o.looksAt ops → a.tmps.getD s undef = b.tmps.getD s undef
theorem sees_exec {o : Oper} {a b : Act} (h : SeesAlike ops o a b) (hs : ∀ cs x, o.op ≠ .select cs x) : execOp a.eval o = execOp b.eval o :=
  execOp_congr o hs (fun x hx => by
    cases x with
    | tmp t => exact h.2 t (List.mem_append_left _ (List.mem_filterMap.2 ⟨.tmp t, by simpa using hx, rfl⟩))
    | _ => rfl)
theorem sees_wanted {o : Oper} {a b : Act} (h : SeesAlike ops o a b) : Region.wanted o (yielded ops a.tmps) = Region.wanted o (yielded ops b.tmps) := by
  unfold Region.wanted
  cases hg : o.guard with
  | none => rfl
  | some gw =>
    obtain ⟨g, want⟩ := gw
    have hy : yielded ops a.tmps g = yielded ops b.tmps g := by
      unfold yielded
      cases ht : (ops[g]?).bind (·.dst) with
      | none => rfl
      | some t =>
        have e := h.2 t (by simp [Oper.looksAt, hg, ht])
        show (match (some t).bind (a.tmps[·]?) with | some (.bool b) => some b | _ => none) = (match (some t).bind (b.tmps[·]?) with | some (.bool b) => some b | _ => none)
        have e2 : a.tmps[t]? = b.tmps[t]? := by
          by_cases hl : t < a.tmps.size
          · have hl2 : t < b.tmps.size := by rw [← h.1]; exact hl
            rw [Array.getD_eq_getD_getElem?, Array.getD_eq_getD_getElem?, Array.getElem?_eq_getElem hl, Array.getElem?_eq_getElem hl2] at e
            rw [Array.getElem?_eq_getElem hl, Array.getElem?_eq_getElem hl2]
            exact congrArg some e
          · have hl2 : ¬ t < b.tmps.size := by rw [← h.1]; exact hl
            rw [Array.getElem?_eq_none (Nat.le_of_not_lt hl), Array.getElem?_eq_none (Nat.le_of_not_lt hl2)]
        show (match a.tmps[t]? with | some (.bool b) => some b | _ => none) = (match b.tmps[t]? with | some (.bool b) => some b | _ => none)
        rw [e2]
    simp only [hy]
/-- each operation waits for those whose slots it looks at -/
def depOK (ops : Array Oper) : Bool := (List.range ops.size).all fun i => match ops[i]? with
  | none => true
  | some o => (o.looksAt ops).all fun s => (List.range ops.size).all fun j => dstAt ops j != some s || o.after.any fun e => e.on == j && Region.binds .any e
def insOK (ops : Array Oper) (n : Nat) : Bool := (List.range ops.size).all fun i => match dstAt ops i with
  | none => true
  | some s => decide (s < n)
/-- whether operation m waits for i, by a road of at most n steps -/
def calmReach (ops : Array Oper) : Nat → Nat → Nat → Bool
  | 0, _, _ => false
  | n + 1, m, i => match ops[m]? with
    | none => false
    | some o => o.after.any fun e => Region.binds .any e && (e.on == i || calmReach ops n e.on i)
def waits (ops : Array Oper) (m i : Nat) : Bool := decide (ops.size ≤ m) || calmReach ops 8 m i
theorem calmReach_done {f : Nat → Bool} (hcl : ∀ i o, ops[i]? = some o → f i = true → ∀ d ∈ o.after, Region.binds .any d = true → f d.on = true) : ∀ n m i, calmReach ops n m i = true → f m = true → f i = true := by
  intro n
  induction n with
  | zero => intro m i h; cases h
  | succ n ih =>
    intro m i h hm
    unfold calmReach at h
    cases ho : ops[m]? with
    | none => rw [ho] at h; cases h
    | some o =>
      rw [ho] at h
      simp only [Array.any_eq_true'] at h
      obtain ⟨d, hd1, hd2⟩ := h
      rw [Bool.and_eq_true, Bool.or_eq_true, beq_iff_eq] at hd2
      have hfd := hcl m o ho hm d hd1 hd2.1
      rcases hd2.2 with e | e
      · rw [← e]; exact hfd
      · exact ih _ _ e hfd
/-- the frame when operations from i on have been done in their row -/
def canonF (ops : Array Oper) (i : Nat) (a : Act) (V : Nat → Value) : Nat → Act
  | 0 => a
  | n + 1 => match ops[i + n]? with
    | some o => (canonF ops i a V n).put o.dst (V (i + n))
    | none => canonF ops i a V n
/-- what is asked of one operation: m is the one that turns S1 into S2 -/
def StepC (P : Program) (ops : Array Oper) (m : Nat) (S1 S2 : World → Prop) (i : Nat) (o : Oper) (v : Value) (a : Act) : Prop :=
  (Region.wanted o (yielded ops a.tmps) = false ∧ v = undef ∧ i ≠ m) ∨
  (Region.wanted o (yielded ops a.tmps) = true ∧ (if i = m then Calm P S1 S2 o v a else if waits ops m i = true then Calm P S1 S1 o v a else (Calm P S1 S1 o v a ∧ Calm P S2 S2 o v a)))
def CalmFrom (P : Program) (ops : Array Oper) (m : Nat) (S1 S2 : World → Prop) (Q : Act → World → Prop) (i : Nat) (a : Act) : Prop :=
  ∃ V : Nat → Value, (∀ n o, ops[i + n]? = some o → StepC P ops m S1 S2 (i + n) o (V (i + n)) (canonF ops i a V n)) ∧ ∀ w, (if m < ops.size then S2 w else S1 w) → Q (canonF ops i a V (ops.size - i)) w
theorem canonF_succ (i : Nat) (a : Act) (V : Nat → Value) {o : Oper} (ho : ops[i]? = some o) : ∀ n, canonF ops i a V (n + 1) = canonF ops (i + 1) (a.put o.dst (V i)) V n := by
  intro n
  induction n with
  | zero =>
    show (match ops[i + 0]? with | some o => (canonF ops i a V 0).put o.dst (V (i + 0)) | none => canonF ops i a V 0) = _
    rw [Nat.add_zero, ho]; rfl
  | succ n ih =>
    show (match ops[i + (n + 1)]? with | some o => (canonF ops i a V (n + 1)).put o.dst (V (i + (n + 1))) | none => canonF ops i a V (n + 1)) = (match ops[i + 1 + n]? with | some o => (canonF ops (i + 1) _ V n).put o.dst (V (i + 1 + n)) | none => canonF ops (i + 1) _ V n)
    rw [ih, show i + (n + 1) = i + 1 + n from by omega]
theorem canonF_ext (i : Nat) (a : Act) (V V' : Nat → Value) (h : ∀ k, i ≤ k → V k = V' k) : ∀ n, canonF ops i a V n = canonF ops i a V' n := by
  intro n
  induction n with
  | zero => rfl
  | succ n ih =>
    show (match ops[i + n]? with | some o => (canonF ops i a V n).put o.dst (V (i + n)) | none => canonF ops i a V n) = (match ops[i + n]? with | some o => (canonF ops i a V' n).put o.dst (V' (i + n)) | none => canonF ops i a V' n)
    rw [ih, h (i + n) (by omega)]
theorem calm_cons {m : Nat} {S1 S2 : World → Prop} {Q : Act → World → Prop} {i : Nat} {o : Oper} {v : Value} {a : Act} (ho : ops[i]? = some o) (h : StepC P ops m S1 S2 i o v a) (r : CalmFrom P ops m S1 S2 Q (i + 1) (a.put o.dst v)) : CalmFrom P ops m S1 S2 Q i a := by
  obtain ⟨V, h1, h2⟩ := r
  have hi : i < ops.size := (Array.getElem?_eq_some_iff.1 ho).1
  let V' : Nat → Value := fun k => if k = i then v else V k
  have hVi : V' i = v := if_pos rfl
  have hV : ∀ k, i + 1 ≤ k → V k = V' k := fun k hk => (if_neg (by omega)).symm
  refine ⟨V', fun n o' ho' => ?_, fun w hw => ?_⟩
  · cases n with
    | zero =>
      rw [Nat.add_zero] at ho'
      rw [ho] at ho'
      obtain rfl := Option.some.inj ho'
      show StepC P ops m S1 S2 (i + 0) o (V' (i + 0)) a
      rw [Nat.add_zero, hVi]
      exact h
    | succ n =>
      have e : i + (n + 1) = i + 1 + n := by omega
      rw [canonF_succ i a V' ho, hVi, e, ← canonF_ext (i + 1) _ V V' hV, ← hV (i + 1 + n) (by omega)]
      exact h1 n o' (by rw [← e]; exact ho')
  · have e : ops.size - i = (ops.size - (i + 1)) + 1 := by omega
    rw [e, canonF_succ i a V' ho, hVi, ← canonF_ext (i + 1) _ V V' hV]
    exact h2 w hw
theorem calm_done {m : Nat} {S1 S2 : World → Prop} {Q : Act → World → Prop} {i : Nat} {a : Act} (hi : ops.size = i) (h : ∀ w, (if m < ops.size then S2 w else S1 w) → Q a w) : CalmFrom P ops m S1 S2 Q i a :=
  ⟨fun _ => undef, fun n o ho => (by have := (Array.getElem?_eq_some_iff.1 ho).1; omega), fun w hw => by rw [show ops.size - i = 0 from by omega]; exact h w hw⟩
theorem canonF_size (i : Nat) (a : Act) (V : Nat → Value) : ∀ n, (canonF ops i a V n).tmps.size = a.tmps.size := by
  intro n
  induction n with
  | zero => rfl
  | succ n ih =>
    show (match ops[i + n]? with | some o => (canonF ops i a V n).put o.dst (V (i + n)) | none => canonF ops i a V n).tmps.size = _
    cases ops[i + n]? with
    | none => exact ih
    | some o =>
      cases h : o.dst with
      | none => simp only [h]; exact ih
      | some k => simp only [h, Act.put, Array.size_setIfInBounds]; exact ih
theorem canonF_defers (i : Nat) (a : Act) (V : Nat → Value) : ∀ n, (canonF ops i a V n).defers = a.defers := by
  intro n
  induction n with
  | zero => rfl
  | succ n ih =>
    show (match ops[i + n]? with | some o => (canonF ops i a V n).put o.dst (V (i + n)) | none => canonF ops i a V n).defers = _
    cases ops[i + n]? with
    | none => exact ih
    | some o => cases h : o.dst <;> simp only [h, Act.put] <;> exact ih
theorem canonF_get (A : Act) (V : Nat → Value) (hd : dstOK ops = true) (hin : insOK ops A.tmps.size = true) (s : Nat) : ∀ n, n ≤ ops.size →
    ((∀ j, j < n → dstAt ops j ≠ some s) → (canonF ops 0 A V n).tmps.getD s undef = A.tmps.getD s undef) ∧ (∀ j, j < n → dstAt ops j = some s → (canonF ops 0 A V n).tmps.getD s undef = V j) := by
  intro n
  induction n with
  | zero => exact fun _ => ⟨fun _ => rfl, fun j hj => by omega⟩
  | succ n ih =>
    intro hn
    obtain ⟨i1, i2⟩ := ih (by omega)
    have ho : ops[0 + n]? = some ops[n] := by rw [Nat.zero_add]; exact Array.getElem?_eq_getElem (by omega)
    have hdn : dstAt ops n = ops[n].dst := by unfold dstAt; rw [Array.getElem?_eq_getElem (by omega)]; rfl
    have e : canonF ops 0 A V (n + 1) = (canonF ops 0 A V n).put ops[n].dst (V n) := by
      show (match ops[0 + n]? with | some o => (canonF ops 0 A V n).put o.dst (V (0 + n)) | none => canonF ops 0 A V n) = _
      rw [ho, Nat.zero_add]
    rw [e]
    cases hds : ops[n].dst with
    | none =>
      refine ⟨fun h => i1 (fun j hj => h j (by omega)), fun j hj h => i2 j ?_ h⟩
      rcases Nat.lt_or_ge j n with h1 | h1
      · exact h1
      · have : j = n := by omega
        subst this
        rw [hdn, hds] at h
        cases h
    | some k =>
      have hk : k < (canonF ops 0 A V n).tmps.size := by
        rw [canonF_size]
        have := List.all_eq_true.1 hin n (List.mem_range.2 (by omega))
        rw [hdn, hds] at this
        simpa using this
      rw [put_get _ _ _ _ hk]
      by_cases ek : k = s
      · subst ek
        rw [if_pos rfl]
        refine ⟨fun h => absurd (by rw [hdn, hds]) (h n (by omega)), fun j hj h => ?_⟩
        rw [dst_apart hd (i := n) (j := j) (by rw [hdn, hds]) h]
      · rw [if_neg ek]
        refine ⟨fun h => i1 (fun j hj => h j (by omega)), fun j hj h => i2 j ?_ h⟩
        rcases Nat.lt_or_ge j n with h1 | h1
        · exact h1
        · have : j = n := by omega
          subst this
          rw [hdn, hds] at h
          exact absurd (Option.some.inj h) ek
theorem dst_lt {j s : Nat} (h : dstAt ops j = some s) : j < ops.size := by
  rcases Nat.lt_or_ge j ops.size with h1 | h1
  · exact h1
  · unfold dstAt at h
    rw [Array.getElem?_eq_none (by exact h1)] at h
    cases h
theorem calm_go {Q : Exit → Act → World → Prop} {id : Nat} {A : Act} {w1 : World} (m : Nat) (S1 S2 : World → Prop) (hm : P.follows .mixedOrders = true) (hac : acyc .any ops = true) (hd : dstOK ops = true) (hdp : depOK ops = true) (hsel : Region.noSelect ops = true) (hin : insOK ops A.tmps.size = true) (hS : S1 w1.drew)
    (h : CalmFrom P ops m S1 S2 (fun a w => Q .normal a w) 0 A) : (Code.region id ops true).wp P Q A w1 := by
  obtain ⟨V, h1, h2⟩ := h
  simp only [Nat.zero_add, Nat.sub_zero] at h1 h2
  have inA : ∀ i s, dstAt ops i = some s → s < A.tmps.size := fun i s hi => by
    have hlt : i < ops.size := by
      rcases Nat.lt_or_ge i ops.size with h1 | h1
      · exact h1
      · unfold dstAt at hi
        rw [Array.getElem?_eq_none (by exact h1)] at hi
        cases hi
    have := List.all_eq_true.1 hin i (List.mem_range.2 hlt)
    rw [hi] at this
    simpa using this
  refine wp_region_slots (E := Unit) (fun i _ => V i) (fun f _ w => (∀ i o, ops[i]? = some o → f i = true → ∀ d ∈ o.after, Region.binds .any d = true → f d.on = true) ∧ (if m < ops.size ∧ f m = true then S2 w else S1 w)) hm hac hd inA ?_ () ?_ ?_
  · intro f _ a w i o hi ho hun hdep hJ hFr K hK
    obtain ⟨hcl, hJ⟩ := hJ
    have hstep := h1 i o ho
    have hcl2 : ∀ k o', ops[k]? = some o' → (k == i || f k) = true → ∀ d ∈ o'.after, Region.binds .any d = true → (d.on == i || f d.on) = true := fun k o' hk hf d hdm hb => by
      by_cases e : k = i
      · subst e
        rw [ho] at hk
        obtain rfl := Option.some.inj hk
        rw [hdep d hdm hb, Bool.or_true]
      · have : f k = true := by
          rw [Bool.or_eq_true, beq_iff_eq] at hf
          exact hf.resolve_left e
        rw [hcl k o' hk this d hdm hb, Bool.or_true]
    have hal : SeesAlike ops o a (canonF ops 0 A V i) := by
      refine ⟨by rw [hFr.size, canonF_size], fun s hs => ?_⟩
      have hg := canonF_get A V hd hin s i (Nat.le_of_lt hi)
      by_cases hw : ∃ j, j < ops.size ∧ dstAt ops j = some s
      · obtain ⟨j, hj, hjs⟩ := hw
        have k1 := List.all_eq_true.1 hdp i (List.mem_range.2 hi)
        rw [ho] at k1
        have k2 := List.all_eq_true.1 (List.all_eq_true.1 k1 s hs) j (List.mem_range.2 hj)
        rw [hjs] at k2
        simp only [bne_self_eq_false, Bool.false_or, Array.any_eq_true'] at k2
        obtain ⟨d, hd1, hd2⟩ := k2
        simp only [Bool.and_eq_true, beq_iff_eq] at hd2
        have hfj := hdep d hd1 hd2.2
        rw [hd2.1] at hfj
        have hlt : j < i := by
          have q1 := List.all_eq_true.1 hac i (List.mem_range.2 hi)
          rw [ho] at q1
          have q2 := Array.all_eq_true'.1 q1 d hd1
          rw [hd2.2, hd2.1] at q2
          simpa using q2
        rw [hFr.new j s hjs hfj, hg.2 j hlt hjs]
      · have hn : ∀ j, dstAt ops j ≠ some s := fun j hj => hw ⟨j, dst_lt hj, hj⟩
        rw [hFr.old s hn, hg.1 (fun j _ => hn j)]
    have hso : ∀ cs x, o.op ≠ .select cs x := fun cs x => Region.noSelect_spec hsel i o cs x ho
    rw [sees_wanted hal]
    have hex := sees_exec hal hso
    have hdi : ∀ k, o.dst = some k → k < (canonF ops 0 A V i).tmps.size := fun k hk => by
      rw [canonF_size]
      exact inA i k (by unfold dstAt; rw [ho]; exact hk)
    have same : ∀ j, f j = true → V j = V j := fun _ _ => rfl
    rcases hstep with ⟨hw, hv, hne⟩ | ⟨hw, hc⟩
    · rw [hw, if_neg (by decide)]
      refine hK undef () w hv.symm same ⟨hcl2, ?_⟩
      have e : (m == i || f m) = f m := by
        have : (m == i) = false := by simpa using fun e => hne e.symm
        rw [this, Bool.false_or]
      show (if m < ops.size ∧ (m == i || f m) = true then S2 w else S1 w)
      rw [e]
      exact hJ
    · rw [hw, if_pos rfl]
      by_cases him : i = m
      · rw [if_pos him] at hc
        have hS1 : S1 w := by
          rw [if_neg (by rintro ⟨_, hf⟩; rw [him] at hun; rw [hun] at hf; cases hf)] at hJ
          exact hJ
        refine calm_move hc hex hdi hS1 (fun w' ht => hK (V i) () w' rfl same ⟨hcl2, ?_⟩)
        show (if m < ops.size ∧ (m == i || f m) = true then S2 w' else S1 w')
        rw [if_pos ⟨by rw [← him]; exact hi, by rw [him]; simp⟩]
        exact ht
      · rw [if_neg him] at hc
        have e : (m == i || f m) = f m := by
          have : (m == i) = false := by simpa using fun e => him e.symm
          rw [this, Bool.false_or]
        by_cases hfm : m < ops.size ∧ f m = true
        · rw [if_pos hfm] at hJ
          have hnw : ¬ waits ops m i = true := fun hwt => by
            unfold waits at hwt
            rw [decide_eq_false (by omega), Bool.false_or] at hwt
            have := calmReach_done hcl 8 m i hwt hfm.2
            rw [hun] at this
            cases this
          rw [if_neg hnw] at hc
          refine calm_move hc.2 hex hdi hJ (fun w' ht => hK (V i) () w' rfl same ⟨hcl2, ?_⟩)
          show (if m < ops.size ∧ (m == i || f m) = true then S2 w' else S1 w')
          rw [e, if_pos hfm]
          exact ht
        · rw [if_neg hfm] at hJ
          have hc1 : Calm P S1 S1 o (V i) (canonF ops 0 A V i) := by
            split at hc
            · exact hc
            · exact hc.1
          refine calm_move hc1 hex hdi hJ (fun w' ht => hK (V i) () w' rfl same ⟨hcl2, ?_⟩)
          show (if m < ops.size ∧ (m == i || f m) = true then S2 w' else S1 w')
          rw [e, if_neg hfm]
          exact ht
  · refine ⟨fun i o _ h => (by cases h), ?_⟩
    rw [if_neg (by rintro ⟨_, h⟩; cases h)]
    exact hS
  · intro f _ a w hall hJ hFr
    obtain ⟨_, hJ⟩ := hJ
    have hfin : (if m < ops.size then S2 w else S1 w) := by
      by_cases hlt : m < ops.size
      · rw [if_pos ⟨hlt, hall m hlt⟩] at hJ
        rw [if_pos hlt]; exact hJ
      · rw [if_neg (fun h => hlt h.1)] at hJ
        rw [if_neg hlt]; exact hJ
    have e : a = canonF ops 0 A V ops.size := by
      have hde : a.defers = (canonF ops 0 A V ops.size).defers := by rw [hFr.defers, canonF_defers]
      have hsz : a.tmps.size = (canonF ops 0 A V ops.size).tmps.size := by rw [hFr.size, canonF_size]
      have htm : a.tmps = (canonF ops 0 A V ops.size).tmps := by
        apply Array.ext hsz
        intro s hs1 hs2
        have hg := canonF_get A V hd hin s ops.size (Nat.le_refl _)
        have : a.tmps.getD s undef = (canonF ops 0 A V ops.size).tmps.getD s undef := by
          by_cases hw : ∃ j, j < ops.size ∧ dstAt ops j = some s
          · obtain ⟨j, hj, hjs⟩ := hw
            rw [hFr.new j s hjs (hall j hj), hg.2 j hj hjs]
          · have hn : ∀ j, dstAt ops j ≠ some s := fun j hj => hw ⟨j, dst_lt hj, hj⟩
            rw [hFr.old s hn, hg.1 (fun j _ => hn j)]
        simpa [Array.getD, hs1, hs2] using this
      cases a
      cases hc : canonF ops 0 A V ops.size
      rw [hc] at hde htm
      simp only at hde htm
      rw [hde, htm]
    rw [e]
    exact h2 w hfin
/-- the operations from i on are these -/
def CalmL (P : Program) (ops : Array Oper) (m : Nat) (S1 S2 : World → Prop) (Q : Act → World → Prop) (i : Nat) (L : List Oper) (a : Act) : Prop := ops.toList.drop i = L → CalmFrom P ops m S1 S2 Q i a
variable {m : Nat} {S1 S2 : World → Prop} {Q : Act → World → Prop} {i : Nat} {o : Oper} {v : Value} {a : Act} {L : List Oper}
theorem calm_drop (h : ops.toList.drop i = o :: L) : ops[i]? = some o ∧ ops.toList.drop (i + 1) = L := by
  refine ⟨?_, ?_⟩
  · have := congrArg (·[0]?) h
    simpa [List.getElem?_drop] using this
  · rw [← List.drop_drop, h]; rfl
/-- one operation after the other -/
theorem calm_take (hm : i ≠ m) (hs : waits ops m i = true) (hw : Region.wanted o (yielded ops a.tmps) = true) (h : ∀ w, S1 w → (execOp a.eval o).run P w = .ok (.value v) w) (r : CalmL P ops m S1 S2 Q (i + 1) L (a.put o.dst v)) : CalmL P ops m S1 S2 Q i (o :: L) a := fun hL =>
  calm_cons (calm_drop hL).1 (.inr ⟨hw, by
    rw [if_neg hm, if_pos hs]
    intro w hS K hK
    unfold Oper.wp
    rw [h w hS]
    exact hK w hS⟩) (r (calm_drop hL).2)
theorem calm_pure (hm : i ≠ m) (hw : Region.wanted o (yielded ops a.tmps) = true) (h : ∀ w, (execOp a.eval o).run P w = .ok (.value v) w) (r : CalmL P ops m S1 S2 Q (i + 1) L (a.put o.dst v)) : CalmL P ops m S1 S2 Q i (o :: L) a := fun hL => by
  have key : ∀ S : World → Prop, Calm P S S o v a := fun S w hS K hK => by
    unfold Oper.wp
    rw [h w]
    exact hK w hS
  refine calm_cons (calm_drop hL).1 (.inr ⟨hw, ?_⟩) (r (calm_drop hL).2)
  rw [if_neg hm]
  split
  · exact key S1
  · exact ⟨key S1, key S2⟩
theorem calm_skip (hm : i ≠ m) (hw : Region.wanted o (yielded ops a.tmps) = false) (r : CalmL P ops m S1 S2 Q (i + 1) L (a.put o.dst undef)) : CalmL P ops m S1 S2 Q i (o :: L) a := fun hL =>
  calm_cons (calm_drop hL).1 (.inl ⟨hw, rfl, hm⟩) (r (calm_drop hL).2)
theorem calm_call {f : FuncId} {args : Array Value} (v : Value) (hm : i ≠ m) (hs : waits ops m i = true) (hw : Region.wanted o (yielded ops a.tmps) = true) (h : ∀ w, (execOp a.eval o).run P w = .ok (.enter f args) w) (hc : ∀ w, S1 w → Calls P f args w fun e w' => e = .returned v ∧ S1 w') (r : CalmL P ops m S1 S2 Q (i + 1) L (a.put o.dst v)) : CalmL P ops m S1 S2 Q i (o :: L) a := fun hL =>
  calm_cons (calm_drop hL).1 (.inr ⟨hw, by
    rw [if_neg hm, if_pos hs]
    intro w hS K hK
    unfold Oper.wp
    rw [h w]
    show Calls P f args w _
    refine Calls.mono (hc w hS) (fun e w' he => ?_)
    obtain ⟨rfl, h1⟩ := he
    exact hK w' h1⟩) (r (calm_drop hL).2)
theorem calm_store (v : Value) (hi : i = m) (hw : Region.wanted o (yielded ops a.tmps) = true) (h : Calm P S1 S2 o v a) (r : CalmL P ops m S1 S2 Q (i + 1) L (a.put o.dst v)) : CalmL P ops m S1 S2 Q i (o :: L) a := fun hL =>
  calm_cons (calm_drop hL).1 (.inr ⟨hw, by rw [if_pos hi]; exact h⟩) (r (calm_drop hL).2)
theorem calm_end (h : ∀ w, (if m < ops.size then S2 w else S1 w) → Q a w) : CalmL P ops m S1 S2 Q i [] a := fun hL => by
  have hge : ops.size ≤ i := by
    have := congrArg List.length hL
    simp at this
    omega
  exact ⟨fun _ => undef, fun n o ho => (by have := (Array.getElem?_eq_some_iff.1 ho).1; omega), fun w hw => by rw [show ops.size - i = 0 from by omega]; exact h w hw⟩
theorem calm_region {L : List Oper} {Q : Exit → Act → World → Prop} {id : Nat} {A : Act} {w1 : World} (m : Nat) (S1 S2 : World → Prop) (hm : P.follows .mixedOrders = true) (hac : acyc .any L.toArray = true) (hd : dstOK L.toArray = true) (hdp : depOK L.toArray = true) (hsel : Region.noSelect L.toArray = true) (hin : insOK L.toArray A.tmps.size = true) (hS : S1 w1.drew)
    (h : CalmL P L.toArray m S1 S2 (fun a w => Q .normal a w) 0 L A) : (Code.region id L.toArray true).wp P Q A w1 := calm_go m S1 S2 hm hac hd hdp hsel hin hS (h (by simp))
end
end Go.Proofs.YtneagomkohoceaaDoor
