/- A drawn region walked in one order up to its last two operations: a call that may answer anything, a store of what it answers. -/
import Derived.Test.YtneagomkohoceaaDoorWaqc
namespace Go.Proofs.YtneagomkohoceaaDoor
open Go.ChangeShapes Go.WideShapes Go.ChangeAt Go.RowKit
set_option linter.unusedVariables false
set_option linter.unusedSimpArgs false

section
variable {P : Program} {ops : Array Oper}
/-- an operation, in a world that meets S, answers some v and leaves a world that meets T v -/
def Free (P : Program) (S : World → Prop) (T : Value → World → Prop) (o : Oper) (a : Act) : Prop :=
  ∀ w, S w → ∀ K : Act → World → Prop, (∀ v w', T v w' → K (a.put o.dst v) w') → Oper.wp P o a w K (fun _ _ _ => False)
theorem free_move {S : World → Prop} {T : Value → World → Prop} {o : Oper} {a b : Act} (h : Free P S T o a) (he : execOp b.eval o = execOp a.eval o) (hd : ∀ k, o.dst = some k → k < a.tmps.size) {w : World} (hS : S w) {K : Act → World → Prop} {Q : Exit → Act → World → Prop} (hK : ∀ v w', T v w' → K (b.put o.dst v) w') : Oper.wp P o b w K Q := by
  have h1 := h w hS (fun a' w' => ∃ v, T v w' ∧ a' = a.put o.dst v) (fun v w' ht => ⟨v, ht, rfl⟩)
  unfold Oper.wp at h1 ⊢
  rw [he]
  generalize (execOp a.eval o).run P w = r at *
  have key : ∀ u w', (∃ v, T v w' ∧ a.put o.dst u = a.put o.dst v) → K (b.put o.dst u) w' := fun u w' ⟨v, ht, e⟩ => by
    rw [put_inj hd e]
    exact hK v w' ht
  cases r with
  | ok n w' =>
    cases n <;> simp only [Oper.upon] at h1 ⊢
    case value u => exact key u w' h1
    case skip => exact key undef w' h1
    case defer d =>
      obtain ⟨v, _, e⟩ := h1
      have e := congrArg Act.defers e
      have e1 : ∀ (x : Act) (q : Option Tmp) (z : Value), (x.put q z).defers = x.defers := fun x q z => by cases q <;> rfl
      rw [e1, e1] at e
      have := congrArg List.length e
      simp at this
    case enter f args =>
      refine Calls.mono h1 (fun e w'' hh => ?_)
      cases e with
      | returned u => exact key u w'' hh
      | panicked c => exact False.elim hh
      | outgrown => obtain ⟨_, _, hh⟩ := hh; exact False.elim hh
    case row row args => exact Rows.mono h1 (fun u w'' hh => key u w'' hh)
  | halt x w' => cases x <;> simp only [Oper.upon] at h1 ⊢
theorem canonF_ext2 (i : Nat) (a : Act) (V V' : Nat → Value) : ∀ n, (∀ k, k < n → V (i + k) = V' (i + k)) → canonF ops i a V n = canonF ops i a V' n := by
  intro n
  induction n with
  | zero => intro _; rfl
  | succ n ih =>
    intro h
    show (match ops[i + n]? with | some o => (canonF ops i a V n).put o.dst (V (i + n)) | none => canonF ops i a V n) = (match ops[i + n]? with | some o => (canonF ops i a V' n).put o.dst (V' (i + n)) | none => canonF ops i a V' n)
    rw [ih (fun k hk => h k (by omega)), h n (by omega)]
structure TailEnd (P : Program) (ops : Array Oper) (S : World → Prop) (Q : Act → World → Prop) (j : Nat) (oc os : Oper) (T U : Value → World → Prop) (a : Act) : Prop where
  c : ops[j]? = some oc
  s : ops[j + 1]? = some os
  n : j + 2 = ops.size
  d : os.dst = none
  wc : Region.wanted oc (yielded ops a.tmps) = true
  fc : Free P S T oc a
  ws : ∀ v, Region.wanted os (yielded ops (a.put oc.dst v).tmps) = true
  fs : ∀ v, Free P (T v) (fun _ w' => U v w') os (a.put oc.dst v)
  rc : ∀ i, i < j → calmReach ops 8 j i = true
  rs : calmReach ops 8 (j + 1) j = true
  q : ∀ v w, U v w → Q (a.put oc.dst v) w
def TailFrom (P : Program) (ops : Array Oper) (S : World → Prop) (Q : Act → World → Prop) (i : Nat) (a : Act) : Prop :=
  ∃ (n : Nat) (V : Nat → Value) (oc os : Oper) (T U : Value → World → Prop), (∀ k o, k < n → ops[i + k]? = some o → StepC P ops ops.size S (fun _ => True) (i + k) o (V (i + k)) (canonF ops i a V k)) ∧ TailEnd P ops S Q (i + n) oc os T U (canonF ops i a V n)
theorem tail_cons {S : World → Prop} {Q : Act → World → Prop} {i : Nat} {o : Oper} {v : Value} {a : Act} (ho : ops[i]? = some o) (h : StepC P ops ops.size S (fun _ => True) i o v a) (r : TailFrom P ops S Q (i + 1) (a.put o.dst v)) : TailFrom P ops S Q i a := by
  obtain ⟨n, V, oc, os, T, U, h1, h2⟩ := r
  let V' : Nat → Value := fun k => if k = i then v else V k
  have hVi : V' i = v := if_pos rfl
  have hV : ∀ k, i + 1 ≤ k → V k = V' k := fun k hk => (if_neg (by omega)).symm
  refine ⟨n + 1, V', oc, os, T, U, fun k o' hk ho' => ?_, ?_⟩
  · cases k with
    | zero =>
      rw [Nat.add_zero] at ho'
      rw [ho] at ho'
      obtain rfl := Option.some.inj ho'
      show StepC P ops ops.size S (fun _ => True) (i + 0) o (V' (i + 0)) a
      rw [Nat.add_zero, hVi]
      exact h
    | succ k =>
      have e : i + (k + 1) = i + 1 + k := by omega
      rw [canonF_succ i a V' ho, hVi, e, ← canonF_ext (i + 1) _ V V' hV, ← hV (i + 1 + k) (by omega)]
      exact h1 k o' (by omega) (by rw [← e]; exact ho')
  · have e : i + (n + 1) = i + 1 + n := by omega
    rw [canonF_succ i a V' ho, hVi, e, ← canonF_ext (i + 1) _ V V' hV]
    exact h2
def TailL (P : Program) (ops : Array Oper) (S : World → Prop) (Q : Act → World → Prop) (i : Nat) (L : List Oper) (a : Act) : Prop := ops.toList.drop i = L → TailFrom P ops S Q i a
variable {S : World → Prop} {Q : Act → World → Prop} {i : Nat} {o : Oper} {v : Value} {a : Act} {L : List Oper}
theorem tail_lt (h : ops.toList.drop i = o :: L) : i < ops.size := (Array.getElem?_eq_some_iff.1 (calm_drop h).1).1
theorem tail_step (hL : ops.toList.drop i = o :: L) (hw : Region.wanted o (yielded ops a.tmps) = true) (h : Calm P S S o v a) (r : TailFrom P ops S Q (i + 1) (a.put o.dst v)) : TailFrom P ops S Q i a :=
  tail_cons (calm_drop hL).1 (.inr ⟨hw, by
    rw [if_neg (Nat.ne_of_lt (tail_lt hL)), if_pos (by unfold waits; simp)]
    exact h⟩) r
theorem tail_take (hw : Region.wanted o (yielded ops a.tmps) = true) (h : ∀ w, S w → (execOp a.eval o).run P w = .ok (.value v) w) (r : TailL P ops S Q (i + 1) L (a.put o.dst v)) : TailL P ops S Q i (o :: L) a := fun hL =>
  tail_step hL hw (fun w hS K hK => by
    unfold Oper.wp
    rw [h w hS]
    exact hK w hS) (r (calm_drop hL).2)
theorem tail_skip (hw : Region.wanted o (yielded ops a.tmps) = false) (r : TailL P ops S Q (i + 1) L (a.put o.dst undef)) : TailL P ops S Q i (o :: L) a := fun hL =>
  tail_cons (calm_drop hL).1 (.inl ⟨hw, rfl, Nat.ne_of_lt (tail_lt hL)⟩) (r (calm_drop hL).2)
theorem tail_call {f : FuncId} {args : Array Value} (v : Value) (hw : Region.wanted o (yielded ops a.tmps) = true) (h : ∀ w, (execOp a.eval o).run P w = .ok (.enter f args) w) (hc : ∀ w, S w → Calls P f args w fun e w' => e = .returned v ∧ S w') (r : TailL P ops S Q (i + 1) L (a.put o.dst v)) : TailL P ops S Q i (o :: L) a := fun hL =>
  tail_step hL hw (fun w hS K hK => by
    unfold Oper.wp
    rw [h w]
    show Calls P f args w _
    refine Calls.mono (hc w hS) (fun e w' he => ?_)
    obtain ⟨rfl, h1⟩ := he
    exact hK w' h1) (r (calm_drop hL).2)
theorem tail_end {oc os : Oper} {f : FuncId} {args : Array Value} (T U : Value → World → Prop) (hd : os.dst = none) (hwc : Region.wanted oc (yielded ops a.tmps) = true) (hc : ∀ w, (execOp a.eval oc).run P w = .ok (.enter f args) w) (hcall : ∀ w, S w → Calls P f args w fun e w' => ∃ v, e = .returned v ∧ T v w')
    (hws : ∀ v, Region.wanted os (yielded ops (a.put oc.dst v).tmps) = true) (hs : ∀ v w, T v w → ∀ K : Act → World → Prop, (∀ w', U v w' → K (a.put oc.dst v) w') → Oper.wp P os (a.put oc.dst v) w K (fun _ _ _ => False))
    (hrc : ((List.range i).all fun k => calmReach ops 8 i k) = true) (hrs : calmReach ops 8 (i + 1) i = true) (hq : ∀ v w, U v w → Q (a.put oc.dst v) w) : TailL P ops S Q i [oc, os] a := fun hL => by
  have h1 := calm_drop hL
  have h2 := calm_drop h1.2
  refine ⟨0, fun _ => undef, oc, os, T, U, fun k o hk => by omega, ⟨h1.1, h2.1, ?_, hd, hwc, fun w hS K hK => ?_, hws, fun v w hT K hK => ?_, fun k hk => List.all_eq_true.1 hrc k (List.mem_range.2 hk), hrs, hq⟩⟩
  · have := congrArg List.length hL
    simp at this
    omega
  · show Oper.wp P oc a w K _
    unfold Oper.wp
    rw [hc w]
    show Calls P f args w _
    refine Calls.mono (hcall w hS) (fun e w' he => ?_)
    obtain ⟨v, rfl, h1⟩ := he
    exact hK v w' h1
  · refine hs v w hT K (fun w' hU => ?_)
    have := hK undef w' hU
    rw [hd] at this
    exact this
theorem tail_go {Q : Exit → Act → World → Prop} {id : Nat} {A : Act} {w1 : World} (S : World → Prop) (hm : P.follows .mixedOrders = true) (hac : acyc .any ops = true) (hd : dstOK ops = true) (hdp : depOK ops = true) (hsel : Region.noSelect ops = true) (hin : insOK ops A.tmps.size = true) (hS : S w1.drew)
    (h : TailFrom P ops S (fun a w => Q .normal a w) 0 A) : (Code.region id ops true).wp P Q A w1 := by
  obtain ⟨n, V, oc, os, T, U, h1, hE⟩ := h
  simp only [Nat.zero_add] at h1 hE
  have inA : ∀ i s, dstAt ops i = some s → s < A.tmps.size := fun i s hi => by
    have := List.all_eq_true.1 hin i (List.mem_range.2 (dst_lt hi))
    rw [hi] at this
    simpa using this
  have hsz := hE.n
  refine wp_region_slots (E := Value) (fun i e => if i = n then e else V i) (fun f e w => (∀ i o, ops[i]? = some o → f i = true → ∀ d ∈ o.after, Region.binds .any d = true → f d.on = true) ∧ (if f (n + 1) = true then U e w else if f n = true then T e w else S w)) hm hac hd inA ?_ undef ?_ ?_
  · intro f e a w i o hi ho hun hdep hJ hFr K hK
    obtain ⟨hcl, hJ⟩ := hJ
    have hcl2 : ∀ k o', ops[k]? = some o' → (k == i || f k) = true → ∀ d ∈ o'.after, Region.binds .any d = true → (d.on == i || f d.on) = true := fun k o' hk hf d hdm hb => by
      by_cases e : k = i
      · subst e
        rw [ho] at hk
        obtain rfl := Option.some.inj hk
        rw [hdep d hdm hb, Bool.or_true]
      · have : f k = true := by
          rw [Bool.or_eq_true, beq_iff_eq] at hf
          exact hf.resolve_left e
        rw [hcl k o' hk this d hdm hb, Bool.or_true]
    have hal : SeesAlike ops o a (canonF ops 0 A (fun j => if j = n then e else V j) i) := by
      refine ⟨by rw [hFr.size, canonF_size], fun s hs => ?_⟩
      have hg := canonF_get A (fun j => if j = n then e else V j) hd hin s i (Nat.le_of_lt hi)
      by_cases hw : ∃ j, j < ops.size ∧ dstAt ops j = some s
      · obtain ⟨j, hj, hjs⟩ := hw
        have k1 := List.all_eq_true.1 hdp i (List.mem_range.2 hi)
        rw [ho] at k1
        have k2 := List.all_eq_true.1 (List.all_eq_true.1 k1 s hs) j (List.mem_range.2 hj)
        rw [hjs] at k2
        simp only [bne_self_eq_false, Bool.false_or, Array.any_eq_true'] at k2
        obtain ⟨d, hd1, hd2⟩ := k2
        simp only [Bool.and_eq_true, beq_iff_eq] at hd2
        have hfj := hdep d hd1 hd2.2
        rw [hd2.1] at hfj
        have hlt : j < i := by
          have q1 := List.all_eq_true.1 hac i (List.mem_range.2 hi)
          rw [ho] at q1
          have q2 := Array.all_eq_true'.1 q1 d hd1
          rw [hd2.2, hd2.1] at q2
          simpa using q2
        rw [hFr.new j s hjs hfj, hg.2 j hlt hjs]
      · have hn : ∀ j, dstAt ops j ≠ some s := fun j hj => hw ⟨j, dst_lt hj, hj⟩
        rw [hFr.old s hn, hg.1 (fun j _ => hn j)]
    have hso : ∀ cs x, o.op ≠ .select cs x := fun cs x => Region.noSelect_spec hsel i o cs x ho
    rw [sees_wanted hal]
    have hex := sees_exec hal hso
    have hdi : ∀ k, o.dst = some k → k < (canonF ops 0 A (fun j => if j = n then e else V j) i).tmps.size := fun k hk => by
      rw [canonF_size]
      exact inA i k (by unfold dstAt; rw [ho]; exact hk)
    have same : ∀ j, f j = true → (if j = n then e else V j) = (if j = n then e else V j) := fun _ _ => rfl
    have fn1 : i ≠ n + 1 → f (n + 1) = false := fun hne => by
      cases hf : f (n + 1)
      · rfl
      · have hn := calmReach_done hcl 8 (n + 1) n hE.rs hf
        by_cases hin' : i = n
        · rw [← hin', hun] at hn
          cases hn
        · have := calmReach_done hcl 8 n i (hE.rc i (by omega)) hn
          rw [hun] at this
          cases this
    by_cases h3 : i = n + 1
    · have hfn : f n = true := by
        have := calmReach_done (f := fun k => k == i || f k) hcl2 8 (n + 1) n hE.rs (by simp [h3])
        simp only [Bool.or_eq_true, beq_iff_eq] at this
        rcases this with h | h
        · omega
        · exact h
      have hun1 := hun
      rw [h3] at hun1
      rw [if_neg (by rw [hun1]; decide), if_pos hfn] at hJ
      have hos : o = os := by
        have := hE.s
        rw [← h3, ho] at this
        exact Option.some.inj this
      have hcan : canonF ops 0 A (fun j => if j = n then e else V j) i = (canonF ops 0 A V n).put oc.dst e := by
        rw [h3]
        show (match ops[0 + n]? with | some o => (canonF ops 0 A (fun j => if j = n then e else V j) n).put o.dst ((fun j => if j = n then e else V j) (0 + n)) | none => _) = _
        rw [Nat.zero_add, hE.c]
        simp only [if_true]
        rw [canonF_ext2 0 A (fun j => if j = n then e else V j) V n (fun k hk => by show (if 0 + k = n then e else V (0 + k)) = _; rw [if_neg (by omega)])]
      rw [hcan] at hex hdi ⊢
      subst hos
      rw [if_pos (hE.ws e)]
      refine free_move (hE.fs e) hex hdi hJ (fun v w' hU => ?_)
      have hput : ∀ z, a.put o.dst z = a := fun z => by rw [hE.d]; rfl
      rw [hput]
      have := hK (if i = n then e else V i) e w' rfl same ⟨hcl2, by rw [if_pos (by simp [h3])]; exact hU⟩
      rw [hput] at this
      exact this
    · have hf1 := fn1 h3
      rw [if_neg (by rw [hf1]; decide)] at hJ
      have hf1' : ¬ ((n + 1 == i || f (n + 1)) = true) := by
        rw [hf1, Bool.or_false]
        simpa using fun e => h3 e.symm
      by_cases h4 : i = n
      · have hun1 := hun
        rw [h4] at hun1
        rw [if_neg (by rw [hun1]; decide)] at hJ
        have hoc : o = oc := by
          have := hE.c
          rw [← h4, ho] at this
          exact Option.some.inj this
        have hcan : canonF ops 0 A (fun j => if j = n then e else V j) i = canonF ops 0 A V n := by
          rw [h4]
          exact canonF_ext2 0 A _ V n (fun k hk => by show (if 0 + k = n then e else V (0 + k)) = _; rw [if_neg (by omega)])
        rw [hcan] at hex hdi ⊢
        subst hoc
        rw [if_pos hE.wc]
        refine free_move hE.fc hex hdi hJ (fun v w' hT => hK v v w' (if_pos h4).symm (fun j hj => ?_) ⟨hcl2, ?_⟩)
        · have : j ≠ n := fun ej => by rw [ej, hun1] at hj; cases hj
          rw [if_neg this, if_neg this]
        · show (if (n + 1 == i || f (n + 1)) = true then U v w' else if (n == i || f n) = true then T v w' else S w')
          rw [if_neg hf1', if_pos (by simp [h4])]
          exact hT
      · have hlt : i < n := by omega
        have hfn : f n = false := by
          cases hf : f n
          · rfl
          · have := calmReach_done hcl 8 n i (hE.rc i hlt) hf
            rw [hun] at this
            cases this
        rw [if_neg (by rw [hfn]; decide)] at hJ
        have hfn' : ¬ ((n == i || f n) = true) := by
          rw [hfn, Bool.or_false]
          simpa using fun e => h4 e.symm
        have hcan : canonF ops 0 A (fun j => if j = n then e else V j) i = canonF ops 0 A V i := canonF_ext2 0 A _ V i (fun k hk => by show (if 0 + k = n then e else V (0 + k)) = _; rw [if_neg (by omega)])
        rw [hcan] at hex hdi ⊢
        have hJ2 : ∀ w', S w' → (∀ i_1 o, ops[i_1]? = some o → (fun j => j == i || f j) i_1 = true → ∀ d ∈ o.after, Region.binds .any d = true → (fun j => j == i || f j) d.on = true) ∧ (if (n + 1 == i || f (n + 1)) = true then U e w' else if (n == i || f n) = true then T e w' else S w') := fun w' hS' => ⟨hcl2, by rw [if_neg hf1', if_neg hfn']; exact hS'⟩
        rcases h1 i o hlt ho with ⟨hw, hv, hne⟩ | ⟨hw, hc⟩
        · rw [hw, if_neg (by decide)]
          exact hK undef e w (by rw [if_neg h4]; exact hv.symm) same (hJ2 w hJ)
        · rw [hw, if_pos rfl]
          rw [if_neg (by omega), if_pos (by unfold waits; simp)] at hc
          exact calm_move hc hex hdi hJ (fun w' ht => hK (V i) e w' (if_neg h4).symm same (hJ2 w' ht))
  · exact ⟨fun i o _ h => (by cases h), hS⟩
  · intro f e a w hall hJ hFr
    obtain ⟨hcl, hJ⟩ := hJ
    rw [if_pos (hall (n + 1) (by omega))] at hJ
    have := hE.q e w hJ
    have hcan : (canonF ops 0 A V n).put oc.dst e = canonF ops 0 A (fun j => if j = n then e else V j) ops.size := by
      have e2 : canonF ops 0 A (fun j => if j = n then e else V j) ops.size = canonF ops 0 A (fun j => if j = n then e else V j) (n + 1) := by
        rw [← hsz]
        show (match ops[0 + (n + 1)]? with | some o => (canonF ops 0 A (fun j => if j = n then e else V j) (n + 1)).put o.dst ((fun j => if j = n then e else V j) (0 + (n + 1))) | none => _) = _
        rw [Nat.zero_add, hE.s]
        simp only [hE.d]
        rfl
      rw [e2]
      show _ = (match ops[0 + n]? with | some o => (canonF ops 0 A (fun j => if j = n then e else V j) n).put o.dst ((fun j => if j = n then e else V j) (0 + n)) | none => _)
      rw [Nat.zero_add, hE.c]
      simp only [if_true]
      rw [canonF_ext2 0 A (fun j => if j = n then e else V j) V n (fun k hk => by show (if 0 + k = n then e else V (0 + k)) = _; rw [if_neg (by omega)])]
    rw [hcan] at this
    have e3 : a = canonF ops 0 A (fun j => if j = n then e else V j) ops.size := by
      have hde : a.defers = (canonF ops 0 A (fun j => if j = n then e else V j) ops.size).defers := by rw [hFr.defers, canonF_defers]
      have hsz2 : a.tmps.size = (canonF ops 0 A (fun j => if j = n then e else V j) ops.size).tmps.size := by rw [hFr.size, canonF_size]
      have htm : a.tmps = (canonF ops 0 A (fun j => if j = n then e else V j) ops.size).tmps := by
        apply Array.ext hsz2
        intro s hs1 hs2
        have hg := canonF_get A (fun j => if j = n then e else V j) hd hin s ops.size (Nat.le_refl _)
        have : a.tmps.getD s undef = (canonF ops 0 A (fun j => if j = n then e else V j) ops.size).tmps.getD s undef := by
          by_cases hw : ∃ j, j < ops.size ∧ dstAt ops j = some s
          · obtain ⟨j, hj, hjs⟩ := hw
            rw [hFr.new j s hjs (hall j hj), hg.2 j hj hjs]
          · have hn : ∀ j, dstAt ops j ≠ some s := fun j hj => hw ⟨j, dst_lt hj, hj⟩
            rw [hFr.old s hn, hg.1 (fun j _ => hn j)]
        simpa [Array.getD, hs1, hs2] using this
      cases a
      cases hc : canonF ops 0 A (fun j => if j = n then e else V j) ops.size
      rw [hc] at hde htm
      simp only at hde htm
      rw [hde, htm]
    rw [e3]
    exact this
theorem tail_region {L : List Oper} {Q : Exit → Act → World → Prop} {id : Nat} {A : Act} {w1 : World} (S : World → Prop) (hm : P.follows .mixedOrders = true) (hac : acyc .any L.toArray = true) (hd : dstOK L.toArray = true) (hdp : depOK L.toArray = true) (hsel : Region.noSelect L.toArray = true) (hin : insOK L.toArray A.tmps.size = true) (hS : S w1.drew)
    (h : TailL P L.toArray S (fun a w => Q .normal a w) 0 L A) : (Code.region id L.toArray true).wp P Q A w1 := tail_go S hm hac hd hdp hsel hin hS (h (by simp))
end
end Go.Proofs.YtneagomkohoceaaDoor
