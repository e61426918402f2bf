/- A drawn region by slots, where a slot that is read is written later on: what was not written yet is as it was. -/
import Derived.Test.YtneagomkohoceaaDoorC25
import Derived.Test.YtneagomkohoceaaDoorWaqc
namespace Go.Proofs.YtneagomkohoceaaDoor
open Go.ChangeShapes Go.WideShapes Go.ChangeAt Go.RowKit
set_option linter.unusedVariables false
set_option linter.unusedSimpArgs false

def Kept (ops : Array Oper) (A : Act) (f : Nat → Bool) (a : Act) : Prop := ∀ i s, dstAt ops i = some s → f i = false → a.tmps.getD s undef = A.tmps.getD s undef
theorem Kept.put {ops : Array Oper} {A : Act} {f : Nat → Bool} {a : Act} (h : Kept ops A f a) (hsz : a.tmps.size = A.tmps.size) (hin : ∀ i s, dstAt ops i = some s → s < A.tmps.size) {i : Nat} {o : Oper} (ho : ops[i]? = some o) (v : Value) (hd : dstOK ops = true) : Kept ops A (fun j => j == i || f j) (a.put o.dst v) := by
  have hdi : dstAt ops i = o.dst := by unfold dstAt; rw [ho]; rfl
  intro j s hj hfj
  have hfj : (j == i || f j) = false := hfj
  rw [Bool.or_eq_false_iff] at hfj
  obtain ⟨h1, h2⟩ := hfj
  cases hds : o.dst with
  | none => exact h j s hj h2
  | some k =>
    have hk : k < a.tmps.size := by rw [hsz]; exact hin i k (by rw [hdi, hds])
    rw [put_get a k s v hk]
    by_cases e : k = s
    · subst e
      have : i = j := dst_apart hd (by rw [hdi, hds]) hj
      subst this
      simp at h1
    · rw [if_neg e]
      exact h j s hj h2
theorem wp_region_slotsK {P : Program} {ops : Array Oper} {Q : Exit → Act → World → Prop} {id : Nat} {A : Act} {w1 : World} {E : Type} (V : Nat → E → Value) (J : (Nat → Bool) → E → World → Prop) (hm : P.follows .mixedOrders = true) (hac : acyc .any ops = true) (hd : dstOK ops = true) (hin : ∀ i s, dstAt ops i = some s → s < A.tmps.size)
    (step : ∀ (f : Nat → Bool) (e : E) (a : Act) (w : World) (i : Nat) (o : Oper), i < ops.size → ops[i]? = some o → f i = false → (∀ d ∈ o.after, Region.binds .any d = true → f d.on = true) → J f e w → Fr ops A f (fun j => V j e) a → Kept ops A f a →
      ∀ K : Act → World → Prop, (∀ v e' w', v = V i e' → (∀ j, f j = true → V j e' = V j e) → J (fun j => j == i || f j) e' w' → K (a.put o.dst v) w') → if Region.wanted o (yielded ops a.tmps) = true then Oper.wp P o a w K Q else K (a.put o.dst undef) w)
    (e0 : E) (start : J (fun _ => false) e0 w1.drew)
    (done : ∀ (f : Nat → Bool) (e : E) (a : Act) (w : World), (∀ i, i < ops.size → f i = true) → J f e w → Fr ops A f (fun j => V j e) a → Q .normal a w) :
    (Code.region id ops true).wp P Q A w1 := by
  refine wp_region_inv hm (fun listed a w => ∃ f e, listed = arrOf ops.size f ∧ Fr ops A f (fun j => V j e) a ∧ Kept ops A f a ∧ J f e w) ?_ hac ?_ ?_ ?_
  · rintro listed a w i o ⟨f, e, rfl, hF, hP, hJ⟩ hun ho hdep K hK
    have hi : i < ops.size := (Array.getElem?_eq_some_iff.1 ho).1
    rw [arrOf_get, if_pos hi] at hun
    refine step f e a w i o hi ho hun (fun d hd1 hd2 => ?_) hJ hF hP K (fun v e' w' hv hV hJ' => hK _ _ ⟨_, e', arrOf_set _ _ _, hF.put hd hin ho hun (V' := fun j => V j e') hv hV, hP.put hF.size hin ho v hd, hJ'⟩)
    have := hdep d hd1 hd2
    rw [arrOf_get] at this
    split at this
    · exact this
    · cases this
  · rintro listed a w ⟨f, e, rfl, _⟩
    simp [arrOf]
  · rintro listed a w ⟨f, e, rfl, hF, hP, hJ⟩ hall
    refine done f e a w (fun i hi => ?_) hJ hF
    have := hall i hi
    rw [arrOf_get, if_pos hi] at this
    exact this
  · exact ⟨fun _ => false, e0, arrOf_false _, ⟨rfl, rfl, fun _ _ => rfl, fun i s _ h => by cases h⟩, fun _ _ _ _ => rfl, start⟩
end Go.Proofs.YtneagomkohoceaaDoor

/- A drawn region walked in one order, where a slot that is read is written later on. -/
namespace Go.Proofs.YtneagomkohoceaaDoor
open Go.ChangeShapes Go.WideShapes Go.ChangeAt Go.RowKit
set_option linter.unusedVariables false
set_option linter.unusedSimpArgs false

section
variable {P : Program} {ops : Array Oper}
/-- each operation waits for those whose slots it looks at, or these wait for it -/
def depK (ops : Array Oper) : Bool := (List.range ops.size).all fun i => match ops[i]? with
  | none => true
  | some o => (o.looksAt ops).all fun s => (List.range ops.size).all fun j => dstAt ops j != some s || ((o.after.any fun e => e.on == j && Region.binds .any e) || (match ops[j]? with
    | none => false
    | some oj => oj.after.any fun e => e.on == i && Region.binds .any e))
theorem calm_goK {Q : Exit → Act → World → Prop} {id : Nat} {A : Act} {w1 : World} (m : Nat) (S1 S2 : World → Prop) (hm : P.follows .mixedOrders = true) (hac : acyc .any ops = true) (hd : dstOK ops = true) (hdp : depK ops = true) (hsel : Region.noSelect ops = true) (hin : insOK ops A.tmps.size = true) (hS : S1 w1.drew)
    (h : CalmFrom P ops m S1 S2 (fun a w => Q .normal a w) 0 A) : (Code.region id ops true).wp P Q A w1 := by
  obtain ⟨V, h1, h2⟩ := h
  simp only [Nat.zero_add, Nat.sub_zero] at h1 h2
  have inA : ∀ i s, dstAt ops i = some s → s < A.tmps.size := fun i s hi => by
    have hlt : i < ops.size := by
      rcases Nat.lt_or_ge i ops.size with h1 | h1
      · exact h1
      · unfold dstAt at hi
        rw [Array.getElem?_eq_none (by exact h1)] at hi
        cases hi
    have := List.all_eq_true.1 hin i (List.mem_range.2 hlt)
    rw [hi] at this
    simpa using this
  refine wp_region_slotsK (E := Unit) (fun i _ => V i) (fun f _ w => (∀ i o, ops[i]? = some o → f i = true → ∀ d ∈ o.after, Region.binds .any d = true → f d.on = true) ∧ (if m < ops.size ∧ f m = true then S2 w else S1 w)) hm hac hd inA ?_ () ?_ ?_
  · intro f _ a w i o hi ho hun hdep hJ hFr hKp K hK
    obtain ⟨hcl, hJ⟩ := hJ
    have hstep := h1 i o ho
    have hcl2 : ∀ k o', ops[k]? = some o' → (k == i || f k) = true → ∀ d ∈ o'.after, Region.binds .any d = true → (d.on == i || f d.on) = true := fun k o' hk hf d hdm hb => by
      by_cases e : k = i
      · subst e
        rw [ho] at hk
        obtain rfl := Option.some.inj hk
        rw [hdep d hdm hb, Bool.or_true]
      · have : f k = true := by
          rw [Bool.or_eq_true, beq_iff_eq] at hf
          exact hf.resolve_left e
        rw [hcl k o' hk this d hdm hb, Bool.or_true]
    have hal : SeesAlike ops o a (canonF ops 0 A V i) := by
      refine ⟨by rw [hFr.size, canonF_size], fun s hs => ?_⟩
      have hg := canonF_get A V hd hin s i (Nat.le_of_lt hi)
      by_cases hw : ∃ j, j < ops.size ∧ dstAt ops j = some s
      · obtain ⟨j, hj, hjs⟩ := hw
        have k1 := List.all_eq_true.1 hdp i (List.mem_range.2 hi)
        rw [ho] at k1
        have k2 := List.all_eq_true.1 (List.all_eq_true.1 k1 s hs) j (List.mem_range.2 hj)
        rw [hjs] at k2
        simp only [bne_self_eq_false, Bool.false_or, Bool.or_eq_true, Array.any_eq_true'] at k2
        rcases k2 with k2 | k2
        · obtain ⟨d, hd1, hd2⟩ := k2
          simp only [Bool.and_eq_true, beq_iff_eq] at hd2
          have hfj := hdep d hd1 hd2.2
          rw [hd2.1] at hfj
          have hlt : j < i := by
            have q1 := List.all_eq_true.1 hac i (List.mem_range.2 hi)
            rw [ho] at q1
            have q2 := Array.all_eq_true'.1 q1 d hd1
            rw [hd2.2, hd2.1] at q2
            simpa using q2
          rw [hFr.new j s hjs hfj, hg.2 j hlt hjs]
        · cases hoj : ops[j]? with
          | none => rw [hoj] at k2; cases k2
          | some oj =>
            rw [hoj] at k2
            simp only [Array.any_eq_true'] at k2
            obtain ⟨d, hd1, hd2⟩ := k2
            simp only [Bool.and_eq_true, beq_iff_eq] at hd2
            have hfj : f j = false := by
              cases hq : f j
              · rfl
              · have := hcl j oj hoj hq d hd1 hd2.2
                rw [hd2.1, hun] at this
                cases this
            have hlt : i < j := by
              have q1 := List.all_eq_true.1 hac j (List.mem_range.2 hj)
              rw [hoj] at q1
              have q2 := Array.all_eq_true'.1 q1 d hd1
              rw [hd2.2, hd2.1] at q2
              simpa using q2
            have hno : ∀ j', j' < i → dstAt ops j' ≠ some s := fun j' hj' e => by
              have := dst_apart hd hjs e
              omega
            rw [hKp j s hjs hfj, hg.1 hno]
      · have hn : ∀ j, dstAt ops j ≠ some s := fun j hj => hw ⟨j, dst_lt hj, hj⟩
        rw [hFr.old s hn, hg.1 (fun j _ => hn j)]
    have hso : ∀ cs x, o.op ≠ .select cs x := fun cs x => Region.noSelect_spec hsel i o cs x ho
    rw [sees_wanted hal]
    have hex := sees_exec hal hso
    have hdi : ∀ k, o.dst = some k → k < (canonF ops 0 A V i).tmps.size := fun k hk => by
      rw [canonF_size]
      exact inA i k (by unfold dstAt; rw [ho]; exact hk)
    have same : ∀ j, f j = true → V j = V j := fun _ _ => rfl
    rcases hstep with ⟨hw, hv, hne⟩ | ⟨hw, hc⟩
    · rw [hw, if_neg (by decide)]
      refine hK undef () w hv.symm same ⟨hcl2, ?_⟩
      have e : (m == i || f m) = f m := by
        have : (m == i) = false := by simpa using fun e => hne e.symm
        rw [this, Bool.false_or]
      show (if m < ops.size ∧ (m == i || f m) = true then S2 w else S1 w)
      rw [e]
      exact hJ
    · rw [hw, if_pos rfl]
      by_cases him : i = m
      · rw [if_pos him] at hc
        have hS1 : S1 w := by
          rw [if_neg (by rintro ⟨_, hf⟩; rw [him] at hun; rw [hun] at hf; cases hf)] at hJ
          exact hJ
        refine calm_move hc hex hdi hS1 (fun w' ht => hK (V i) () w' rfl same ⟨hcl2, ?_⟩)
        show (if m < ops.size ∧ (m == i || f m) = true then S2 w' else S1 w')
        rw [if_pos ⟨by rw [← him]; exact hi, by rw [him]; simp⟩]
        exact ht
      · rw [if_neg him] at hc
        have e : (m == i || f m) = f m := by
          have : (m == i) = false := by simpa using fun e => him e.symm
          rw [this, Bool.false_or]
        by_cases hfm : m < ops.size ∧ f m = true
        · rw [if_pos hfm] at hJ
          have hnw : ¬ waits ops m i = true := fun hwt => by
            unfold waits at hwt
            rw [decide_eq_false (by omega), Bool.false_or] at hwt
            have := calmReach_done hcl 8 m i hwt hfm.2
            rw [hun] at this
            cases this
          rw [if_neg hnw] at hc
          refine calm_move hc.2 hex hdi hJ (fun w' ht => hK (V i) () w' rfl same ⟨hcl2, ?_⟩)
          show (if m < ops.size ∧ (m == i || f m) = true then S2 w' else S1 w')
          rw [e, if_pos hfm]
          exact ht
        · rw [if_neg hfm] at hJ
          have hc1 : Calm P S1 S1 o (V i) (canonF ops 0 A V i) := by
            split at hc
            · exact hc
            · exact hc.1
          refine calm_move hc1 hex hdi hJ (fun w' ht => hK (V i) () w' rfl same ⟨hcl2, ?_⟩)
          show (if m < ops.size ∧ (m == i || f m) = true then S2 w' else S1 w')
          rw [e, if_neg hfm]
          exact ht
  · refine ⟨fun i o _ h => (by cases h), ?_⟩
    rw [if_neg (by rintro ⟨_, h⟩; cases h)]
    exact hS
  · intro f _ a w hall hJ hFr
    obtain ⟨_, hJ⟩ := hJ
    have hfin : (if m < ops.size then S2 w else S1 w) := by
      by_cases hlt : m < ops.size
      · rw [if_pos ⟨hlt, hall m hlt⟩] at hJ
        rw [if_pos hlt]; exact hJ
      · rw [if_neg (fun h => hlt h.1)] at hJ
        rw [if_neg hlt]; exact hJ
    have e : a = canonF ops 0 A V ops.size := by
      have hde : a.defers = (canonF ops 0 A V ops.size).defers := by rw [hFr.defers, canonF_defers]
      have hsz : a.tmps.size = (canonF ops 0 A V ops.size).tmps.size := by rw [hFr.size, canonF_size]
      have htm : a.tmps = (canonF ops 0 A V ops.size).tmps := by
        apply Array.ext hsz
        intro s hs1 hs2
        have hg := canonF_get A V hd hin s ops.size (Nat.le_refl _)
        have : a.tmps.getD s undef = (canonF ops 0 A V ops.size).tmps.getD s undef := by
          by_cases hw : ∃ j, j < ops.size ∧ dstAt ops j = some s
          · obtain ⟨j, hj, hjs⟩ := hw
            rw [hFr.new j s hjs (hall j hj), hg.2 j hj hjs]
          · have hn : ∀ j, dstAt ops j ≠ some s := fun j hj => hw ⟨j, dst_lt hj, hj⟩
            rw [hFr.old s hn, hg.1 (fun j _ => hn j)]
        simpa [Array.getD, hs1, hs2] using this
      cases a
      cases hc : canonF ops 0 A V ops.size
      rw [hc] at hde htm
      simp only at hde htm
      rw [hde, htm]
    rw [e]
    exact h2 w hfin
theorem calm_regionK {L : List Oper} {Q : Exit → Act → World → Prop} {id : Nat} {A : Act} {w1 : World} (m : Nat) (S1 S2 : World → Prop) (hm : P.follows .mixedOrders = true) (hac : acyc .any L.toArray = true) (hd : dstOK L.toArray = true) (hdp : depK L.toArray = true) (hsel : Region.noSelect L.toArray = true) (hin : insOK L.toArray A.tmps.size = true) (hS : S1 w1.drew)
    (h : CalmL P L.toArray m S1 S2 (fun a w => Q .normal a w) 0 L A) : (Code.region id L.toArray true).wp P Q A w1 := calm_goK m S1 S2 hm hac hd hdp hsel hin hS (h (by simp))
end
end Go.Proofs.YtneagomkohoceaaDoor
