/- A drawn region by slots, where a slot that is read is written later on: what was not written yet is as it was. -/
import Derived.Test.YtneagomkohoceabDoorIwl
namespace Go.Proofs.YtneagomkohoceabDoor
open Go.ChangeShapes Go.WideShapes Go.ChangeAt Go.RowKit
set_option linter.unusedVariables false
set_option linter.unusedSimpArgs false

def Kept (ops : Array Oper) (A : Act) (f : Nat → Bool) (a : Act) : Prop := ∀ i s, dstAt ops i = some s → f i = false → a.tmps.getD s undef = A.tmps.getD s undef
theorem Kept.put {ops : Array Oper} {A : Act} {f : Nat → Bool} {a : Act} (h : Kept ops A f a) (hsz : a.tmps.size = A.tmps.size) (hin : ∀ i s, dstAt ops i = some s → s < A.tmps.size) {i : Nat} {o : Oper} (ho : ops[i]? = some o) (v : Value) (hd : dstOK ops = true) : Kept ops A (fun j => j == i || f j) (a.put o.dst v) := by
  have hdi : dstAt ops i = o.dst := by unfold dstAt; rw [ho]; rfl
  intro j s hj hfj
  have hfj : (j == i || f j) = false := hfj
  rw [Bool.or_eq_false_iff] at hfj
  obtain ⟨h1, h2⟩ := hfj
  cases hds : o.dst with
  | none => exact h j s hj h2
  | some k =>
    have hk : k < a.tmps.size := by rw [hsz]; exact hin i k (by rw [hdi, hds])
    rw [put_get a k s v hk]
    by_cases e : k = s
    · subst e
      have : i = j := dst_apart hd (by rw [hdi, hds]) hj
      subst this
      simp at h1
    · rw [if_neg e]
      exact h j s hj h2
theorem wp_region_slotsK {P : Program} {ops : Array Oper} {Q : Exit → Act → World → Prop} {id : Nat} {A : Act} {w1 : World} {E : Type} (V : Nat → E → Value) (J : (Nat → Bool) → E → World → Prop) (hm : P.follows .mixedOrders = true) (hac : acyc .any ops = true) (hd : dstOK ops = true) (hin : ∀ i s, dstAt ops i = some s → s < A.tmps.size)
    (step : ∀ (f : Nat → Bool) (e : E) (a : Act) (w : World) (i : Nat) (o : Oper), i < ops.size → ops[i]? = some o → f i = false → (∀ d ∈ o.after, Region.binds .any d = true → f d.on = true) → J f e w → Fr ops A f (fun j => V j e) a → Kept ops A f a →
      ∀ K : Act → World → Prop, (∀ v e' w', v = V i e' → (∀ j, f j = true → V j e' = V j e) → J (fun j => j == i || f j) e' w' → K (a.put o.dst v) w') → if Region.wanted o (yielded ops a.tmps) = true then Oper.wp P o a w K Q else K (a.put o.dst undef) w)
    (e0 : E) (start : J (fun _ => false) e0 w1.drew)
    (done : ∀ (f : Nat → Bool) (e : E) (a : Act) (w : World), (∀ i, i < ops.size → f i = true) → J f e w → Fr ops A f (fun j => V j e) a → Q .normal a w) :
    (Code.region id ops true).wp P Q A w1 := by
  refine wp_region_inv hm (fun listed a w => ∃ f e, listed = arrOf ops.size f ∧ Fr ops A f (fun j => V j e) a ∧ Kept ops A f a ∧ J f e w) ?_ hac ?_ ?_ ?_
  · rintro listed a w i o ⟨f, e, rfl, hF, hP, hJ⟩ hun ho hdep K hK
    have hi : i < ops.size := (Array.getElem?_eq_some_iff.1 ho).1
    rw [arrOf_get, if_pos hi] at hun
    refine step f e a w i o hi ho hun (fun d hd1 hd2 => ?_) hJ hF hP K (fun v e' w' hv hV hJ' => hK _ _ ⟨_, e', arrOf_set _ _ _, hF.put hd hin ho hun (V' := fun j => V j e') hv hV, hP.put hF.size hin ho v hd, hJ'⟩)
    have := hdep d hd1 hd2
    rw [arrOf_get] at this
    split at this
    · exact this
    · cases this
  · rintro listed a w ⟨f, e, rfl, _⟩
    simp [arrOf]
  · rintro listed a w ⟨f, e, rfl, hF, hP, hJ⟩ hall
    refine done f e a w (fun i hi => ?_) hJ hF
    have := hall i hi
    rw [arrOf_get, if_pos hi] at this
    exact this
  · exact ⟨fun _ => false, e0, arrOf_false _, ⟨rfl, rfl, fun _ _ => rfl, fun i s _ h => by cases h⟩, fun _ _ _ _ => rfl, start⟩
end Go.Proofs.YtneagomkohoceabDoor
