/- A region that draws its order, in a round of a loop over a function: its slots are kept by name. -/
import Derived.Test.YtghcagibdcblnaaDoorR10
import Derived.Test.YtghcagibdcblnaaDoorR37
import Derived.OrdersIn
import Derived.Test.YtghcagibdcblnaaDoorLpr
namespace Go.Proofs.YtghcagibdcblnaaDoor
open Go.ChangeShapes Go.WideShapes Go.ChangeAt Go.RowKit
set_option linter.unusedVariables false

section
variable {P : Program} {ops : Array Oper} {Q : Exit → Act → World → Prop} {md : Region.Mode}
def isDefer : Op → Bool
  | .defer _ => true
  | _ => false
def noDefer (ops : Array Oper) : Bool := ops.all fun o => !isDefer o.op
theorem noDefer_at {i : Nat} {o : Oper} (h : noDefer ops = true) (ho : ops[i]? = some o) : ∀ c, o.op ≠ .defer c := by
  intro c e
  have hm : o ∈ ops := Array.mem_of_getElem? ho
  have := Array.all_eq_true'.1 h o hm
  rw [e] at this
  cases this
theorem op_round {l n : Nat} {o : Oper} {a : Act} {w : World} {K : Act → World → Prop} (hd : ∀ c, o.op ≠ .defer c) (h : Oper.wp P o a w K Q) : o.wpIn (Fence.wide.inRound l) n P a w K Q := by
  unfold Oper.wpIn
  refine ⟨fun _ _ => trivial, ?_⟩
  rw [show (Fence.wide.inRound l).round = some l from rfl, Oper.semAt_some l _ _ hd]
  unfold Oper.wp at h
  generalize (execOp a.eval o).run P w = r at *
  cases r with
  | ok x w' =>
    cases x with
    | value v => exact h
    | skip => exact h
    | defer d => exact h
    | enter f args => exact ⟨fun e => (by cases e), CallsIn.inRound l (callsIn_wide.2 h)⟩
    | row row args => 
      refine ⟨fun e => (by cases e), fun c cs _ => ?_⟩
      obtain ⟨v, w', r, s⟩ := h c cs
      exact ⟨v, w', r, stepsIn_wide.2 s⟩
    | round l f tmps assign body => exact h.elim
    | _ => exact h.elim
  | halt x w' =>
    cases x <;> exact h
theorem any_invR {l n : Nat} (hnd : noDefer ops = true) (I : Array Bool → Act → World → Prop)
    (step : ∀ (listed : Array Bool) (a : Act) (w : World) (i : Nat) (o : Oper), I listed a w → listed.getD i true = false → ops[i]? = some o → (∀ e ∈ o.after, Region.binds md e = true → listed.getD e.on false = true) →
      ∀ K' : Act → World → Prop, (∀ a' w', I (listed.setIfInBounds i true) a' w' → K' a' w') → if Region.wanted o (yielded ops a.tmps) = true then Oper.wp P o a w K' Q else K' (a.put o.dst undef) w)
    (done : ∀ (listed : Array Bool) (a : Act) (w : World), I listed a w → Region.ready md ops listed = [] → Q .normal a w) :
    ∀ (fuel : Nat) (listed : Array Bool) (a : Act) (w : World), I listed a w → listed.toList.count false ≤ fuel → wpAnyIn (Fence.wide.inRound l) n P md ops Q fuel listed a w := by
  intro fuel
  induction fuel with
  | zero =>
    intro listed a w hI hc
    have hr : Region.ready md ops listed = [] := by
      rw [List.eq_nil_iff_forall_not_mem]
      intro j hj
      have h1 := (mem_ready.1 hj).1
      rw [getD_list, count_zero _ _ (by omega)] at h1
      cases h1
    exact ⟨hr, done _ _ _ hI hr⟩
  | succ fuel ih =>
    intro listed a w hI hc
    refine ⟨fun hr => done _ _ _ hI hr, fun i hi => ?_⟩
    obtain ⟨h1, o, ho, hd⟩ := mem_ready.1 hi
    have hst := step listed a w i o hI h1 ho hd (wpAnyIn (Fence.wide.inRound l) n P md ops Q fuel (listed.setIfInBounds i true)) (fun a' w' hI' => ih _ a' w' hI' ?_)
    · unfold wpOpIn
      rw [ho]
      dsimp only
      split
      · rename_i hw
        rw [if_pos hw] at hst
        exact op_round (noDefer_at hnd ho) hst
      · rename_i hw
        rw [if_neg hw] at hst
        exact ⟨fun _ _ => trivial, hst⟩
    rw [getD_list] at h1
    have := count_set listed.toList i h1
    rw [Array.toList_setIfInBounds]
    omega
theorem wp_region_invR {l n : Nat} (hnd : noDefer ops = true) {id : Nat} {a : Act} {w : World} (hm : P.follows .mixedOrders = true) (I : Array Bool → Act → World → Prop)
    (step : ∀ (listed : Array Bool) (a : Act) (w : World) (i : Nat) (o : Oper), I listed a w → listed.getD i true = false → ops[i]? = some o → (∀ e ∈ o.after, Region.binds .any e = true → listed.getD e.on false = true) →
      ∀ K' : Act → World → Prop, (∀ a' w', I (listed.setIfInBounds i true) a' w' → K' a' w') → if Region.wanted o (yielded ops a.tmps) = true then Oper.wp P o a w K' Q else K' (a.put o.dst undef) w)
    (hac : acyc .any ops = true) (size : ∀ listed a w, I listed a w → listed.size = ops.size)
    (done : ∀ (listed : Array Bool) (a : Act) (w : World), I listed a w → (∀ i, i < ops.size → listed.getD i false = true) → Q .normal a w)
    (start : I (Array.replicate ops.size false) a { w with drawn := w.drawn + 1 }) : (Code.region id ops true).wpIn (Fence.wide.inRound l) n P Q a w :=
  wpIn_region_any hm (any_invR hnd I step (fun l a w hI hr => done l a w hI (ready_nil_all hac (size l a w hI) hr)) _ _ _ _ start (by
    have : (Array.replicate ops.size false).toList.length = ops.size := by simp
    exact Nat.le_trans List.count_le_length (by omega)))
end
theorem wp_region_slotsR {l n : Nat} {P : Program} {ops : Array Oper} {Q : Exit → Act → World → Prop} {id : Nat} {A : Act} {w1 : World} {E : Type} (V : Nat → E → Value) (J : (Nat → Bool) → E → World → Prop) (hnd : noDefer ops = true) (hm : P.follows .mixedOrders = true) (hac : acyc .any ops = true) (hd : dstOK ops = true) (hin : ∀ i s, dstAt ops i = some s → s < A.tmps.size)
    (step : ∀ (f : Nat → Bool) (e : E) (a : Act) (w : World) (i : Nat) (o : Oper), i < ops.size → ops[i]? = some o → f i = false → (∀ d ∈ o.after, Region.binds .any d = true → f d.on = true) → J f e w → Fr ops A f (fun j => V j e) a →
      ∀ K : Act → World → Prop, (∀ v e' w', v = V i e' → (∀ j, f j = true → V j e' = V j e) → J (fun j => j == i || f j) e' w' → K (a.put o.dst v) w') → if Region.wanted o (yielded ops a.tmps) = true then Oper.wp P o a w K Q else K (a.put o.dst undef) w)
    (e0 : E) (start : J (fun _ => false) e0 w1.drew)
    (done : ∀ (f : Nat → Bool) (e : E) (a : Act) (w : World), (∀ i, i < ops.size → f i = true) → J f e w → Fr ops A f (fun j => V j e) a → Q .normal a w) :
    (Code.region id ops true).wpIn (Fence.wide.inRound l) n P Q A w1 := by
  refine wp_region_invR hnd hm (fun listed a w => ∃ f e, listed = arrOf ops.size f ∧ Fr ops A f (fun j => V j e) a ∧ J f e w) ?_ hac ?_ ?_ ?_
  · rintro listed a w i o ⟨f, e, rfl, hF, hJ⟩ hun ho hdep K hK
    have hi : i < ops.size := (Array.getElem?_eq_some_iff.1 ho).1
    rw [arrOf_get, if_pos hi] at hun
    refine step f e a w i o hi ho hun (fun d hd1 hd2 => ?_) hJ hF K (fun v e' w' hv hV hJ' => hK _ _ ⟨_, e', arrOf_set _ _ _, hF.put hd hin ho hun (V' := fun j => V j e') hv hV, hJ'⟩)
    have := hdep d hd1 hd2
    rw [arrOf_get] at this
    split at this
    · exact this
    · cases this
  · rintro listed a w ⟨f, e, rfl, _⟩
    simp [arrOf]
  · rintro listed a w ⟨f, e, rfl, hF, hJ⟩ hall
    refine done f e a w (fun i hi => ?_) hJ hF
    have := hall i hi
    rw [arrOf_get, if_pos hi] at this
    exact this
  · exact ⟨fun _ => false, e0, arrOf_false _, ⟨rfl, rfl, fun _ _ => rfl, fun i s _ h => by cases h⟩, start⟩
end Go.Proofs.YtghcagibdcblnaaDoor

/- The runs of what was compressed, one by one to whoever asks for them: the program's iterator. -/
namespace Go.Proofs.YtghcagibdcblnaaDoor
open Go.ChangeShapes Go.WideShapes Go.ChangeAt Go.RowKit Go.Shelf
attribute [local go_sem] Oper.semAt_some
set_option linter.unusedVariables false
set_option linter.unusedSimpArgs false

set_option maxRecDepth 100000 in
set_option maxHeartbeats 1000000 in
theorem tr_cut (t : ByteArray) (a : Nat) (e0 e1 e2 : Addr) (w : World) (hE : Errs w e0 e1 e2) (ht : t.size ≤ 65536) (ha : a < t.size) (hp : pfB (t.extract a t.size) = true) (haz : t.size < a + 4) :
    Calls Tryd.prog 67 #[cur t (a : Int)] w fun e w' => e = .returned (.tuple #[cur t (a : Int), rnV 0 0, iX e2]) ∧ Below w.heap.size w w' := by
  have hP := hid (fun W => hp_impl (t.extract a t.size) W (by simp [ByteArray.size_extract]; omega))
  rw [hp] at hP
  have hT := hid (fun W (hW : Errs W e0 e1 e2) => take_impl t a (4 : Nat) e0 e1 e2 W (by unfold maxLen; omega) hW)
  rw [take_cut haz (by omega) ht (by omega)] at hT
  have hT2 : Hid (∀ W, Errs W e0 e1 e2 → Calls Tryd.prog 53 #[cur t (a : Int), .int .i64 4] W fun e w' => e = .returned (.tuple #[cur t (a : Int), .string ⟨#[]⟩, iX e2]) ∧ Below W.heap.size W w') := fun W hW => hT.out W hW
  clear hT hp
  replace hE := hid hE
  have ha2 : (a : Int) ≤ (t.size : Int) := by omega
  clear haz ha
  have hF := hid (three_newL w #[.string t, .int .i64 (a : Int)] #[.string ⟨#[]⟩, .int .i64 0] #[.int .u8 0, .int .i64 0] 40 40 105)
  go_enter Tryd.func67, Tryd.ntmps67
  go_wp2_with fail
  refine (hP.out _).mono ?_
  rintro e w1 ⟨rfl, hw1⟩
  rw [← hw1] at hF
  obtain ⟨hsz, q0, q1, q2, hb1⟩ := hF.out
  clear hF hw1 hP
  have hE1 := hid (hE.out.below (hb1.mono (Nat.le_refl _)))
  have x0 := q0.cell
  have l0 := q0.lt
  replace q0 := hid q0
  replace q1 := hid q1
  replace q2 := hid q2
  replace hb1 := hid hb1
  replace hsz := hid hsz
  go_wp2_with fail
  refine (hT2.out _ hE1.out).mono ?_
  rintro e w2 ⟨rfl, hb2⟩
  have q3 := q1.out.below hb2 q1.out.lt
  have q4 := q2.out.below hb2 q2.out.lt
  have q5 := q0.out.below hb2 q0.out.lt
  have hb3 := hid (new_trans hb1.out hb2)
  have hs2 : Hid (w.heap.size + 1 + 1 + 1 ≤ w2.heap.size) := by have h1 := hb2.size; have h2 := hsz.out; unfold Hid; omega
  have x3 := q3.cell
  have f3 := q3.frozen
  have l3 := q3.lt
  have x4 := q4.cell
  have f4 := q4.frozen
  have l4 := q4.lt
  have x5 := q5.cell
  have l5 := q5.lt
  clear hb2 x0 l0 q0 q1 q2 hE1 hb1 hT2 hsz q3 q4 q5
  go_wp2
  refine bodyPost_ret (v := .tuple #[cur t (a : Int), rnV 0 0, iX e2]) (by simp [results, Tryd.results67, go_sem, x3, x4, f3, f4, l3, l4]) rfl ⟨rfl, ?_⟩
  have hh := hs2.out
  have hb4 := hb3.out.alloc hb3.out.size (.cells #[.string t, .int .i64 (a : Int)] 40)
  repeat (first | exact hb4 | exact hb3.out | refine Below.drew ?_ | refine Below.setCell ?_ (by first | omega | (simp; omega) | simp) _ | refine Below.alloc ?_ (by first | omega | (simp; omega) | simp) _)
end Go.Proofs.YtghcagibdcblnaaDoor
