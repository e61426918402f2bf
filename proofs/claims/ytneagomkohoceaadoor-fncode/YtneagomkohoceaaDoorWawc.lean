/- A drawn region that makes one thing and stores into it: p makes it, m stores; all others answer the same in every world that meets S. -/
import Derived.Test.YtneagomkohoceaaDoorWaqc
namespace Go.Proofs.YtneagomkohoceaaDoor
open Go.ChangeShapes Go.WideShapes Go.ChangeAt Go.RowKit
set_option linter.unusedVariables false
set_option linter.unusedSimpArgs false

section
variable {P : Program} {ops : Array Oper}
/-- as Calm, and whatever lies in the world stays -/
def CalmB (P : Program) (S T : World → Prop) (o : Oper) (v : Value) (a : Act) : Prop :=
  ∀ w, S w → ∀ K : Act → World → Prop, (∀ w', T w' → Below w.heap.size w w' → K (a.put o.dst v) w') → Oper.wp P o a w K (fun _ _ _ => False)
theorem calmB_move {S T : World → Prop} {o : Oper} {v : Value} {a b : Act} (h : CalmB P S T o v a) (he : execOp b.eval o = execOp a.eval o) (hd : ∀ k, o.dst = some k → k < a.tmps.size) {w : World} (hS : S w) {K : Act → World → Prop} {Q : Exit → Act → World → Prop} (hK : ∀ w', T w' → Below w.heap.size w w' → K (b.put o.dst v) w') : Oper.wp P o b w K Q := by
  have h1 : Calm P (fun x => x = w) (fun w' => T w' ∧ Below w.heap.size w w') o v a := fun x hx K' hK' => by
    subst hx
    exact h x hS K' (fun w' ht hb => hK' w' ⟨ht, hb⟩)
  exact calm_move h1 he hd rfl (fun w' ht => hK w' ht.1 ht.2)
/-- the slot that p writes is looked at by m alone -/
def onlyM (ops : Array Oper) (p m sp : Nat) : Bool := (dstAt ops p == some sp) && (List.range ops.size).all fun i => i == m || match ops[i]? with
  | none => true
  | some o => !(o.looksAt ops).contains sp
def NewC (P : Program) (ops : Array Oper) (p m sp : Nat) (Z : Array Value) (lo : Nat) (S1 : World → Prop) (S2 : Nat → World → Prop) (i : Nat) (o : Oper) (v : Value) (a : Act) : Prop :=
  if i = p then (Region.wanted o (yielded ops a.tmps) = true ∧ v = undef ∧ ∀ w, S1 w → ∃ t, (execOp a.eval o).run P w = .ok (.value (.pointer (some ⟨w.heap.size, 0, none⟩))) (w.alloc (.cells Z t)) ∧ S1 (w.alloc (.cells Z t)))
  else if i = m then (Region.wanted o (yielded ops a.tmps) = true ∧ v = undef ∧ ∀ e, lo ≤ e → Calm P (fun w => S1 w ∧ Blk w e Z) (S2 e) o undef (a.put (some sp) (.pointer (some ⟨e, 0, none⟩))))
  else (Region.wanted o (yielded ops a.tmps) = false ∧ v = undef) ∨ (Region.wanted o (yielded ops a.tmps) = true ∧ if waits ops m i = true then CalmB P S1 S1 o v a else (CalmB P S1 S1 o v a ∧ ∀ e, CalmB P (S2 e) (S2 e) o v a))
def NewFrom (P : Program) (ops : Array Oper) (p m sp : Nat) (Z : Array Value) (lo : Nat) (S1 : World → Prop) (S2 : Nat → World → Prop) (Q : Act → World → Prop) (i : Nat) (a : Act) : Prop :=
  ∃ V : Nat → Value, (∀ n o, ops[i + n]? = some o → NewC P ops p m sp Z lo S1 S2 (i + n) o (V (i + n)) (canonF ops i a V n)) ∧ ∀ e w, lo ≤ e → S2 e w → Q ((canonF ops i a V (ops.size - i)).put (some sp) (.pointer (some ⟨e, 0, none⟩))) w
theorem new_cons {p m sp : Nat} {Z : Array Value} {lo : Nat} {S1 : World → Prop} {S2 : Nat → World → Prop} {Q : Act → World → Prop} {i : Nat} {o : Oper} {v : Value} {a : Act} (ho : ops[i]? = some o) (h : NewC P ops p m sp Z lo S1 S2 i o v a) (r : NewFrom P ops p m sp Z lo S1 S2 Q (i + 1) (a.put o.dst v)) : NewFrom P ops p m sp Z lo S1 S2 Q i a := by
  obtain ⟨V, h1, h2⟩ := r
  have hi : i < ops.size := (Array.getElem?_eq_some_iff.1 ho).1
  let V' : Nat → Value := fun k => if k = i then v else V k
  have hVi : V' i = v := if_pos rfl
  have hV : ∀ k, i + 1 ≤ k → V k = V' k := fun k hk => (if_neg (by omega)).symm
  refine ⟨V', fun n o' ho' => ?_, fun e w he hw => ?_⟩
  · cases n with
    | zero =>
      rw [Nat.add_zero] at ho'
      rw [ho] at ho'
      obtain rfl := Option.some.inj ho'
      show NewC P ops p m sp Z lo S1 S2 (i + 0) o (V' (i + 0)) a
      rw [Nat.add_zero, hVi]
      exact h
    | succ n =>
      have e : i + (n + 1) = i + 1 + n := by omega
      rw [canonF_succ i a V' ho, hVi, e, ← canonF_ext (i + 1) _ V V' hV, ← hV (i + 1 + n) (by omega)]
      exact h1 n o' (by rw [← e]; exact ho')
  · have e3 : ops.size - i = (ops.size - (i + 1)) + 1 := by omega
    rw [e3, canonF_succ i a V' ho, hVi, ← canonF_ext (i + 1) _ V V' hV]
    exact h2 e w he hw
theorem put_slot (a : Act) (k s : Nat) (v : Value) : (a.put (some k) v).tmps.getD s undef = if k = s ∧ k < a.tmps.size then v else a.tmps.getD s undef := by
  by_cases hk : k < a.tmps.size
  · rw [put_get a k s v hk]
    by_cases e : k = s
    · rw [if_pos e, if_pos ⟨e, hk⟩]
    · rw [if_neg e, if_neg (fun h => e h.1)]
  · rw [if_neg (fun h => hk h.2)]
    show (a.tmps.setIfInBounds k v).getD s undef = _
    rw [Array.getD_eq_getD_getElem?, Array.getElem?_setIfInBounds, Array.getD_eq_getD_getElem?]
    by_cases e : k = s
    · subst e
      rw [if_pos rfl, if_neg hk, Array.getElem?_eq_none (by omega)]
    · rw [if_neg e]
theorem put_sz (a : Act) (k : Option Tmp) (v : Value) : (a.put k v).tmps.size = a.tmps.size := by
  cases k with
  | none => rfl
  | some k => exact Array.size_setIfInBounds
theorem put_def (a : Act) (k : Option Tmp) (v : Value) : (a.put k v).defers = a.defers := by cases k <;> rfl
set_option maxHeartbeats 1000000 in
theorem new_go {Q : Exit → Act → World → Prop} {id : Nat} {A : Act} {w1 : World} (p m sp : Nat) (Z : Array Value) (S1 : World → Prop) (S2 : Nat → World → Prop) (hm : P.follows .mixedOrders = true) (hac : acyc .any ops = true) (hd : dstOK ops = true) (hdp : depOK ops = true) (hsel : Region.noSelect ops = true) (hin : insOK ops A.tmps.size = true) (hpm : onlyM ops p m sp = true) (hmn : dstAt ops m = none) (hml : m < ops.size) (hwp : waits ops m p = true) (hgm : ((ops[m]?).bind (·.guard)).isNone = true) (hS : S1 w1.drew) (hlo : ∀ w, S1 w → w1.heap.size ≤ w.heap.size)
    (h : NewFrom P ops p m sp Z w1.heap.size S1 S2 (fun a w => Q .normal a w) 0 A) : (Code.region id ops true).wp P Q A w1 := by
  obtain ⟨V, h1, h2⟩ := h
  simp only [Nat.zero_add, Nat.sub_zero] at h1 h2
  unfold onlyM at hpm
  rw [Bool.and_eq_true, beq_iff_eq] at hpm
  obtain ⟨hps, hpm⟩ := hpm
  have hpl : p < ops.size := dst_lt hps
  have hne : p ≠ m := fun e => by rw [e, hmn] at hps; cases hps
  have inA : ∀ i s, dstAt ops i = some s → s < A.tmps.size := fun i s hi => by
    have := List.all_eq_true.1 hin i (List.mem_range.2 (dst_lt hi))
    rw [hi] at this
    simpa using this
  have hVd : ∀ j e, (fun i (e : Nat) => if i = p then (Value.pointer (some ⟨e, 0, none⟩)) else V i) j e = if j = p then Value.pointer (some ⟨e, 0, none⟩) else V j := fun _ _ => rfl
  refine wp_region_slots (E := Nat) (fun i e => if i = p then .pointer (some ⟨e, 0, none⟩) else V i) (fun f e w => (∀ i o, ops[i]? = some o → f i = true → ∀ d ∈ o.after, Region.binds .any d = true → f d.on = true) ∧ (if f m = true then S2 e w ∧ w1.heap.size ≤ e else (S1 w ∧ (f p = true → Blk w e Z ∧ w1.heap.size ≤ e)))) hm hac hd inA ?_ 0 ?_ ?_
  · intro f e a w i o hi ho hun hdep hJ hFr K hK
    obtain ⟨hcl, hJ⟩ := hJ
    have hstep := h1 i o ho
    have hcl2 : ∀ k o', ops[k]? = some o' → (k == i || f k) = true → ∀ d ∈ o'.after, Region.binds .any d = true → (d.on == i || f d.on) = true := fun k o' hk hf d hdm hb => by
      by_cases e1 : k = i
      · subst e1
        rw [ho] at hk
        obtain rfl := Option.some.inj hk
        rw [hdep d hdm hb, Bool.or_true]
      · have : f k = true := by
          rw [Bool.or_eq_true, beq_iff_eq] at hf
          exact hf.resolve_left e1
        rw [hcl k o' hk this d hdm hb, Bool.or_true]
    -- the frame at hand, and the one of the row
    have look : ∀ s, s ∈ o.looksAt ops → (s ≠ sp → a.tmps.getD s undef = (canonF ops 0 A V i).tmps.getD s undef) ∧ (s = sp → a.tmps.getD s undef = .pointer (some ⟨e, 0, none⟩)) := fun s hs => by
      have hg := canonF_get A V hd hin s i (Nat.le_of_lt hi)
      by_cases hw : ∃ j, j < ops.size ∧ dstAt ops j = some s
      · obtain ⟨j, hj, hjs⟩ := hw
        have k1 := List.all_eq_true.1 hdp i (List.mem_range.2 hi)
        rw [ho] at k1
        have k2 := List.all_eq_true.1 (List.all_eq_true.1 k1 s hs) j (List.mem_range.2 hj)
        rw [hjs] at k2
        simp only [bne_self_eq_false, Bool.false_or, Array.any_eq_true'] at k2
        obtain ⟨d, hd1, hd2⟩ := k2
        simp only [Bool.and_eq_true, beq_iff_eq] at hd2
        have hfj := hdep d hd1 hd2.2
        rw [hd2.1] at hfj
        have hlt : j < i := by
          have q1 := List.all_eq_true.1 hac i (List.mem_range.2 hi)
          rw [ho] at q1
          have q2 := Array.all_eq_true'.1 q1 d hd1
          rw [hd2.2, hd2.1] at q2
          simpa using q2
        have hnew := hFr.new j s hjs hfj
        refine ⟨fun hsp => ?_, fun hsp => ?_⟩
        · have hjp : j ≠ p := fun ejp => hsp (by rw [ejp, hps] at hjs; exact (Option.some.inj hjs).symm)
          rw [hnew, hg.2 j hlt hjs]
          exact if_neg hjp
        · have hjp : j = p := dst_apart hd hjs (by rw [hsp]; exact hps)
          rw [hnew]
          exact if_pos hjp
      · have hn : ∀ j, dstAt ops j ≠ some s := fun j hj => hw ⟨j, dst_lt hj, hj⟩
        refine ⟨fun _ => by rw [hFr.old s hn, hg.1 (fun j _ => hn j)], fun hsp => absurd hps (by rw [← hsp]; exact hn p)⟩
    have hso : ∀ cs x, o.op ≠ .select cs x := fun cs x => Region.noSelect_spec hsel i o cs x ho
    have hdst : dstAt ops i = o.dst := by unfold dstAt; rw [ho]; rfl
    have hdi : ∀ k, o.dst = some k → k < (canonF ops 0 A V i).tmps.size := fun k hk => by
      rw [canonF_size]
      exact inA i k (by rw [hdst]; exact hk)
    have hsz : a.tmps.size = (canonF ops 0 A V i).tmps.size := by rw [hFr.size, canonF_size]
    have nosee : i ≠ m → SeesAlike ops o a (canonF ops 0 A V i) := fun him => ⟨hsz, fun s hs => (look s hs).1 (fun e1 => by
      have := List.all_eq_true.1 hpm i (List.mem_range.2 hi)
      rw [ho, e1.symm] at this
      simp only [Bool.or_eq_true, beq_iff_eq, Bool.not_eq_true'] at this
      rcases this with h | h
      · exact him h
      · have : (o.looksAt ops).contains s = true := by simpa using hs
        rw [this] at h; cases h)⟩
    have mw : f m = true → waits ops m i = true → False := fun hfm hwt => by
      unfold waits at hwt
      rw [decide_eq_false (by omega), Bool.false_or] at hwt
      have := calmReach_done hcl 8 m i hwt hfm
      rw [hun] at this
      cases this
    unfold NewC at hstep
    by_cases hip : i = p
    · rw [if_pos hip] at hstep
      obtain ⟨hw, hv, hal⟩ := hstep
      have him : i ≠ m := by rw [hip]; exact hne
      have hse := nosee him
      rw [sees_wanted hse, hw, if_pos rfl]
      have hfm : f m = false := by
        cases hf : f m
        · rfl
        · exact (mw hf (by rw [hip]; exact hwp)).elim
      rw [hfm, if_neg (by decide)] at hJ
      obtain ⟨t, hrun, hS'⟩ := hal w hJ.1
      unfold Oper.wp
      rw [sees_exec hse hso, hrun]
      refine hK _ w.heap.size _ (if_pos hip).symm (fun j hj => ?_) ⟨hcl2, ?_⟩
      · have hjp : j ≠ p := fun e1 => by rw [e1, ← hip, hun] at hj; cases hj
        show (if j = p then _ else _) = (if j = p then _ else _)
        rw [if_neg hjp, if_neg hjp]
      · have hmi : (m == i || f m) = false := by
          rw [hfm, Bool.or_false]
          simpa using fun e1 => him e1.symm
        show (if (m == i || f m) = true then _ else _)
        rw [hmi, if_neg (by decide)]
        exact ⟨hS', fun _ => ⟨Blk.new w Z t, hlo w hJ.1⟩⟩
    · rw [if_neg hip] at hstep
      by_cases him : i = m
      · rw [if_pos him] at hstep
        obtain ⟨hw, hv, hst⟩ := hstep
        have hfm : f m = false := by rw [← him]; exact hun
        rw [hfm, if_neg (by decide)] at hJ
        have hfp : f p = true := by
          have hr : calmReach ops 8 m p = true := by
            have := hwp
            unfold waits at this
            rw [decide_eq_false (by omega), Bool.false_or] at this
            exact this
          have h0 : ∀ k o', ops[k]? = some o' → (k == i || f k) = true → ∀ d ∈ o'.after, Region.binds .any d = true → (d.on == i || f d.on) = true := hcl2
          have := calmReach_done (f := fun j => j == i || f j) h0 8 m p hr (by simp [him])
          have hpi : (p == i) = false := by simpa using fun e1 => hip e1.symm
          have this : (p == i || f p) = true := this
          rw [hpi, Bool.false_or] at this
          exact this
        obtain ⟨hb, hle⟩ := hJ.2 hfp
        have hse : SeesAlike ops o a ((canonF ops 0 A V i).put (some sp) (.pointer (some ⟨e, 0, none⟩))) := ⟨by rw [put_sz]; exact hsz, fun s hs => by
          have hspl : sp < (canonF ops 0 A V i).tmps.size := by rw [canonF_size]; exact inA p sp hps
          rw [put_slot]
          by_cases e1 : sp = s
          · rw [if_pos ⟨e1, hspl⟩]
            exact (look s hs).2 e1.symm
          · rw [if_neg (fun h => e1 h.1)]
            exact (look s hs).1 (fun h => e1 h.symm)⟩
        have hse2 : Region.wanted o (yielded ops a.tmps) = true := by
          have : o.guard = none := by
            rw [← him, ho] at hgm
            simpa using hgm
          unfold Region.wanted
          rw [this]
        rw [hse2, if_pos rfl]
        have hdm : o.dst = none := by rw [← hdst, him]; exact hmn
        refine calm_move (hst e hle) (sees_exec hse hso) (fun k hk => by rw [hdm] at hk; cases hk) ⟨hJ.1, hb⟩ (fun w' ht => ?_)
        have := hK (V i) e w' (if_neg hip).symm (fun _ _ => rfl) ⟨hcl2, ?_⟩
        · rw [hdm] at this ⊢
          exact this
        · show (if (m == i || f m) = true then _ else _)
          rw [if_pos (by simp [him])]
          exact ⟨ht, hle⟩
      · rw [if_neg him] at hstep
        have hse := nosee him
        rw [sees_wanted hse]
        have hmi : (m == i || f m) = f m := by
          have : (m == i) = false := by simpa using fun e1 => him e1.symm
          rw [this, Bool.false_or]
        have hpi : (p == i || f p) = f p := by
          have : (p == i) = false := by simpa using fun e1 => hip e1.symm
          rw [this, Bool.false_or]
        rcases hstep with ⟨hw, hv⟩ | ⟨hw, hc⟩
        · rw [hw, if_neg (by decide)]
          refine hK undef e w (by rw [if_neg hip]; exact hv.symm) (fun _ _ => rfl) ⟨hcl2, ?_⟩
          show (if (m == i || f m) = true then S2 e w ∧ w1.heap.size ≤ e else (S1 w ∧ ((p == i || f p) = true → Blk w e Z ∧ w1.heap.size ≤ e)))
          rw [hmi, hpi]
          exact hJ
        · rw [hw, if_pos rfl]
          cases hfm : f m
          · rw [hfm, if_neg (by decide)] at hJ
            have hc1 : CalmB P S1 S1 o (V i) (canonF ops 0 A V i) := by
              split at hc
              · exact hc
              · exact hc.1
            refine calmB_move hc1 (sees_exec hse hso) hdi hJ.1 (fun w' ht hb => hK (V i) e w' (if_neg hip).symm (fun _ _ => rfl) ⟨hcl2, ?_⟩)
            show (if (m == i || f m) = true then S2 e w' ∧ w1.heap.size ≤ e else (S1 w' ∧ ((p == i || f p) = true → Blk w' e Z ∧ w1.heap.size ≤ e)))
            rw [hmi, hpi, hfm, if_neg (by decide)]
            exact ⟨ht, fun hp => ⟨(hJ.2 hp).1.below hb (hJ.2 hp).1.lt, (hJ.2 hp).2⟩⟩
          · rw [hfm, if_pos rfl] at hJ
            rw [if_neg (fun hwt => mw hfm hwt)] at hc
            refine calmB_move (hc.2 e) (sees_exec hse hso) hdi hJ.1 (fun w' ht hb => hK (V i) e w' (if_neg hip).symm (fun _ _ => rfl) ⟨hcl2, ?_⟩)
            show (if (m == i || f m) = true then S2 e w' ∧ w1.heap.size ≤ e else (S1 w' ∧ ((p == i || f p) = true → Blk w' e Z ∧ w1.heap.size ≤ e)))
            rw [hmi, hfm, if_pos rfl]
            exact ⟨ht, hJ.2⟩
  · refine ⟨fun i o _ h => (by cases h), ?_⟩
    rw [if_neg (fun h => by cases h)]
    exact ⟨hS, fun h => by cases h⟩
  · intro f e a w hall hJ hFr
    obtain ⟨_, hJ⟩ := hJ
    rw [if_pos (hall m hml)] at hJ
    have e1 : a = (canonF ops 0 A V ops.size).put (some sp) (.pointer (some ⟨e, 0, none⟩)) := by
      have hde : a.defers = ((canonF ops 0 A V ops.size).put (some sp) (.pointer (some ⟨e, 0, none⟩))).defers := by rw [hFr.defers, put_def, canonF_defers]
      have hsz : a.tmps.size = ((canonF ops 0 A V ops.size).put (some sp) (.pointer (some ⟨e, 0, none⟩))).tmps.size := by rw [hFr.size, put_sz, canonF_size]
      have htm : a.tmps = ((canonF ops 0 A V ops.size).put (some sp) (.pointer (some ⟨e, 0, none⟩))).tmps := by
        apply Array.ext hsz
        intro s hs1 hs2
        have hg := canonF_get A V hd hin s ops.size (Nat.le_refl _)
        have hspl : sp < (canonF ops 0 A V ops.size).tmps.size := by rw [canonF_size]; exact inA p sp hps
        have : a.tmps.getD s undef = ((canonF ops 0 A V ops.size).put (some sp) (.pointer (some ⟨e, 0, none⟩))).tmps.getD s undef := by
          rw [put_slot]
          by_cases hss : sp = s
          · rw [if_pos ⟨hss, hspl⟩, hFr.new p s (by rw [← hss]; exact hps) (hall p hpl)]
            exact if_pos rfl
          · rw [if_neg (fun h => hss h.1)]
            by_cases hw : ∃ j, j < ops.size ∧ dstAt ops j = some s
            · obtain ⟨j, hj, hjs⟩ := hw
              rw [hFr.new j s hjs (hall j hj), hg.2 j hj hjs]
              exact if_neg (fun ejp => hss (by rw [ejp, hps] at hjs; exact Option.some.inj hjs))
            · have hn : ∀ j, dstAt ops j ≠ some s := fun j hj => hw ⟨j, dst_lt hj, hj⟩
              rw [hFr.old s hn, hg.1 (fun j _ => hn j)]
        simpa [Array.getD, hs1, hs2] using this
      cases a
      cases hc : (canonF ops 0 A V ops.size).put (some sp) (.pointer (some ⟨e, 0, none⟩))
      rw [hc] at hde htm
      simp only at hde htm
      rw [hde, htm]
    rw [e1]
    exact h2 e w hJ.2 hJ.1
/-- the operations from i on are these -/
def NewL (P : Program) (ops : Array Oper) (p m sp : Nat) (Z : Array Value) (lo : Nat) (S1 : World → Prop) (S2 : Nat → World → Prop) (Q : Act → World → Prop) (i : Nat) (L : List Oper) (a : Act) : Prop := ops.toList.drop i = L → NewFrom P ops p m sp Z lo S1 S2 Q i a
variable {p m sp : Nat} {Z : Array Value} {lo : Nat} {S1 : World → Prop} {S2 : Nat → World → Prop} {Q : Act → World → Prop} {i : Nat} {o : Oper} {v : Value} {a : Act} {L : List Oper}
theorem new_take (hp : i ≠ p) (hm : i ≠ m) (hs : waits ops m i = true) (hw : Region.wanted o (yielded ops a.tmps) = true) (h : ∀ w, S1 w → (execOp a.eval o).run P w = .ok (.value v) w) (r : NewL P ops p m sp Z lo S1 S2 Q (i + 1) L (a.put o.dst v)) : NewL P ops p m sp Z lo S1 S2 Q i (o :: L) a := fun hL =>
  new_cons (calm_drop hL).1 (by
    unfold NewC
    rw [if_neg hp, if_neg hm]
    refine .inr ⟨hw, ?_⟩
    rw [if_pos hs]
    intro w hS K hK
    unfold Oper.wp
    rw [h w hS]
    exact hK w hS (Below.refl _ _)) (r (calm_drop hL).2)
theorem new_pure (hp : i ≠ p) (hm : i ≠ m) (hw : Region.wanted o (yielded ops a.tmps) = true) (h : ∀ w, (execOp a.eval o).run P w = .ok (.value v) w) (r : NewL P ops p m sp Z lo S1 S2 Q (i + 1) L (a.put o.dst v)) : NewL P ops p m sp Z lo S1 S2 Q i (o :: L) a := fun hL => by
  have key : ∀ S : World → Prop, CalmB P S S o v a := fun S w hS K hK => by
    unfold Oper.wp
    rw [h w]
    exact hK w hS (Below.refl _ _)
  refine new_cons (calm_drop hL).1 ?_ (r (calm_drop hL).2)
  unfold NewC
  rw [if_neg hp, if_neg hm]
  refine .inr ⟨hw, ?_⟩
  split
  · exact key S1
  · exact ⟨key S1, fun e => key (S2 e)⟩
theorem new_call {f : FuncId} {args : Array Value} (v : Value) (hp : i ≠ p) (hm : i ≠ m) (hs : waits ops m i = true) (hw : Region.wanted o (yielded ops a.tmps) = true) (h : ∀ w, (execOp a.eval o).run P w = .ok (.enter f args) w) (hc : ∀ w, S1 w → Calls P f args w fun e w' => e = .returned v ∧ S1 w' ∧ Below w.heap.size w w') (r : NewL P ops p m sp Z lo S1 S2 Q (i + 1) L (a.put o.dst v)) : NewL P ops p m sp Z lo S1 S2 Q i (o :: L) a := fun hL =>
  new_cons (calm_drop hL).1 (by
    unfold NewC
    rw [if_neg hp, if_neg hm]
    refine .inr ⟨hw, ?_⟩
    rw [if_pos hs]
    intro w hS K hK
    unfold Oper.wp
    rw [h w]
    show Calls P f args w _
    refine Calls.mono (hc w hS) (fun e w' he => ?_)
    obtain ⟨rfl, h1, h2⟩ := he
    exact hK w' h1 h2) (r (calm_drop hL).2)
theorem new_make (hp : i = p) (hw : Region.wanted o (yielded ops a.tmps) = true) (h : ∀ w, S1 w → ∃ t, (execOp a.eval o).run P w = .ok (.value (.pointer (some ⟨w.heap.size, 0, none⟩))) (w.alloc (.cells Z t)) ∧ S1 (w.alloc (.cells Z t))) (r : NewL P ops p m sp Z lo S1 S2 Q (i + 1) L (a.put o.dst undef)) : NewL P ops p m sp Z lo S1 S2 Q i (o :: L) a := fun hL =>
  new_cons (calm_drop hL).1 (by
    unfold NewC
    rw [if_pos hp]
    exact ⟨hw, rfl, h⟩) (r (calm_drop hL).2)
theorem new_store (hp : i ≠ p) (hm : i = m) (hw : Region.wanted o (yielded ops a.tmps) = true) (h : ∀ e, lo ≤ e → Calm P (fun w => S1 w ∧ Blk w e Z) (S2 e) o undef (a.put (some sp) (.pointer (some ⟨e, 0, none⟩)))) (r : NewL P ops p m sp Z lo S1 S2 Q (i + 1) L (a.put o.dst undef)) : NewL P ops p m sp Z lo S1 S2 Q i (o :: L) a := fun hL =>
  new_cons (calm_drop hL).1 (by
    unfold NewC
    rw [if_neg hp, if_pos hm]
    exact ⟨hw, rfl, h⟩) (r (calm_drop hL).2)
theorem new_end (h : ∀ e w, lo ≤ e → S2 e w → Q (a.put (some sp) (.pointer (some ⟨e, 0, none⟩))) w) : NewL P ops p m sp Z lo S1 S2 Q i [] a := fun hL => by
  have hge : ops.size ≤ i := by
    have := congrArg List.length hL
    simp at this
    omega
  exact ⟨fun _ => undef, fun n o ho => (by have := (Array.getElem?_eq_some_iff.1 ho).1; omega), fun e w hl hw => by rw [show ops.size - i = 0 from by omega]; exact h e w hl hw⟩
theorem new_region {L : List Oper} {Q : Exit → Act → World → Prop} {id : Nat} {A : Act} {w1 : World} (p m sp : Nat) (Z : Array Value) (S1 : World → Prop) (S2 : Nat → World → Prop) (hm : P.follows .mixedOrders = true) (hac : acyc .any L.toArray = true) (hd : dstOK L.toArray = true) (hdp : depOK L.toArray = true) (hsel : Region.noSelect L.toArray = true) (hin : insOK L.toArray A.tmps.size = true) (hpm : onlyM L.toArray p m sp = true) (hmn : dstAt L.toArray m = none) (hml : m < L.toArray.size) (hwp : waits L.toArray m p = true) (hgm : ((L.toArray[m]?).bind (·.guard)).isNone = true) (hS : S1 w1.drew) (hlo : ∀ w, S1 w → w1.heap.size ≤ w.heap.size)
    (h : NewL P L.toArray p m sp Z w1.heap.size S1 S2 (fun a w => Q .normal a w) 0 L A) : (Code.region id L.toArray true).wp P Q A w1 :=
  new_go p m sp Z S1 S2 hm hac hd hdp hsel hin hpm hmn hml hwp hgm hS hlo (h (by simp))
end
end Go.Proofs.YtneagomkohoceaaDoor
