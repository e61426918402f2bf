/- A drawn region walked in one order, whose last operations stand in a row, each behind all others: these are walked one by one. -/
import Derived.Test.YtneagomkohoceaaDoorWjfc
import Derived.Test.YtneagomkohoceaaDoorC36
namespace Go.Proofs.YtneagomkohoceaaDoor
open Go.ChangeShapes Go.WideShapes Go.ChangeAt Go.RowKit
set_option linter.unusedVariables false
set_option linter.unusedSimpArgs false

section
variable {P : Program} {ops : Array Oper}
/-- operations in a row, to a region's end -/
def wpSeq (P : Program) (ops : Array Oper) (Q : Exit → Act → World → Prop) : List Oper → Act → World → Prop
  | [], a, w => Q .normal a w
  | o :: rest, a, w => if Region.wanted o (yielded ops a.tmps) = true then Oper.wp P o a w (wpSeq P ops Q rest) Q else wpSeq P ops Q rest (a.put o.dst undef) w
structure SeqEnd (P : Program) (ops : Array Oper) (S : World → Prop) (Q : Exit → Act → World → Prop) (n : Nat) (R : List Oper) (a : Act) : Prop where
  r : ops.toList.drop n = R
  c : ∀ j, n ≤ j → j < ops.size → ∀ k, k < j → calmReach ops 12 j k = true
  q : ∀ w, S w → wpSeq P ops Q R a w
def SeqFrom (P : Program) (ops : Array Oper) (S : World → Prop) (Q : Exit → Act → World → Prop) (i : Nat) (a : Act) : Prop :=
  ∃ (n : Nat) (V : Nat → Value) (R : List Oper), (∀ k o, k < n → ops[i + k]? = some o → StepC P ops ops.size S (fun _ => True) (i + k) o (V (i + k)) (canonF ops i a V k)) ∧ i + n ≤ ops.size ∧ SeqEnd P ops S Q (i + n) R (canonF ops i a V n)
theorem seq_cons {S : World → Prop} {Q : Exit → Act → World → Prop} {i : Nat} {o : Oper} {v : Value} {a : Act} (ho : ops[i]? = some o) (h : StepC P ops ops.size S (fun _ => True) i o v a) (r : SeqFrom P ops S Q (i + 1) (a.put o.dst v)) : SeqFrom P ops S Q i a := by
  obtain ⟨n, V, R, h1, hs, h2⟩ := r
  let V' : Nat → Value := fun k => if k = i then v else V k
  have hVi : V' i = v := if_pos rfl
  have hV : ∀ k, i + 1 ≤ k → V k = V' k := fun k hk => (if_neg (by omega)).symm
  refine ⟨n + 1, V', R, fun k o' hk ho' => ?_, by omega, ?_⟩
  · cases k with
    | zero =>
      rw [Nat.add_zero] at ho'
      rw [ho] at ho'
      obtain rfl := Option.some.inj ho'
      show StepC P ops ops.size S (fun _ => True) (i + 0) o (V' (i + 0)) a
      rw [Nat.add_zero, hVi]
      exact h
    | succ k =>
      have e : i + (k + 1) = i + 1 + k := by omega
      rw [canonF_succ i a V' ho, hVi, e, ← canonF_ext (i + 1) _ V V' hV, ← hV (i + 1 + k) (by omega)]
      exact h1 k o' (by omega) (by rw [← e]; exact ho')
  · have e : i + (n + 1) = i + 1 + n := by omega
    rw [canonF_succ i a V' ho, hVi, e, ← canonF_ext (i + 1) _ V V' hV]
    exact h2
def SeqL (P : Program) (ops : Array Oper) (S : World → Prop) (Q : Exit → Act → World → Prop) (i : Nat) (L : List Oper) (a : Act) : Prop := ops.toList.drop i = L → SeqFrom P ops S Q i a
variable {S : World → Prop} {Q : Exit → Act → World → Prop} {i : Nat} {o : Oper} {v : Value} {a : Act} {L : List Oper}
theorem seq_step1 (hL : ops.toList.drop i = o :: L) (hw : Region.wanted o (yielded ops a.tmps) = true) (h : Calm P S S o v a) (r : SeqFrom P ops S Q (i + 1) (a.put o.dst v)) : SeqFrom P ops S Q i a :=
  seq_cons (calm_drop hL).1 (.inr ⟨hw, by
    rw [if_neg (Nat.ne_of_lt (tail_lt hL)), if_pos (by unfold waits; simp)]
    exact h⟩) r
theorem seq_take (hw : Region.wanted o (yielded ops a.tmps) = true) (h : ∀ w, S w → (execOp a.eval o).run P w = .ok (.value v) w) (r : SeqL P ops S Q (i + 1) L (a.put o.dst v)) : SeqL P ops S Q i (o :: L) a := fun hL =>
  seq_step1 hL hw (fun w hS K hK => by
    unfold Oper.wp
    rw [h w hS]
    exact hK w hS) (r (calm_drop hL).2)
theorem seq_skip (hw : Region.wanted o (yielded ops a.tmps) = false) (r : SeqL P ops S Q (i + 1) L (a.put o.dst undef)) : SeqL P ops S Q i (o :: L) a := fun hL =>
  seq_cons (calm_drop hL).1 (.inl ⟨hw, rfl, Nat.ne_of_lt (tail_lt hL)⟩) (r (calm_drop hL).2)
theorem seq_call {f : FuncId} {args : Array Value} (v : Value) (hw : Region.wanted o (yielded ops a.tmps) = true) (h : ∀ w, (execOp a.eval o).run P w = .ok (.enter f args) w) (hc : ∀ w, S w → Calls P f args w fun e w' => e = .returned v ∧ S w') (r : SeqL P ops S Q (i + 1) L (a.put o.dst v)) : SeqL P ops S Q i (o :: L) a := fun hL =>
  seq_step1 hL hw (fun w hS K hK => by
    unfold Oper.wp
    rw [h w]
    show Calls P f args w _
    refine Calls.mono (hc w hS) (fun e w' he => ?_)
    obtain ⟨rfl, h1⟩ := he
    exact hK w' h1) (r (calm_drop hL).2)
/-- from here on each operation waits for all ahead of it -/
theorem seq_end (hi : decide (i ≤ ops.size) = true) (hc : ((List.range ops.size).all fun j => decide (j < i) || (List.range j).all fun k => calmReach ops 12 j k) = true) (hq : ∀ w, S w → wpSeq P ops Q L a w) : SeqL P ops S Q i L a := fun hL => by
  have hi2 : i ≤ ops.size := by simpa using hi
  refine ⟨0, fun _ => undef, L, fun k o hk => by omega, by omega, ⟨hL, fun j h1 h2 k hk => ?_, hq⟩⟩
  have := List.all_eq_true.1 hc j (List.mem_range.2 h2)
  rw [Bool.or_eq_true] at this
  rcases this with h | h
  · simp at h; omega
  · exact List.all_eq_true.1 h k (List.mem_range.2 hk)
theorem canonF_eq (A a : Act) (V : Nat → Value) (n : Nat) (hn : n ≤ ops.size) (hd : dstOK ops = true) (hin : insOK ops A.tmps.size = true) {f : Nat → Bool} (hF : Fr ops A f V a) (hK : Kept ops A f a) (h1 : ∀ k, k < n → f k = true) (h2 : ∀ k, n ≤ k → k < ops.size → f k = false) : a = canonF ops 0 A V n := by
  have hde : a.defers = (canonF ops 0 A V n).defers := by rw [hF.defers, canonF_defers]
  have hsz2 : a.tmps.size = (canonF ops 0 A V n).tmps.size := by rw [hF.size, canonF_size]
  have htm : a.tmps = (canonF ops 0 A V n).tmps := by
    apply Array.ext hsz2
    intro s hs1 hs2
    have hg := canonF_get A V hd hin s n hn
    have : a.tmps.getD s undef = (canonF ops 0 A V n).tmps.getD s undef := by
      by_cases hw : ∃ j, j < n ∧ dstAt ops j = some s
      · obtain ⟨j, hj, hjs⟩ := hw
        rw [hF.new j s hjs (h1 j hj), hg.2 j hj hjs]
      · rw [hg.1 (fun j hj hjs => hw ⟨j, hj, hjs⟩)]
        by_cases hw2 : ∃ j, dstAt ops j = some s
        · obtain ⟨j, hjs⟩ := hw2
          have hjn : n ≤ j := by
            rcases Nat.lt_or_ge j n with h | h
            · exact absurd ⟨j, h, hjs⟩ hw
            · exact h
          exact hK j s hjs (h2 j hjn (dst_lt hjs))
        · exact hF.old s (fun j hj => hw2 ⟨j, hj⟩)
    simpa [Array.getD, hs1, hs2] using this
  cases a
  cases hc : canonF ops 0 A V n
  rw [hc] at hde htm
  simp only at hde htm
  rw [hde, htm]
def seqInv (P : Program) (ops : Array Oper) (S : World → Prop) (Q : Exit → Act → World → Prop) (A : Act) (V : Nat → Value) (n : Nat) (listed : Array Bool) (a : Act) (w : World) : Prop :=
  ∃ f : Nat → Bool, listed = arrOf ops.size f ∧ (∀ i o, ops[i]? = some o → f i = true → ∀ d ∈ o.after, Region.binds .any d = true → f d.on = true) ∧
    (((∃ k, k < n ∧ f k = false) ∧ (∀ k, n ≤ k → f k = false) ∧ Fr ops A f V a ∧ Kept ops A f a ∧ S w) ∨ (∃ m, n + m ≤ ops.size ∧ (∀ k, f k = decide (k < n + m)) ∧ wpSeq P ops Q (ops.toList.drop (n + m)) a w))
theorem seq_go {id : Nat} {A : Act} {w1 : World} (S : World → Prop) (hm : P.follows .mixedOrders = true) (hac : acyc .any ops = true) (hd : dstOK ops = true) (hdp : depK ops = true) (hsel : Region.noSelect ops = true) (hin : insOK ops A.tmps.size = true) (hS : S w1.drew)
    (h : SeqFrom P ops S Q 0 A) : (Code.region id ops true).wp P Q A w1 := by
  obtain ⟨n, V, R, h1, hsz, hE⟩ := h
  simp only [Nat.zero_add] at h1 hsz hE
  have inA : ∀ i s, dstAt ops i = some s → s < A.tmps.size := fun i s hi => by
    have := List.all_eq_true.1 hin i (List.mem_range.2 (dst_lt hi))
    rw [hi] at this
    simpa using this
  refine wp_region_inv hm (seqInv P ops S Q A V n) ?_ hac ?_ ?_ ?_
  · rintro listed a w i o ⟨f, rfl, hcl, hI⟩ hun ho hdep K hK
    have hi : i < ops.size := (Array.getElem?_eq_some_iff.1 ho).1
    rw [arrOf_get, if_pos hi] at hun
    rw [arrOf_set] at hK
    have hdep2 : ∀ d ∈ o.after, Region.binds .any d = true → f d.on = true := fun d hd1 hd2 => by
      have := hdep d hd1 hd2
      rw [arrOf_get] at this
      split at this
      · exact this
      · cases this
    have hcl2 : ∀ k o', ops[k]? = some o' → (k == i || f k) = true → ∀ d ∈ o'.after, Region.binds .any d = true → (d.on == i || f d.on) = true := fun k o' hk hf d hdm hb => by
      by_cases e : k = i
      · subst e
        rw [ho] at hk
        obtain rfl := Option.some.inj hk
        rw [hdep2 d hdm hb, Bool.or_true]
      · have : f k = true := by
          rw [Bool.or_eq_true, beq_iff_eq] at hf
          exact hf.resolve_left e
        rw [hcl k o' hk this d hdm hb, Bool.or_true]
    have hbefore : n ≤ i → ∀ k, k < i → f k = true := fun hni k hk => by
      have := calmReach_done (f := fun k => k == i || f k) hcl2 12 i k (hE.c i hni hi k hk) (by simp)
      simp only [Bool.or_eq_true, beq_iff_eq] at this
      rcases this with h | h
      · omega
      · exact h
    rcases hI with ⟨⟨k0, hk0, hf0⟩, hlate, hFr, hKp, hSw⟩ | ⟨m, hm1, hf, hW⟩
    · have hin' : i < n := by
        rcases Nat.lt_or_ge i n with h | h
        · exact h
        · have := hbefore h k0 (by omega)
          rw [hf0] at this
          cases this
      have hal : SeesAlike ops o a (canonF ops 0 A V i) := by
        refine ⟨by rw [hFr.size, canonF_size], fun s hs => ?_⟩
        have hg := canonF_get A V hd hin s i (Nat.le_of_lt hi)
        by_cases hw : ∃ j, j < ops.size ∧ dstAt ops j = some s
        · obtain ⟨j, hj, hjs⟩ := hw
          have k1 := List.all_eq_true.1 hdp i (List.mem_range.2 hi)
          rw [ho] at k1
          have k2 := List.all_eq_true.1 (List.all_eq_true.1 k1 s hs) j (List.mem_range.2 hj)
          rw [hjs] at k2
          simp only [bne_self_eq_false, Bool.false_or, Bool.or_eq_true, Array.any_eq_true'] at k2
          rcases k2 with k2 | k2
          · obtain ⟨d, hd1, hd2⟩ := k2
            simp only [Bool.and_eq_true, beq_iff_eq] at hd2
            have hfj := hdep2 d hd1 hd2.2
            rw [hd2.1] at hfj
            have hlt : j < i := by
              have q1 := List.all_eq_true.1 hac i (List.mem_range.2 hi)
              rw [ho] at q1
              have q2 := Array.all_eq_true'.1 q1 d hd1
              rw [hd2.2, hd2.1] at q2
              simpa using q2
            rw [hFr.new j s hjs hfj, hg.2 j hlt hjs]
          · cases hoj : ops[j]? with
            | none => rw [hoj] at k2; cases k2
            | some oj =>
              rw [hoj] at k2
              simp only [Array.any_eq_true'] at k2
              obtain ⟨d, hd1, hd2⟩ := k2
              simp only [Bool.and_eq_true, beq_iff_eq] at hd2
              have hfj : f j = false := by
                cases hx : f j
                · rfl
                · have := hcl j oj hoj hx d hd1 hd2.2
                  rw [hd2.1, hun] at this
                  cases this
              have hlt : i < j := by
                have q1 := List.all_eq_true.1 hac j (List.mem_range.2 hj)
                rw [hoj] at q1
                have q2 := Array.all_eq_true'.1 q1 d hd1
                rw [hd2.2, hd2.1] at q2
                simpa using q2
              rw [hKp j s hjs hfj, hg.1 (fun k hk hks => by have := dst_apart hd hks hjs; omega)]
        · have hn : ∀ j, dstAt ops j ≠ some s := fun j hj => hw ⟨j, dst_lt hj, hj⟩
          rw [hFr.old s hn, hg.1 (fun j _ => hn j)]
      have hso : ∀ cs x, o.op ≠ .select cs x := fun cs x => Region.noSelect_spec hsel i o cs x ho
      rw [sees_wanted hal]
      have hex := sees_exec hal hso
      have hdi : ∀ k, o.dst = some k → k < (canonF ops 0 A V i).tmps.size := fun k hk => by
        rw [canonF_size]
        exact inA i k (by unfold dstAt; rw [ho]; exact hk)
      have hnext : ∀ v w', v = V i → S w' → K (a.put o.dst v) w' := fun v w' hv hS' => by
        have hF2 := hFr.put hd inA ho hun (V' := V) hv (fun _ _ => rfl)
        have hK2 := hKp.put hFr.size inA ho v hd
        have hlate2 : ∀ k, n ≤ k → (k == i || f k) = false := fun k hk => by
          rw [hlate k hk, Bool.or_false, beq_eq_false_iff_ne]
          omega
        refine hK _ _ ⟨_, rfl, hcl2, ?_⟩
        by_cases hall : ∃ k, k < n ∧ (k == i || f k) = false
        · exact .inl ⟨hall, hlate2, hF2, hK2, hS'⟩
        · have h1' : ∀ k, k < n → (k == i || f k) = true := fun k hk => by
            cases hx : (k == i || f k)
            · exact absurd ⟨k, hk, hx⟩ hall
            · rfl
          refine .inr ⟨0, by omega, fun k => ?_, ?_⟩
          · by_cases hk : k < n
            · rw [h1' k hk]; simp [hk]
            · rw [hlate2 k (by omega)]; simp [hk]
          · rw [Nat.add_zero, hE.r, canonF_eq A _ V n hsz hd hin hF2 hK2 h1' (fun k hk _ => hlate2 k hk)]
            exact hE.q w' hS'
      rcases h1 i o hin' ho with ⟨hw, hv, hne⟩ | ⟨hw, hc⟩
      · rw [hw, if_neg (by decide)]
        exact hnext undef w hv.symm hSw
      · rw [hw, if_pos rfl]
        rw [if_neg (by omega), if_pos (by unfold waits; simp)] at hc
        exact calm_move hc hex hdi hSw (fun w' ht => hnext (V i) w' rfl ht)
    · have hni : n + m ≤ i := by
        rw [hf i] at hun
        simpa using hun
      have him : i = n + m := by
        rcases Nat.lt_or_ge (n + m) i with h | h
        · have := hbefore (by omega) (n + m) h
          rw [hf] at this
          simp at this
        · omega
      have hdr : ops.toList.drop (n + m) = o :: ops.toList.drop (n + m + 1) := by
        rw [← him]
        have hl : i < ops.toList.length := by simpa using hi
        rw [List.drop_eq_getElem_cons hl]
        congr 1
        have := (Array.getElem?_eq_some_iff.1 ho).2
        simpa using this
      rw [hdr] at hW
      have hnext : ∀ a' w', wpSeq P ops Q (ops.toList.drop (n + m + 1)) a' w' → K a' w' := fun a' w' hh =>
        hK _ _ ⟨_, rfl, hcl2, .inr ⟨m + 1, by omega, fun k => by
          rw [hf k, him]
          by_cases hk : k = n + m
          · subst hk; simp
          · by_cases hk2 : k < n + m
            · simp [hk2]; omega
            · have : ¬ k < n + (m + 1) := by omega
              simp [hk, hk2, this], hh⟩⟩
      show if Region.wanted o (yielded ops a.tmps) = true then _ else _
      unfold wpSeq at hW
      split at hW
      · rename_i hw
        rw [if_pos hw]
        exact Oper.wp_mono hnext hW
      · rename_i hw
        rw [if_neg hw]
        exact hnext _ _ hW
  · rintro listed a w ⟨f, rfl, _⟩
    simp [arrOf]
  · rintro listed a w ⟨f, rfl, hcl, hI⟩ hall
    have hall2 : ∀ i, i < ops.size → f i = true := fun i hi => by
      have := hall i hi
      rw [arrOf_get, if_pos hi] at this
      exact this
    rcases hI with ⟨⟨k0, hk0, hf0⟩, _⟩ | ⟨m, hm1, hf, hW⟩
    · rw [hall2 k0 (by omega)] at hf0
      cases hf0
    · have : n + m = ops.size := by
        rcases Nat.lt_or_ge (n + m) ops.size with h | h
        · have := hall2 (n + m) h
          rw [hf] at this
          simp at this
        · omega
      rw [this, List.drop_of_length_le (by simp)] at hW
      exact hW
  · refine ⟨fun _ => false, arrOf_false _, fun i o _ h => (by cases h), ?_⟩
    by_cases hn : n = 0
    · subst hn
      refine .inr ⟨0, by omega, fun k => by simp, ?_⟩
      rw [Nat.add_zero, hE.r]
      exact hE.q _ hS
    · exact .inl ⟨⟨0, by omega, rfl⟩, fun _ _ => rfl, ⟨rfl, rfl, fun _ _ => rfl, fun i s _ h => by cases h⟩, fun _ _ _ _ => rfl, hS⟩
theorem seq_region {L : List Oper} {id : Nat} {A : Act} {w1 : World} (S : World → Prop) (hm : P.follows .mixedOrders = true) (hac : acyc .any L.toArray = true) (hd : dstOK L.toArray = true) (hdp : depK L.toArray = true) (hsel : Region.noSelect L.toArray = true) (hin : insOK L.toArray A.tmps.size = true) (hS : S w1.drew)
    (h : SeqL P L.toArray S Q 0 L A) : (Code.region id L.toArray true).wp P Q A w1 := seq_go S hm hac hd hdp hsel hin hS (h (by simp))
end
end Go.Proofs.YtneagomkohoceaaDoor
