/- The runs of a text, one by one to whoever gathers what is told of them: the program's iterator. -/
import Derived.Test.YtghcagibdcblnaaGreatDoorLjf
import Derived.Test.YtghcagibdcblnaaGreatDoorF28
import Derived.Test.YtghcagibdcblnaaGreatDoorF07
import Derived.OrdersIn
import Derived.Test.YtghcagibdcblnaaGreatDoorF03
import Derived.Maps.AppendAt
import Derived.KernelRfl
import Derived.Maps.OwnIn
import Derived.Lib.AppendZeros
namespace Go.Proofs.YtghcagibdcblnaaGreatDoor
open Go.ChangeShapes Go.WideShapes Go.ChangeAt Go.RowKit Go.Shelf
attribute [local go_sem] Oper.semAt_some
set_option linter.unusedVariables false
set_option linter.unusedSimpArgs false

structure SinkR (base L : Nat) (fix : List Nat) (S : World → Value → List Int → Prop) : Prop where
  cong : ∀ {W W' : World} {v : Value} {acc : List Int}, S W v acc → SameOn base fix v W W' → S W' v acc
  lt : ∀ {W : World} {v : Value} {acc : List Int}, S W v acc → (∀ b, b ∈ fix → base ≤ b ∧ b < W.heap.size) ∧ (∀ g, v.ownBlock = some g → base ≤ g ∧ g < W.heap.size) ∧ base ≤ W.heap.size
  step : ∀ (m : Nat) {W : World} {v : Value} {acc : List Int} (b : Int) (n : Nat), S W v acc → 1 ≤ n → n ≤ 255 → acc.length ≤ 16384 → YieldAt Fence.wide m Tryz.prog L #[rnV b n] W fun e W' => e = .returned (.bool true) ∧ ∃ v', S W' v' (acc ++ pkL b n) ∧ Kp fix W v W' v'
theorem SinkR.below {base L : Nat} {fix : List Nat} {S : World → Value → List Int → Prop} (K : SinkR base L fix S) {W W' : World} {v : Value} {acc : List Int} (h : S W v acc) (hb : Below W.heap.size W W') : S W' v acc :=
  K.cong h ⟨hb.os, hb.tape, hb.output, hb.size, fun b hl => hb.block b (Nat.lt_of_lt_of_le hl (K.lt h).2.2), fun b hm => hb.block b ((K.lt h).1 b hm).2, fun g e => hb.block g ((K.lt h).2.1 g e).2⟩
theorem runsOf_impl (t : ByteArray) (w : World) : Calls Tryz.prog 83 #[.string t] w fun e w' => e = .returned (.func (.func 94) #[] #[.pointer (some ⟨w.heap.size, 0, none⟩)]) ∧ w' = w.alloc (.cells #[.string t] 9) := by
  go_enter Tryz.func83, Tryz.ntmps83
  go_wp2
  go_ret
  exact ⟨rfl, rfl⟩
def lenV : Value → Nat | .slice _ n _ => n | _ => 0
/-- what is left of a row -/
theorem left_slice (B o len c n : Nat) (hn : n ≤ len) (hc : len ≤ c) : ∃ o', (∀ W, (Instr.slice 22 (.slice (some ⟨B, o, none⟩) len c) (some (.int .i64 (n : Int))) none none).run Tryz.prog W = .ok (.slice (some ⟨B, o', none⟩) (len - n) (c - n)) W) ∧ (n < len → o' = o + n) := by
  refine ⟨if c = n then o else o + n, fun W => ?_, fun h => by rw [if_neg (by omega)]⟩
  have ht' : Tryz.prog.underlying 22 = some (.slice (Tryz.prog.elem 22)) := by simp [Program.elem, Tryz.underlying22]
  rw [run_slice_l W 22 _ _ _ ht' .i64 _ (by omega) (by omega)]
  have hs : ∀ w, (Go.sizeOf (Tryz.prog.elem 22)).run Tryz.prog w = .ok 1 w := by
    intro w
    obtain ⟨i, hi, hsz⟩ := Option.map_eq_some_iff.1 infoB8
    have he : Tryz.prog.elem 22 = 5 := by simp [Program.elem, Tryz.underlying22]
    rw [he]
    simp [Go.sizeOf, typeInfo, hi, hsz]
  rw [hs]
  by_cases h0 : c = n
  · simp [Result.andThen, sliced, h0]
  · by_cases h1 : n = 0
    · subst h1; simp [Result.andThen, sliced, Addr.add, h0]
    · simp [Result.andThen, sliced, Addr.add, h0, h1]
set_option maxRecDepth 100000 in
set_option maxHeartbeats 4000000 in
theorem runit_impl {base L : Nat} {fix : List Nat} {S : World → Value → List Int → Prop} (K : SinkR base L fix S) (t : ByteArray) (BT : Nat) (W : World) (v : Value) (h : S W v []) (hq : Blk W BT #[.string t]) (ht : t.size ≤ 4096) (d : Nat) :
    CallsIn Fence.wide (d + 2) Tryz.prog 94 #[.func (.yield L) #[] #[], .pointer (some ⟨BT, 0, none⟩)] W fun e W' => e = .returned (.tuple #[]) ∧ ∃ v', S W' v' (cmpE (bts t)) ∧ Kp fix W v W' v' := by
  obtain ⟨cp, W2, hcv, hcp, hct, hsz2, hb2⟩ := convT t W
  have hS2 := hid (K.below h hb2)
  obtain ⟨lt1, lt2, lt3⟩ := K.lt h
  have hBf : Hid (W.heap.size ∉ fix ∧ v.ownBlock ≠ some W.heap.size ∧ W.heap.size < W2.heap.size) := ⟨fun hm => by have := (lt1 _ hm).2; omega, fun e => by have := (lt2 _ e).2; omega, by omega⟩
  have hKb := hid (Kp.below (fix := fix) (v := v) hb2)
  have hrn := hid (fun i fl (hi : i < t.size) hfl => run_next (t := t) (i := i) (fl := fl) hi hfl)
  have hrf := hid (fun i m fl (hi : i < t.size) hm => run_found (t := t) (i := i) (m := m) (fl := fl) hi hm)
  have hr0 : Hid ([] ++ restR t 0 false = cmpE (bts t)) := by
    unfold restR
    simp [Hid]
  have hre : Hid (∀ fl, restR t t.size fl = []) := by
    intro fl
    unfold restR
    rw [List.drop_eq_nil_of_le (by rw [bts_len]; omega), List.drop_eq_nil_of_le (by rw [bts_len]; omega)]
    cases fl <;> rfl
  generalize hCE : cmpE (bts t) = CE at *
  clear hCE lt1 lt2 lt3 h
  have x0 := hq.cell
  have l0 := hq.lt
  replace hct := hid hct
  replace hb2 := hid hb2
  replace K := hid K
  have hcp2 := hid hcp
  clear hcp hsz2 hq
  refine callsIn_of_wp Tryz.func94 rfl trivial ?_ rfl
  simp only [Tryz.ntmps94, List.size_toArray, List.length_cons, List.length_nil, Nat.reduceAdd, Nat.reduceSub, Array.replicate_succ, Array.replicate_zero, List.push_toArray, List.append_toArray, List.nil_append, List.cons_append]
  gi_wp2
  clear x0 l0 hcv
  gi_loopw [3, 4] (fun mv lv wr => ∃ (i : Nat) (fl : Bool) (o c : Nat) (v' : Value) (acc : List Int), i ≤ t.size ∧ mv = .int .i64 (moN fl : Int) ∧ lv = .slice (some ⟨W.heap.size, o, none⟩) (t.size - i) c ∧ t.size - i ≤ c ∧ (i < t.size → o = i) ∧ (fl = true → i < t.size → byt t i ≠ 237) ∧ acc ++ restR t i fl = CE ∧ acc.length ≤ 4 * i ∧ S wr v' acc ∧ Kp fix W2 v wr v') (fun _ lv _ => lenV lv)
  case atStart => exact ⟨0, false, 0, cp, v, [], by omega, rfl, rfl, hcp2.out, fun _ => rfl, fun h => (by cases h), hr0.out, by simp, hS2.out, Kp.refl _ _ _⟩
  case round =>
    obtain ⟨i, fl, o, c, v1, acc, hi, rfl, rfl, hc, ho, hfl, hacc, hal, hS, hK⟩ := hrel
    by_cases hlt : i < t.size
    · obtain rfl := ho hlt
      obtain ⟨n1, n2, n3, n4, n5⟩ := hrn.out o fl hlt (fun e => hfl e hlt)
      obtain ⟨m, hm⟩ : ∃ m, min (moN fl) (t.size - o) = m := ⟨_, rfl⟩
      have hfound := hrf.out o m fl hlt hm.symm
      have hmo : moN fl = 1 ∨ moN fl = 255 := by cases fl <;> simp [moN]
      have hctr : CellsT wr W.heap.size t := hct.out.same (hK.same _ hBf.out.2.2 hBf.out.1 hBf.out.2.1)
      have hBlt : W.heap.size < wr.heap.size := by have := hK.size; have := hBf.out.2.2; omega
      have hxx : ∀ X, Below wr.heap.size wr X → X.cell? ⟨W.heap.size, o, none⟩ = some (.int .u8 (byt t o)) := fun X hX => (hctr.same (hX.block _ hBlt)) o hlt
      have hcl : ∀ X, Below wr.heap.size wr X → Calls Tryz.prog 95 #[.slice (some ⟨W.heap.size, o, none⟩) m c] X fun r w' => r = .returned (.int .i64 (runN t o fl : Nat)) ∧ ∃ k, w' = X.drewN k := fun X hX => by
        have := alike_impl t o m W.heap.size c X (hctr.same (hX.block _ hBlt)) (by omega) (by omega) (by omega)
        rw [hfound] at this
        exact this
      have hacc2 : Hid ((acc ++ pkL (byt t o) (runN t o fl)) ++ restR t (o + runN t o fl) (lnB (byt t o) (runN t o fl)) = CE) := by
        unfold Hid
        rw [List.append_assoc, ← hacc, n1]
        rfl
      have hfl2 : Hid (lnB (byt t o) (runN t o fl) = true → o + runN t o fl < t.size → byt t (o + runN t o fl) ≠ 237) := n2
      have hpl := pkL_len (byt t o) n3
      generalize hN : runN t o fl = n at *
      generalize hFL2 : lnB (byt t o) n = fl2 at *
      generalize hb : byt t o = b at *
      have hLM := hid (fun X => islone_impl b n X)
      rw [hFL2] at hLM
      obtain ⟨len, hlen⟩ : ∃ len, t.size - o = len := ⟨_, rfl⟩
      obtain ⟨o2, hsl, ho2⟩ := left_slice W.heap.size o len c n (by omega) (by omega)
      rw [hlen] at hc hm ⊢
      generalize hmo2 : moN fl = mo at *
      have hmn : min (mo : Int) (len : Int) = (m : Int) := by omega
      replace ho2 := hid ho2
      have hlen2 : Hid (t.size - o = len) := hlen
      have hl0 : 0 < len := by omega
      have hacl : Hid (acc.length ≤ 16384) := by unfold Hid; omega
      have hmo3 := hid hmo2
      have hlt2 := hid hlt
      have hal2 : Hid ((acc ++ pkL b n).length ≤ 4 * (o + n)) := by unfold Hid; rw [List.length_append]; omega
      replace hfl := hid hfl
      replace hS := hid hS
      replace hK := hid hK
      replace hxx := hid hxx
      replace hcl := hid hcl
      have hmle : m ≤ len := by omega
      clear hctr n1 n2 hfound hmo hN hb hacc hal hfl hi hlen hlt hmo2 hm hpl
      gi_wp2
      refine wpIn_wide.2 ?_
      refine lj_reg _ wr _ W.heap.size o c len mo m b n rfl rfl hxx.out hcl.out (by omega) (by omega) (by have := hlen2.out; omega) hmn hmle (by simp) ?_
      rintro w3 e ⟨hb3, he3, q3⟩
      simp only [putsA, Act.put, List.setIfInBounds_toArray, List.set_cons_zero, List.set_cons_succ]
      obtain ⟨lt1, lt2, lt3⟩ := K.out.lt hS.out
      have hS3 := K.out.below hS.out hb3
      obtain ⟨fn, tmps, assign, body, hy, hR⟩ := K.out.step (d + 1) b n hS3 n3 n4 hacl.out
      have hef : Hid (e ∉ fix ∧ v1.ownBlock ≠ some e) := ⟨fun hm => by have := (lt1 _ hm).2; omega, fun e2 => by have := (lt2 _ e2).2; omega⟩
      have hK3 := hid (hK.out.trans (Kp.below (fix := fix) (v := v1) hb3))
      have x3 := q3.cell
      have y3 := q3.lt
      replace q3 := hid q3
      replace hR := hid hR
      replace hb3 := hid hb3
      replace he3 := hid he3
      clear lt1 lt2 lt3 hS3 hxx hcl hK hS hmn
      gi_wp2
      refine hR.out.mono ?_
      rintro e4 W4 ⟨rfl, v4, hS4, hK4⟩
      have q4 := hK4.blk q3.out hef.out.1 hef.out.2
      have hK5 := hid (hK3.out.trans hK4)
      have hLM4 := hid (fun X (hX : Below W4.heap.size W4 X) => hLM.out X)
      have hl4 := (K.out.lt hS4)
      have x4 := q4.cell
      have y4 := q4.lt
      replace hS4 := hid hS4
      clear x3 y3 hK4 hy hR hK3 hl4
      gi_wp2_with fail
      refine ⟨trivial, ?_⟩
      refine (callsIn_wide.2 (hLM.out _)).mono ?_
      rintro e5 W5 ⟨rfl, hb5⟩
      have hS5 := hid (K.out.below hS4.out hb5)
      have hK6 := hid (hK5.out.trans (Kp.below (fix := fix) (v := v4) hb5))
      clear hb5 hS4 hK5 x4 y4 q4 hLM hLM4 hsl
      have hn5' := hid n5
      have hrel2 : Hid (∀ (mv : Int), mv = (moN fl2 : Int) → ∃ (i : Nat) (fl : Bool) (o' c' : Nat) (v' : Value) (acc : List Int), i ≤ t.size ∧ Value.int .i64 mv = .int .i64 (moN fl : Int) ∧ Value.slice (some ⟨W.heap.size, o2, none⟩) (len - n) (c - n) = .slice (some ⟨W.heap.size, o', none⟩) (t.size - i) c' ∧ t.size - i ≤ c' ∧ (i < t.size → o' = i) ∧ (fl = true → i < t.size → byt t i ≠ 237) ∧ acc ++ restR t i fl = CE ∧ acc.length ≤ 4 * i ∧ S W5 v' acc ∧ Kp fix W2 v W5 v') := by
        intro mv hmv
        have e1 := hlen2.out
        have e2 : t.size - (o + n) = len - n := by omega
        exact ⟨o + n, fl2, o2, c - n, v4, acc ++ pkL b n, n5, by rw [hmv], by rw [e2], by omega, fun h => ho2.out (by omega), hfl2.out, hacc2.out, hal2.out, hS5.out, hK6.out⟩
      clear hS5 hK6 hfl2 hacc2 hal2 ho2 n5
      cases fl2
      · gi_wp2
        go_roundw
        case rel => exact hrel2.out 255 rfl
        case measure => simp [lenV]; omega
      · gi_wp2
        go_roundw
        case rel => exact hrel2.out 1 rfl
        case measure => simp [lenV]; omega
    · obtain rfl : i = t.size := by omega
      have hz : t.size - t.size = 0 := by omega
      have hfin : Hid (acc = CE) := by
        unfold Hid
        rw [← hacc, hre.out, List.append_nil]
      replace hS := hid hS
      replace hK := hid hK
      rw [hz] at hc ⊢
      clear hacc ho
      gi_wp2
      exact bodyPost_end (v := .tuple #[]) (by simp [results, Tryz.results94]) rfl ⟨rfl, v1, by rw [← hfin.out]; exact hS.out, hKb.out.trans hK.out⟩
end Go.Proofs.YtghcagibdcblnaaGreatDoor

/- A region that draws its order, in a round of a loop over a function: its slots are kept by name. -/
namespace Go.Proofs.YtghcagibdcblnaaGreatDoor
open Go.ChangeShapes Go.WideShapes Go.ChangeAt Go.RowKit
set_option linter.unusedVariables false

section
variable {P : Program} {ops : Array Oper} {Q : Exit → Act → World → Prop} {md : Region.Mode}
def isDefer : Op → Bool
  | .defer _ => true
  | _ => false
def noDefer (ops : Array Oper) : Bool := ops.all fun o => !isDefer o.op
theorem noDefer_at {i : Nat} {o : Oper} (h : noDefer ops = true) (ho : ops[i]? = some o) : ∀ c, o.op ≠ .defer c := by
  intro c e
  have hm : o ∈ ops := Array.mem_of_getElem? ho
  have := Array.all_eq_true'.1 h o hm
  rw [e] at this
  cases this
theorem op_round {l n : Nat} {o : Oper} {a : Act} {w : World} {K : Act → World → Prop} (hd : ∀ c, o.op ≠ .defer c) (h : Oper.wp P o a w K Q) : o.wpIn (Fence.wide.inRound l) n P a w K Q := by
  unfold Oper.wpIn
  refine ⟨fun _ _ => trivial, ?_⟩
  rw [show (Fence.wide.inRound l).round = some l from rfl, Oper.semAt_some l _ _ hd]
  unfold Oper.wp at h
  generalize (execOp a.eval o).run P w = r at *
  cases r with
  | ok x w' =>
    cases x with
    | value v => exact h
    | skip => exact h
    | defer d => exact h
    | enter f args => exact ⟨fun e => (by cases e), CallsIn.inRound l (callsIn_wide.2 h)⟩
    | row row args => 
      refine ⟨fun e => (by cases e), fun c cs _ => ?_⟩
      obtain ⟨v, w', r, s⟩ := h c cs
      exact ⟨v, w', r, stepsIn_wide.2 s⟩
    | round l f tmps assign body => exact h.elim
    | _ => exact h.elim
  | halt x w' =>
    cases x <;> exact h
theorem any_invR {l n : Nat} (hnd : noDefer ops = true) (I : Array Bool → Act → World → Prop)
    (step : ∀ (listed : Array Bool) (a : Act) (w : World) (i : Nat) (o : Oper), I listed a w → listed.getD i true = false → ops[i]? = some o → (∀ e ∈ o.after, Region.binds md e = true → listed.getD e.on false = true) →
      ∀ K' : Act → World → Prop, (∀ a' w', I (listed.setIfInBounds i true) a' w' → K' a' w') → if Region.wanted o (yielded ops a.tmps) = true then Oper.wp P o a w K' Q else K' (a.put o.dst undef) w)
    (done : ∀ (listed : Array Bool) (a : Act) (w : World), I listed a w → Region.ready md ops listed = [] → Q .normal a w) :
    ∀ (fuel : Nat) (listed : Array Bool) (a : Act) (w : World), I listed a w → listed.toList.count false ≤ fuel → wpAnyIn (Fence.wide.inRound l) n P md ops Q fuel listed a w := by
  intro fuel
  induction fuel with
  | zero =>
    intro listed a w hI hc
    have hr : Region.ready md ops listed = [] := by
      rw [List.eq_nil_iff_forall_not_mem]
      intro j hj
      have h1 := (mem_ready.1 hj).1
      rw [getD_list, count_zero _ _ (by omega)] at h1
      cases h1
    exact ⟨hr, done _ _ _ hI hr⟩
  | succ fuel ih =>
    intro listed a w hI hc
    refine ⟨fun hr => done _ _ _ hI hr, fun i hi => ?_⟩
    obtain ⟨h1, o, ho, hd⟩ := mem_ready.1 hi
    have hst := step listed a w i o hI h1 ho hd (wpAnyIn (Fence.wide.inRound l) n P md ops Q fuel (listed.setIfInBounds i true)) (fun a' w' hI' => ih _ a' w' hI' ?_)
    · unfold wpOpIn
      rw [ho]
      dsimp only
      split
      · rename_i hw
        rw [if_pos hw] at hst
        exact op_round (noDefer_at hnd ho) hst
      · rename_i hw
        rw [if_neg hw] at hst
        exact ⟨fun _ _ => trivial, hst⟩
    rw [getD_list] at h1
    have := count_set listed.toList i h1
    rw [Array.toList_setIfInBounds]
    omega
theorem wp_region_invR {l n : Nat} (hnd : noDefer ops = true) {id : Nat} {a : Act} {w : World} (hm : P.follows .mixedOrders = true) (I : Array Bool → Act → World → Prop)
    (step : ∀ (listed : Array Bool) (a : Act) (w : World) (i : Nat) (o : Oper), I listed a w → listed.getD i true = false → ops[i]? = some o → (∀ e ∈ o.after, Region.binds .any e = true → listed.getD e.on false = true) →
      ∀ K' : Act → World → Prop, (∀ a' w', I (listed.setIfInBounds i true) a' w' → K' a' w') → if Region.wanted o (yielded ops a.tmps) = true then Oper.wp P o a w K' Q else K' (a.put o.dst undef) w)
    (hac : acyc .any ops = true) (size : ∀ listed a w, I listed a w → listed.size = ops.size)
    (done : ∀ (listed : Array Bool) (a : Act) (w : World), I listed a w → (∀ i, i < ops.size → listed.getD i false = true) → Q .normal a w)
    (start : I (Array.replicate ops.size false) a { w with drawn := w.drawn + 1 }) : (Code.region id ops true).wpIn (Fence.wide.inRound l) n P Q a w :=
  wpIn_region_any hm (any_invR hnd I step (fun l a w hI hr => done l a w hI (ready_nil_all hac (size l a w hI) hr)) _ _ _ _ start (by
    have : (Array.replicate ops.size false).toList.length = ops.size := by simp
    exact Nat.le_trans List.count_le_length (by omega)))
end
theorem wp_region_slotsR {l n : Nat} {P : Program} {ops : Array Oper} {Q : Exit → Act → World → Prop} {id : Nat} {A : Act} {w1 : World} {E : Type} (V : Nat → E → Value) (J : (Nat → Bool) → E → World → Prop) (hnd : noDefer ops = true) (hm : P.follows .mixedOrders = true) (hac : acyc .any ops = true) (hd : dstOK ops = true) (hin : ∀ i s, dstAt ops i = some s → s < A.tmps.size)
    (step : ∀ (f : Nat → Bool) (e : E) (a : Act) (w : World) (i : Nat) (o : Oper), i < ops.size → ops[i]? = some o → f i = false → (∀ d ∈ o.after, Region.binds .any d = true → f d.on = true) → J f e w → Fr ops A f (fun j => V j e) a →
      ∀ K : Act → World → Prop, (∀ v e' w', v = V i e' → (∀ j, f j = true → V j e' = V j e) → J (fun j => j == i || f j) e' w' → K (a.put o.dst v) w') → if Region.wanted o (yielded ops a.tmps) = true then Oper.wp P o a w K Q else K (a.put o.dst undef) w)
    (e0 : E) (start : J (fun _ => false) e0 w1.drew)
    (done : ∀ (f : Nat → Bool) (e : E) (a : Act) (w : World), (∀ i, i < ops.size → f i = true) → J f e w → Fr ops A f (fun j => V j e) a → Q .normal a w) :
    (Code.region id ops true).wpIn (Fence.wide.inRound l) n P Q A w1 := by
  refine wp_region_invR hnd hm (fun listed a w => ∃ f e, listed = arrOf ops.size f ∧ Fr ops A f (fun j => V j e) a ∧ J f e w) ?_ hac ?_ ?_ ?_
  · rintro listed a w i o ⟨f, e, rfl, hF, hJ⟩ hun ho hdep K hK
    have hi : i < ops.size := (Array.getElem?_eq_some_iff.1 ho).1
    rw [arrOf_get, if_pos hi] at hun
    refine step f e a w i o hi ho hun (fun d hd1 hd2 => ?_) hJ hF K (fun v e' w' hv hV hJ' => hK _ _ ⟨_, e', arrOf_set _ _ _, hF.put hd hin ho hun (V' := fun j => V j e') hv hV, hJ'⟩)
    have := hdep d hd1 hd2
    rw [arrOf_get] at this
    split at this
    · exact this
    · cases this
  · rintro listed a w ⟨f, e, rfl, _⟩
    simp [arrOf]
  · rintro listed a w ⟨f, e, rfl, hF, hJ⟩ hall
    refine done f e a w (fun i hi => ?_) hJ hF
    have := hall i hi
    rw [arrOf_get, if_pos hi] at this
    exact this
  · exact ⟨fun _ => false, e0, arrOf_false _, ⟨rfl, rfl, fun _ _ => rfl, fun i s _ h => by cases h⟩, start⟩
end Go.Proofs.YtghcagibdcblnaaGreatDoor

/- Rows of bytes that grow: small facts. -/
namespace Go.Proofs.YtghcagibdcblnaaGreatDoor
open Go.ChangeShapes Go.WideShapes Go.ChangeAt Go.RowKit
set_option linter.unusedVariables false

theorem infoB : (Tryz.prog.info? 5).map (fun i => (i.zero, i.size, i.bytes)) = some (some (.int .u8 0), 1, 1) := by kernel_rfl
theorem own_belowL {W W' : World} {lo n z : Nat} {e : TypeId} {v : Value} {xs : List Value} (h : W.ownsRow lo e z v n xs) (hb : Below W.heap.size W W') : W'.ownsRow lo e z v n xs := by
  obtain ⟨hl, ⟨rfl, h0⟩ | ⟨g, cap, cur, rfl, hbb, hh, h1, h2, h3, h4⟩⟩ := h
  · exact ⟨hl, .inl ⟨rfl, h0⟩⟩
  · exact ⟨hl, .inr ⟨g, cap, cur, rfl, hbb, (hb.block g (Array.getElem?_eq_some_iff.1 hh).1).trans hh, h1, h2, h3, h4⟩⟩
theorem ownsRow_form {W : World} {lo n z : Nat} {e : TypeId} {v : Value} {xs : List Value} (h : W.ownsRow lo e z v n xs) : ∃ g c, v = .slice g n c := by
  obtain ⟨_, ⟨h1, h0⟩ | ⟨g, cap, _, h1, _⟩⟩ := h
  · exact ⟨none, 0, by rw [h1, h0]⟩
  · exact ⟨_, _, h1⟩
end Go.Proofs.YtghcagibdcblnaaGreatDoor
