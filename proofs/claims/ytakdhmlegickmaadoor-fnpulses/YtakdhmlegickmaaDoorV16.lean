/- Whoever gathers numbers that an iterator yields: what such a loop holds, and what it leaves as it was. -/
import Derived.Test.YtakdhmlegickmaaDoorVav
import Derived.RangeFuncBox
import Derived.RangeFuncCalls
import Derived.RangeFuncLeaves
import Derived.Shelf.Abstract
import Derived.Shelf.RegionOpen
import Derived.OwnWalkIn
import Derived.TacticsInMore
import Derived.Maps.OwnIn
import Derived.KernelRfl
import Derived.LoopNIn
import Derived.LoopIn
namespace Go.Proofs.YtakdhmlegickmaaDoor
open Go.ChangeShapes Go.WideShapes Go.ChangeAt Go.RowKit Go.Shelf
attribute [local go_sem] Oper.semAt_some
set_option linter.unusedVariables false
set_option linter.unusedSimpArgs false

/-- two worlds that agree on what a loop holds -/
structure SameOn (base : Nat) (fix : List Nat) (v : Value) (W W' : World) : Prop where
  os : W'.os = W.os
  tape : W'.tape = W.tape
  output : W'.output = W.output
  size : W.heap.size ≤ W'.heap.size
  low : ∀ b, b < base → W'.heap[b]? = W.heap[b]?
  fix : ∀ b, b ∈ fix → W'.heap[b]? = W.heap[b]?
  own : ∀ g, v.ownBlock = some g → W'.heap[g]? = W.heap[g]?
/-- what a round leaves as it was -/
structure Kp (fix : List Nat) (W : World) (v : Value) (W' : World) (v' : Value) : Prop where
  size : W.heap.size ≤ W'.heap.size
  same : ∀ b, b < W.heap.size → b ∉ fix → v.ownBlock ≠ some b → W'.heap[b]? = W.heap[b]?
  own : v'.ownBlock = v.ownBlock ∨ ∃ g, v'.ownBlock = some g ∧ W.heap.size ≤ g
theorem Kp.refl (fix : List Nat) (W : World) (v : Value) : Kp fix W v W v := ⟨Nat.le_refl _, fun _ _ _ _ => rfl, .inl rfl⟩
theorem Kp.ne {fix : List Nat} {W W' : World} {v v' : Value} (h : Kp fix W v W' v') {b : Nat} (hb : b < W.heap.size) (hn : v.ownBlock ≠ some b) : v'.ownBlock ≠ some b := by
  rcases h.own with e | ⟨g, e, hl⟩
  · rw [e]; exact hn
  · rw [e]
    intro e2
    simp at e2
    omega
theorem Kp.trans {fix : List Nat} {W W' W'' : World} {v v' v'' : Value} (h : Kp fix W v W' v') (k : Kp fix W' v' W'' v'') : Kp fix W v W'' v'' := by
  refine ⟨Nat.le_trans h.size k.size, fun b hb hf hn => ?_, ?_⟩
  · exact (k.same b (Nat.lt_of_lt_of_le hb h.size) hf (h.ne hb hn)).trans (h.same b hb hf hn)
  · rcases k.own with e | ⟨g, e, hl⟩
    · rw [e]; exact h.own
    · exact .inr ⟨g, e, Nat.le_trans h.size hl⟩
theorem Kp.below {fix : List Nat} {W W' : World} {v : Value} (hb : Below W.heap.size W W') : Kp fix W v W' v := ⟨hb.size, fun b h _ _ => hb.block b h, .inl rfl⟩
theorem Kp.blk {fix : List Nat} {W W' : World} {v v' : Value} (h : Kp fix W v W' v') {b : Nat} {A : Array Value} (hq : Blk W b A) (hf : b ∉ fix) (hn : v.ownBlock ≠ some b) : Blk W' b A := by
  have e := h.same b hq.lt hf hn
  obtain ⟨t, hq⟩ := hq
  exact ⟨t, e.trans hq⟩
theorem YieldAt.any {P : Program} {k m l : Nat} {args : Array Value} {W : World} {R : Ending → World → Prop} (h : YieldAt Fence.wide k P l args W R) : YieldAt Fence.wide m P l args W R := by
  obtain ⟨fn, tmps, assign, body, hy, hf, hr⟩ := h
  exact ⟨fn, tmps, assign, body, hy, hf, fun c cs _ => hr c cs (room_wide _)⟩
structure Sink (base L : Nat) (fix : List Nat) (T : Int → Prop) (N : Nat) (S : World → Value → List Int → Prop) : Prop where
  cong : ∀ {W W' : World} {v : Value} {acc : List Int}, S W v acc → SameOn base fix v W W' → S W' v acc
  lt : ∀ {W : World} {v : Value} {acc : List Int}, S W v acc → (∀ b, b ∈ fix → base ≤ b ∧ b < W.heap.size) ∧ (∀ g, v.ownBlock = some g → base ≤ g ∧ g < W.heap.size) ∧ base ≤ W.heap.size
  step : ∀ (m : Nat) {W : World} {v : Value} {acc : List Int} (x : Int), S W v acc → T x → acc.length < N → YieldAt Fence.wide m Tryd.prog L #[.int .i64 x] W fun e W' => e = .returned (.bool true) ∧ ∃ v', S W' v' (acc ++ [x]) ∧ Kp fix W v W' v'
theorem Sink.below {base L N : Nat} {fix : List Nat} {T : Int → Prop} {S : World → Value → List Int → Prop} (K : Sink base L fix T N S) {W W' : World} {v : Value} {acc : List Int} (h : S W v acc) (hb : Below W.heap.size W W') : S W' v acc :=
  K.cong h ⟨hb.os, hb.tape, hb.output, hb.size, fun b hl => hb.block b (Nat.lt_of_lt_of_le hl (K.lt h).2.2), fun b hm => hb.block b ((K.lt h).1 b hm).2, fun g e => hb.block g ((K.lt h).2.1 g e).2⟩
/-- a loop that gathers numbers: the list's box, the rounds' deferred calls, the record -/
structure Pj where
  w : World
  O : Nat
  DF : Nat
  L : Nat
  R : Loop
def Pj.bs (p : Pj) : List Nat := [p.O, p.DF, p.L]
structure Sj (p : Pj) (W : World) (cv : Value) (acc : List Int) : Prop where
  nd : p.O ≠ p.DF ∧ p.O ≠ p.L ∧ p.DF ≠ p.L
  far : p.w.heap.size ≤ p.O ∧ p.w.heap.size ≤ p.DF ∧ p.w.heap.size ≤ p.L
  o : Blk W p.O #[cv]
  df : W.heap[p.DF]? = some (.deferred (some []))
  lp : W.heap[p.L]? = some (.loop p.R)
  own : W.ownsRow p.w.heap.size 3 1 cv acc.length (acc.map (Value.int .i64))
  ne : ∀ g, cv.ownBlock = some g → g ∉ p.bs
  bel : Below p.w.heap.size p.w W
theorem Pj.mem (p : Pj) : p.O ∈ p.bs ∧ p.DF ∈ p.bs ∧ p.L ∈ p.bs := by simp [Pj.bs]
theorem own_sameV {W W' : World} {lo n z : Nat} {e : TypeId} {v : Value} {xs : List Value} (h : W.ownsRow lo e z v n xs) (hs : W.heap.size ≤ W'.heap.size) (hk : ∀ g, v.ownBlock = some g → W'.heap[g]? = W.heap[g]?) : W'.ownsRow lo e z v n xs := by
  obtain ⟨hl, ⟨rfl, h0⟩ | ⟨g, cap, cur, rfl, hb, hh, h1, h2, h3, h4⟩⟩ := h
  · exact ⟨hl, .inl ⟨rfl, h0⟩⟩
  · exact ⟨hl, .inr ⟨g, cap, cur, rfl, hb, (hk g rfl).trans hh, h1, h2, h3, h4⟩⟩
theorem Sj.lt {p : Pj} {W : World} {cv : Value} {acc : List Int} (h : Sj p W cv acc) : (∀ b, b ∈ p.bs → p.w.heap.size ≤ b ∧ b < W.heap.size) ∧ (∀ g, cv.ownBlock = some g → p.w.heap.size ≤ g ∧ g < W.heap.size) ∧ p.w.heap.size ≤ W.heap.size := by
  refine ⟨fun b hb => ?_, fun g e => h.own.lt g e, h.bel.size⟩
  have hb' : b ∈ [p.O, p.DF, p.L] := hb
  simp only [List.mem_cons, List.not_mem_nil, or_false] at hb'
  rcases hb' with rfl | rfl | rfl
  · exact ⟨h.far.1, h.o.lt⟩
  · exact ⟨h.far.2.1, (Array.getElem?_eq_some_iff.1 h.df).1⟩
  · exact ⟨h.far.2.2, (Array.getElem?_eq_some_iff.1 h.lp).1⟩
theorem Sj.cong {p : Pj} {W W' : World} {cv : Value} {acc : List Int} (h : Sj p W cv acc) (k : SameOn p.w.heap.size p.bs cv W W') : Sj p W' cv acc := by
  obtain ⟨m1, m2, m3⟩ := p.mem
  refine ⟨h.nd, h.far, ?_, (k.fix _ m2).trans h.df, (k.fix _ m3).trans h.lp, own_sameV h.own k.size k.own, h.ne, ?_⟩
  · obtain ⟨t, hq⟩ := h.o
    exact ⟨t, (k.fix _ m1).trans hq⟩
  · exact ⟨k.os.trans h.bel.os, k.tape.trans h.bel.tape, k.output.trans h.bel.output, Nat.le_trans h.bel.size k.size, fun b hb => (k.low b hb).trans (h.bel.block b hb)⟩
theorem Sj.form {p : Pj} {W : World} {cv : Value} {acc : List Int} (h : Sj p W cv acc) : ∃ oa cap, cv = .slice oa acc.length cap := by
  obtain ⟨_, ⟨h1, h0⟩ | ⟨g, cap, _, h1, _⟩⟩ := h.own
  · exact ⟨none, 0, by rw [h1, h0]⟩
  · exact ⟨_, _, h1⟩
theorem infoI : (Tryd.prog.info? 3).map (fun i => (i.zero, i.size, i.bytes)) = some (some (.int .i64 0), 1, 8) := by kernel_rfl
end Go.Proofs.YtakdhmlegickmaaDoor

/- The bits of a text, one by one to whoever asks for them: the program's iterator. -/
namespace Go.Proofs.YtakdhmlegickmaaDoor
open Go.ChangeShapes Go.WideShapes Go.ChangeAt Go.RowKit Go.Shelf
attribute [local go_sem] Oper.semAt_some
set_option linter.unusedVariables false
set_option linter.unusedSimpArgs false

theorem eachBit_impl (t : ByteArray) (w : World) : Calls Tryd.prog 68 #[.string t] w fun e w' => e = .returned (.func (.func 87) #[] #[.pointer (some ⟨w.heap.size, 0, none⟩)]) ∧ w' = w.alloc (.cells #[.string t] 9) := by
  go_enter Tryd.func68, Tryd.ntmps68
  go_wp2
  go_ret
  exact ⟨rfl, rfl⟩
set_option maxRecDepth 100000 in
set_option maxHeartbeats 4000000 in
theorem bitit_impl {base L N : Nat} {fix : List Nat} {T : Int → Prop} {S : World → Value → List Int → Prop} (K : Sink base L fix T N S) (hT : ∀ b : Nat, b < 2 → T b) (t : ByteArray) (BT : Nat) (W : World) (v : Value) (pre : List Int) (h : S W v pre) (hq : Blk W BT #[.string t]) (hf : BT ∉ fix) (hn : v.ownBlock ≠ some BT) (ht : t.size ≤ 400) (hp : pre.length + 8 * t.size ≤ N) (d : Nat) :
    CallsIn Fence.wide (d + 2) Tryd.prog 87 #[.func (.yield L) #[] #[], .pointer (some ⟨BT, 0, none⟩)] W fun e W' => e = .returned (.tuple #[]) ∧ ∃ v', S W' v' (pre ++ bitL t (8 * t.size)) ∧ Kp fix W v W' v' := by
  have hlen := hid (bitL_len t)
  have hsn := hid (bitL_snoc t)
  have h0 : Hid (bitL t 0 = []) := rfl
  generalize hB : bitL t = B at *
  clear hB
  have x0 := hq.cell
  have l0 := hq.lt
  replace h := hid h
  replace hq := hid hq
  replace hn := hid hn
  replace hf := hid hf
  replace K := hid K
  replace hT := hid hT
  refine callsIn_of_wp Tryd.func87 rfl trivial ?_ rfl
  simp only [Tryd.ntmps87, List.size_toArray, List.length_cons, List.length_nil, Nat.reduceAdd, Nat.reduceSub, Array.replicate_succ, Array.replicate_zero, List.push_toArray, List.append_toArray, List.nil_append, List.cons_append]
  gi_wp2
  clear x0 l0
  gi_loopw [7] (fun i wr => ∃ (k : Nat) (v' : Value), k ≤ t.size ∧ i = .int .i64 k ∧ S wr v' (pre ++ B (8 * k)) ∧ Kp fix W v wr v') (fun i _ => t.size - (intOf i).toNat)
  case atStart => exact ⟨0, v, by omega, rfl, by rw [Nat.mul_zero, h0.out, List.append_nil]; exact h.out, Kp.refl _ _ _⟩
  case round =>
    obtain ⟨k, v1, hk, rfl, hS, hK⟩ := hrel
    clear h
    by_cases hlt : k < t.size
    · replace hS := hid hS
      replace hK := hid hK
      gi_wp2
      gi_loopw [4] (fun j wr => ∃ (m : Nat) (v' : Value), m ≤ 8 ∧ j = .int .i64 (7 - (m : Int)) ∧ S wr v' (pre ++ B (8 * k + m)) ∧ Kp fix W v wr v') (fun j _ => ((intOf j) + 1).toNat)
      case atStart => exact ⟨0, v1, by omega, rfl, hS.out, hK.out⟩
      case round =>
        obtain ⟨m, v2, hm, rfl, hS1, hK1⟩ := hrel
        clear hS hK
        by_cases hlt2 : m < 8
        · obtain ⟨q, hq', hq8⟩ : ∃ q : Nat, (7 : Int) - m = (q : Int) ∧ m = 7 - q ∧ q < 8 := ⟨7 - m, by omega, by omega, by omega⟩
          have hbw := bit_walk t k q hq8.2
          have hx := run_idx t k k rfl hlt
          have hby := byt_bd t k
          have hsn2 := hid (hsn.out (8 * k + m))
          have hE : bitN t (8 * k + m) = bitN t (8 * k + (7 - q)) := by rw [hq8.1]
          rw [hE] at hsn2
          have hTX := hT.out _ (bitN_lt t (8 * k + (7 - q)))
          generalize bitN t (8 * k + (7 - q)) = X at *
          clear hE
          have hL1 : (pre ++ B (8 * k + m)).length < N := by rw [List.length_append, hlen.out]; omega
          obtain ⟨fn, tmps, assign, body, hy, hR⟩ := K.out.step (d + 1) (X : Int) hS1 hTX hL1
          have hqb := hK1.blk hq.out hf.out hn.out
          have x1 := hqb.cell
          have l1 := hqb.lt
          replace hR := hid hR
          replace hK1 := hid hK1
          have hq7 : (7 : Int) - ((m + 1 : Nat) : Int) = (q : Int) - 1 := by omega
          clear hS1 hqb hL1 hTX
          rw [hq']
          gi_wp2
          refine hR.out.mono ?_
          rintro e W3 ⟨rfl, v3, hS3, hK3⟩
          have hK4 := hid (hK1.out.trans hK3)
          have hS4 : Hid (S W3 v3 (pre ++ B (8 * k + (m + 1)))) := by
            have e1 : 8 * k + (m + 1) = 8 * k + m + 1 := by omega
            rw [e1, hsn2.out, ← List.append_assoc]
            exact hS3
          clear hS3 hK3 hy hR x1 hK1
          gi_wp2
          go_roundw
          case rel => exact ⟨m + 1, v3, by omega, by rw [hq7], hS4.out, hK4.out⟩
          case measure => simp [intOf] <;> omega
        · obtain rfl : m = 8 := by omega
          replace hS1 := hid hS1
          replace hK1 := hid hK1
          gi_wp2
          go_roundw
          case rel => exact ⟨k + 1, v2, by omega, by go_num, by rw [Nat.mul_add]; exact hS1.out, hK1.out⟩
          case measure => simp [intOf] <;> omega
    · obtain rfl : k = t.size := by omega
      replace hS := hid hS
      replace hK := hid hK
      gi_wp2
      exact bodyPost_end (v := .tuple #[]) (by simp [results, Tryd.results87]) rfl ⟨rfl, v1, hS.out, hK.out⟩
end Go.Proofs.YtakdhmlegickmaaDoor
