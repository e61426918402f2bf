/- Whoever gathers numbers that an iterator yields: what such a loop holds, and what it leaves as it was. -/
import Derived.Test.YtohnddjijedfkaaDoorVae
import Derived.RangeFuncBox
import Derived.RangeFuncCalls
import Derived.RangeFuncLeaves
import Derived.Shelf.Abstract
import Derived.Shelf.RegionOpen
import Derived.OwnWalkIn
import Derived.TacticsInMore
import Derived.Maps.OwnIn
import Derived.KernelRfl
import Derived.LoopNIn
import Derived.LoopIn
namespace Go.Proofs.YtohnddjijedfkaaDoor
open Go.ChangeShapes Go.WideShapes Go.ChangeAt Go.RowKit Go.Shelf
attribute [local go_sem] Oper.semAt_some
set_option linter.unusedVariables false
set_option linter.unusedSimpArgs false

/-- two worlds that agree on what a loop holds -/
structure SameOn (base : Nat) (fix : List Nat) (v : Value) (W W' : World) : Prop where
  os : W'.os = W.os
  tape : W'.tape = W.tape
  output : W'.output = W.output
  size : W.heap.size ≤ W'.heap.size
  low : ∀ b, b < base → W'.heap[b]? = W.heap[b]?
  fix : ∀ b, b ∈ fix → W'.heap[b]? = W.heap[b]?
  own : ∀ g, v.ownBlock = some g → W'.heap[g]? = W.heap[g]?
/-- what a round leaves as it was -/
structure Kp (fix : List Nat) (W : World) (v : Value) (W' : World) (v' : Value) : Prop where
  size : W.heap.size ≤ W'.heap.size
  same : ∀ b, b < W.heap.size → b ∉ fix → v.ownBlock ≠ some b → W'.heap[b]? = W.heap[b]?
  own : v'.ownBlock = v.ownBlock ∨ ∃ g, v'.ownBlock = some g ∧ W.heap.size ≤ g
theorem Kp.refl (fix : List Nat) (W : World) (v : Value) : Kp fix W v W v := ⟨Nat.le_refl _, fun _ _ _ _ => rfl, .inl rfl⟩
theorem Kp.ne {fix : List Nat} {W W' : World} {v v' : Value} (h : Kp fix W v W' v') {b : Nat} (hb : b < W.heap.size) (hn : v.ownBlock ≠ some b) : v'.ownBlock ≠ some b := by
  rcases h.own with e | ⟨g, e, hl⟩
  · rw [e]; exact hn
  · rw [e]
    intro e2
    simp at e2
    omega
theorem Kp.trans {fix : List Nat} {W W' W'' : World} {v v' v'' : Value} (h : Kp fix W v W' v') (k : Kp fix W' v' W'' v'') : Kp fix W v W'' v'' := by
  refine ⟨Nat.le_trans h.size k.size, fun b hb hf hn => ?_, ?_⟩
  · exact (k.same b (Nat.lt_of_lt_of_le hb h.size) hf (h.ne hb hn)).trans (h.same b hb hf hn)
  · rcases k.own with e | ⟨g, e, hl⟩
    · rw [e]; exact h.own
    · exact .inr ⟨g, e, Nat.le_trans h.size hl⟩
theorem Kp.below {fix : List Nat} {W W' : World} {v : Value} (hb : Below W.heap.size W W') : Kp fix W v W' v := ⟨hb.size, fun b h _ _ => hb.block b h, .inl rfl⟩
theorem Kp.blk {fix : List Nat} {W W' : World} {v v' : Value} (h : Kp fix W v W' v') {b : Nat} {A : Array Value} (hq : Blk W b A) (hf : b ∉ fix) (hn : v.ownBlock ≠ some b) : Blk W' b A := by
  have e := h.same b hq.lt hf hn
  obtain ⟨t, hq⟩ := hq
  exact ⟨t, e.trans hq⟩
theorem YieldAt.any {P : Program} {k m l : Nat} {args : Array Value} {W : World} {R : Ending → World → Prop} (h : YieldAt Fence.wide k P l args W R) : YieldAt Fence.wide m P l args W R := by
  obtain ⟨fn, tmps, assign, body, hy, hf, hr⟩ := h
  exact ⟨fn, tmps, assign, body, hy, hf, fun c cs _ => hr c cs (room_wide _)⟩
structure Sink (base L : Nat) (fix : List Nat) (T : Int → Prop) (N : Nat) (S : World → Value → List Int → Prop) : Prop where
  cong : ∀ {W W' : World} {v : Value} {acc : List Int}, S W v acc → SameOn base fix v W W' → S W' v acc
  lt : ∀ {W : World} {v : Value} {acc : List Int}, S W v acc → (∀ b, b ∈ fix → base ≤ b ∧ b < W.heap.size) ∧ (∀ g, v.ownBlock = some g → base ≤ g ∧ g < W.heap.size) ∧ base ≤ W.heap.size
  step : ∀ (m : Nat) {W : World} {v : Value} {acc : List Int} (x : Int), S W v acc → T x → acc.length < N → YieldAt Fence.wide m Tryd.prog L #[.int .i64 x] W fun e W' => e = .returned (.bool true) ∧ ∃ v', S W' v' (acc ++ [x]) ∧ Kp fix W v W' v'
theorem Sink.below {base L N : Nat} {fix : List Nat} {T : Int → Prop} {S : World → Value → List Int → Prop} (K : Sink base L fix T N S) {W W' : World} {v : Value} {acc : List Int} (h : S W v acc) (hb : Below W.heap.size W W') : S W' v acc :=
  K.cong h ⟨hb.os, hb.tape, hb.output, hb.size, fun b hl => hb.block b (Nat.lt_of_lt_of_le hl (K.lt h).2.2), fun b hm => hb.block b ((K.lt h).1 b hm).2, fun g e => hb.block g ((K.lt h).2.1 g e).2⟩
/-- a loop that gathers numbers: the list's box, the rounds' deferred calls, the record -/
structure Pj where
  w : World
  O : Nat
  DF : Nat
  L : Nat
  R : Loop
def Pj.bs (p : Pj) : List Nat := [p.O, p.DF, p.L]
structure Sj (p : Pj) (W : World) (cv : Value) (acc : List Int) : Prop where
  nd : p.O ≠ p.DF ∧ p.O ≠ p.L ∧ p.DF ≠ p.L
  far : p.w.heap.size ≤ p.O ∧ p.w.heap.size ≤ p.DF ∧ p.w.heap.size ≤ p.L
  o : Blk W p.O #[cv]
  df : W.heap[p.DF]? = some (.deferred (some []))
  lp : W.heap[p.L]? = some (.loop p.R)
  own : W.ownsRow p.w.heap.size 3 1 cv acc.length (acc.map (Value.int .i64))
  ne : ∀ g, cv.ownBlock = some g → g ∉ p.bs
  bel : Below p.w.heap.size p.w W
theorem Pj.mem (p : Pj) : p.O ∈ p.bs ∧ p.DF ∈ p.bs ∧ p.L ∈ p.bs := by simp [Pj.bs]
theorem own_sameV {W W' : World} {lo n z : Nat} {e : TypeId} {v : Value} {xs : List Value} (h : W.ownsRow lo e z v n xs) (hs : W.heap.size ≤ W'.heap.size) (hk : ∀ g, v.ownBlock = some g → W'.heap[g]? = W.heap[g]?) : W'.ownsRow lo e z v n xs := by
  obtain ⟨hl, ⟨rfl, h0⟩ | ⟨g, cap, cur, rfl, hb, hh, h1, h2, h3, h4⟩⟩ := h
  · exact ⟨hl, .inl ⟨rfl, h0⟩⟩
  · exact ⟨hl, .inr ⟨g, cap, cur, rfl, hb, (hk g rfl).trans hh, h1, h2, h3, h4⟩⟩
theorem Sj.lt {p : Pj} {W : World} {cv : Value} {acc : List Int} (h : Sj p W cv acc) : (∀ b, b ∈ p.bs → p.w.heap.size ≤ b ∧ b < W.heap.size) ∧ (∀ g, cv.ownBlock = some g → p.w.heap.size ≤ g ∧ g < W.heap.size) ∧ p.w.heap.size ≤ W.heap.size := by
  refine ⟨fun b hb => ?_, fun g e => h.own.lt g e, h.bel.size⟩
  have hb' : b ∈ [p.O, p.DF, p.L] := hb
  simp only [List.mem_cons, List.not_mem_nil, or_false] at hb'
  rcases hb' with rfl | rfl | rfl
  · exact ⟨h.far.1, h.o.lt⟩
  · exact ⟨h.far.2.1, (Array.getElem?_eq_some_iff.1 h.df).1⟩
  · exact ⟨h.far.2.2, (Array.getElem?_eq_some_iff.1 h.lp).1⟩
theorem Sj.cong {p : Pj} {W W' : World} {cv : Value} {acc : List Int} (h : Sj p W cv acc) (k : SameOn p.w.heap.size p.bs cv W W') : Sj p W' cv acc := by
  obtain ⟨m1, m2, m3⟩ := p.mem
  refine ⟨h.nd, h.far, ?_, (k.fix _ m2).trans h.df, (k.fix _ m3).trans h.lp, own_sameV h.own k.size k.own, h.ne, ?_⟩
  · obtain ⟨t, hq⟩ := h.o
    exact ⟨t, (k.fix _ m1).trans hq⟩
  · exact ⟨k.os.trans h.bel.os, k.tape.trans h.bel.tape, k.output.trans h.bel.output, Nat.le_trans h.bel.size k.size, fun b hb => (k.low b hb).trans (h.bel.block b hb)⟩
theorem Sj.form {p : Pj} {W : World} {cv : Value} {acc : List Int} (h : Sj p W cv acc) : ∃ oa cap, cv = .slice oa acc.length cap := by
  obtain ⟨_, ⟨h1, h0⟩ | ⟨g, cap, _, h1, _⟩⟩ := h.own
  · exact ⟨none, 0, by rw [h1, h0]⟩
  · exact ⟨_, _, h1⟩
theorem infoI : (Tryd.prog.info? 3).map (fun i => (i.zero, i.size, i.bytes)) = some (some (.int .i64 0), 1, 8) := by kernel_rfl
end Go.Proofs.YtohnddjijedfkaaDoor
