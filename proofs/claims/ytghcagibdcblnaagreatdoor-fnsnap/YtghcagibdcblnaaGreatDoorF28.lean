/- The runs of a text, as plain lists: what is told of each of them, one behind the other, is the text compressed. -/
import Derived.Test.YtghcagibdcblnaaGreatDoorF22
import Derived.Test.YtghcagibdcblnaaGreatDoorF26
import Derived.Test.YtghcagibdcblnaaGreatDoorF03
import Derived.RangeFuncBox
import Derived.RangeFuncCalls
import Derived.RangeFuncLeaves
import Derived.Shelf.Abstract
import Derived.Shelf.RegionOpen
import Derived.OwnWalkIn
import Derived.TacticsInMore
import Derived.Maps.OwnIn
import Derived.KernelRfl
import Derived.LoopNIn
import Derived.LoopIn
namespace Go.Proofs.YtghcagibdcblnaaGreatDoor
open Go.ChangeShapes Go.WideShapes Go.ChangeAt Go.RowKit
set_option linter.unusedVariables false
set_option linter.unusedSimpArgs false

theorem runH_some : ∀ (f n : Nat) (b : Int) (L : List Int), n ≤ f → L.head? ≠ some b → runH f b (List.replicate n b ++ L) = n
  | 0, n, b, L, h, _ => by
    obtain rfl : n = 0 := by omega
    rfl
  | f + 1, 0, b, [], h, _ => rfl
  | f + 1, 0, b, x :: L, h, hh => by
    have : x ≠ b := fun e => hh (by rw [e]; rfl)
    show (if x = b then _ else 0) = 0
    rw [if_neg this]
  | f + 1, n + 1, b, L, h, hh => by
    rw [List.replicate_succ, List.cons_append]
    show (if b = b then _ else 0) = n + 1
    rw [if_pos rfl, runH_some f n b L (by omega) hh]
theorem cmpE_short : ∀ (n : Nat) (b : Int) (L : List Int), n ≤ 4 → b ≠ 237 → L.head? ≠ some b → cmpE (List.replicate n b ++ L) = List.replicate n b ++ cmpE L
  | 0, b, L, _, _, _ => rfl
  | n + 1, b, L, h, hb, hh => by
    have hr := runH_some 255 (n + 1) b L (by omega) hh
    rw [List.replicate_succ, List.cons_append] at hr ⊢
    rw [cmpE_one (by rw [hr]; omega) hb, cmpE_short n b L (by omega) hb hh]
    rfl
/-- behind a run of fewer than 255 stands another byte, or none -/
theorem runT_head {t : ByteArray} {i : Nat} (h : runT t i < 255) : ((bts t).drop (i + runT t i)).head? ≠ some (byt t i) := by
  have key : ∀ (f : Nat) (b : Int) (L : List Int), runH f b L < f → (L.drop (runH f b L)).head? ≠ some b := by
    intro f
    induction f with
    | zero => intro b L h; omega
    | succ f ih =>
      intro b L h
      cases L with
      | nil => simp [runH]
      | cons x L =>
        by_cases hx : x = b
        · have e : runH (f + 1) b (x :: L) = runH f b L + 1 := by
            show (if x = b then _ else 0) = _
            rw [if_pos hx]
          rw [e] at h ⊢
          rw [List.drop_succ_cons]
          exact ih b L (by omega)
        · have e : runH (f + 1) b (x :: L) = 0 := by
            show (if x = b then _ else 0) = _
            rw [if_neg hx]
          rw [e, List.drop_zero]
          intro h2
          exact hx (Option.some.inj h2)
  have := key 255 (byt t i) ((bts t).drop i) h
  rw [List.drop_drop] at this
  exact this
/-- what is still to come: behind a lone mark the next byte stands for itself -/
def restR (t : ByteArray) (i : Nat) (fl : Bool) : List Int := if fl = true then ((bts t).drop i).take 1 ++ cmpE ((bts t).drop (i + 1)) else cmpE ((bts t).drop i)
def moN (fl : Bool) : Nat := if fl = true then 1 else 255
def runN (t : ByteArray) (i : Nat) (fl : Bool) : Nat := if fl = true then 1 else runT t i
theorem pkL_len (b : Int) {n : Nat} (h : 1 ≤ n) : (pkL b n).length ≤ 4 * n := by
  unfold pkL
  split
  · simp; omega
  · simp; omega
theorem run_found {t : ByteArray} {i m : Nat} {fl : Bool} (hi : i < t.size) (hm : m = min (moN fl) (t.size - i)) : runH m (byt t i) ((bts t).drop i) = runN t i fl := by
  unfold runN moN at *
  cases fl
  · simp only [Bool.false_eq_true, if_false] at hm ⊢
    unfold runT
    rw [← runH_min 255, List.length_drop, bts_len, hm]
  · simp only [if_true] at hm ⊢
    obtain rfl : m = 1 := by omega
    rw [bts_drop t hi]
    show (if byt t i = byt t i then _ else 0) = 1
    rw [if_pos rfl]
    rfl
theorem run_next {t : ByteArray} {i : Nat} {fl : Bool} (hi : i < t.size) (hfl : fl = true → byt t i ≠ 237) :
    restR t i fl = pkL (byt t i) (runN t i fl) ++ restR t (i + runN t i fl) (decide (byt t i = 237 ∧ runN t i fl = 1)) ∧ (decide (byt t i = 237 ∧ runN t i fl = 1) = true → i + runN t i fl < t.size → byt t (i + runN t i fl) ≠ 237) ∧ 1 ≤ runN t i fl ∧ runN t i fl ≤ 255 ∧ i + runN t i fl ≤ t.size := by
  cases fl
  · have hR : runN t i false = runT t i := rfl
    obtain ⟨r1, r2, r3⟩ := runT_bd t i hi
    rw [hR]
    refine ⟨?_, ?_, r1, r2, r3⟩
    · show cmpE ((bts t).drop i) = _
      by_cases h1 : 5 ≤ runT t i ∨ (byt t i = 237 ∧ 2 ≤ runT t i)
      · have hp : pkB (byt t i) (runT t i) = true := by
          unfold pkB
          split
          · exact decide_eq_true (by omega)
          · exact decide_eq_true (by omega)
        rw [cmpT_run hi h1, decide_eq_false (by omega)]
        unfold pkL
        rw [if_pos hp]
        rfl
      · have hp : pkB (byt t i) (runT t i) = false := by
          unfold pkB
          split
          · exact decide_eq_false (by omega)
          · exact decide_eq_false (by omega)
        have hpl : pkL (byt t i) (runT t i) = List.replicate (runT t i) (byt t i) := by unfold pkL; rw [if_neg (by rw [hp]; simp)]
        rw [hpl]
        by_cases hb : byt t i = 237
        · have h1' : runT t i = 1 := by omega
          rw [decide_eq_true ⟨hb, h1'⟩, h1']
          show _ = [byt t i] ++ (((bts t).drop (i + 1)).take 1 ++ cmpE ((bts t).drop (i + 1 + 1)))
          by_cases hl : i + 1 < t.size
          · rw [cmpT_two hl hb (by omega), bts_drop t hl, hb]
            rfl
          · rw [cmpT_last (by omega) hb, List.drop_eq_nil_of_le (by rw [bts_len]; omega), List.drop_eq_nil_of_le (by rw [bts_len]; omega), hb]
            rfl
        · rw [decide_eq_false (fun h => hb h.1)]
          have hh := runT_head (t := t) (i := i) (by omega)
          have hrep := runH_rep 255 (byt t i) ((bts t).drop i)
          rw [List.drop_drop] at hrep
          have := cmpE_short (runT t i) (byt t i) ((bts t).drop (i + runT t i)) (by omega) hb hh
          have e : List.replicate (runT t i) (byt t i) ++ (bts t).drop (i + runT t i) = (bts t).drop i := hrep.symm
          rw [e] at this
          exact this
    · intro h hl
      obtain ⟨hb, h1⟩ := of_decide_eq_true h
      have hh := runT_head (t := t) (i := i) (by omega)
      rw [bts_drop t hl, hb] at hh
      intro e
      exact hh (by rw [e]; rfl)
  · have hb := hfl rfl
    have hR : runN t i true = 1 := rfl
    rw [hR, decide_eq_false (fun h => hb h.1)]
    refine ⟨?_, fun h => (by cases h), by omega, by omega, by omega⟩
    have hp : pkL (byt t i) 1 = [byt t i] := by
      unfold pkL pkB
      rw [if_neg hb]
      rfl
    rw [hp]
    show ((bts t).drop i).take 1 ++ cmpE ((bts t).drop (i + 1)) = [byt t i] ++ cmpE ((bts t).drop (i + 1))
    rw [bts_drop t hi]
    rfl
end Go.Proofs.YtghcagibdcblnaaGreatDoor

/- What a loop over a function leaves as it was, from round to round. -/
namespace Go.Proofs.YtghcagibdcblnaaGreatDoor
open Go.ChangeShapes Go.WideShapes Go.ChangeAt Go.RowKit Go.Shelf
set_option linter.unusedVariables false
set_option linter.unusedSimpArgs false

/-- two worlds that agree on what a loop holds -/
structure SameOn (base : Nat) (fix : List Nat) (v : Value) (W W' : World) : Prop where
  os : W'.os = W.os
  tape : W'.tape = W.tape
  output : W'.output = W.output
  size : W.heap.size ≤ W'.heap.size
  low : ∀ b, b < base → W'.heap[b]? = W.heap[b]?
  fix : ∀ b, b ∈ fix → W'.heap[b]? = W.heap[b]?
  own : ∀ g, v.ownBlock = some g → W'.heap[g]? = W.heap[g]?
/-- what a round leaves as it was -/
structure Kp (fix : List Nat) (W : World) (v : Value) (W' : World) (v' : Value) : Prop where
  size : W.heap.size ≤ W'.heap.size
  same : ∀ b, b < W.heap.size → b ∉ fix → v.ownBlock ≠ some b → W'.heap[b]? = W.heap[b]?
  own : v'.ownBlock = v.ownBlock ∨ ∃ g, v'.ownBlock = some g ∧ W.heap.size ≤ g
theorem Kp.refl (fix : List Nat) (W : World) (v : Value) : Kp fix W v W v := ⟨Nat.le_refl _, fun _ _ _ _ => rfl, .inl rfl⟩
theorem Kp.ne {fix : List Nat} {W W' : World} {v v' : Value} (h : Kp fix W v W' v') {b : Nat} (hb : b < W.heap.size) (hn : v.ownBlock ≠ some b) : v'.ownBlock ≠ some b := by
  rcases h.own with e | ⟨g, e, hl⟩
  · rw [e]; exact hn
  · rw [e]
    intro e2
    simp at e2
    omega
theorem Kp.trans {fix : List Nat} {W W' W'' : World} {v v' v'' : Value} (h : Kp fix W v W' v') (k : Kp fix W' v' W'' v'') : Kp fix W v W'' v'' := by
  refine ⟨Nat.le_trans h.size k.size, fun b hb hf hn => ?_, ?_⟩
  · exact (k.same b (Nat.lt_of_lt_of_le hb h.size) hf (h.ne hb hn)).trans (h.same b hb hf hn)
  · rcases k.own with e | ⟨g, e, hl⟩
    · rw [e]; exact h.own
    · exact .inr ⟨g, e, Nat.le_trans h.size hl⟩
theorem Kp.below {fix : List Nat} {W W' : World} {v : Value} (hb : Below W.heap.size W W') : Kp fix W v W' v := ⟨hb.size, fun b h _ _ => hb.block b h, .inl rfl⟩
theorem Kp.blk {fix : List Nat} {W W' : World} {v v' : Value} (h : Kp fix W v W' v') {b : Nat} {A : Array Value} (hq : Blk W b A) (hf : b ∉ fix) (hn : v.ownBlock ≠ some b) : Blk W' b A := by
  have e := h.same b hq.lt hf hn
  obtain ⟨t, hq⟩ := hq
  exact ⟨t, e.trans hq⟩
theorem YieldAt.any {P : Program} {k m l : Nat} {args : Array Value} {W : World} {R : Ending → World → Prop} (h : YieldAt Fence.wide k P l args W R) : YieldAt Fence.wide m P l args W R := by
  obtain ⟨fn, tmps, assign, body, hy, hf, hr⟩ := h
  exact ⟨fn, tmps, assign, body, hy, hf, fun c cs _ => hr c cs (room_wide _)⟩
/-- a loop that gathers numbers: the list's box, the rounds' deferred calls, the record -/
structure Pj where
  w : World
  O : Nat
  DF : Nat
  L : Nat
  R : Loop
def Pj.bs (p : Pj) : List Nat := [p.O, p.DF, p.L]
theorem Pj.mem (p : Pj) : p.O ∈ p.bs ∧ p.DF ∈ p.bs ∧ p.L ∈ p.bs := by simp [Pj.bs]
theorem own_sameV {W W' : World} {lo n z : Nat} {e : TypeId} {v : Value} {xs : List Value} (h : W.ownsRow lo e z v n xs) (hs : W.heap.size ≤ W'.heap.size) (hk : ∀ g, v.ownBlock = some g → W'.heap[g]? = W.heap[g]?) : W'.ownsRow lo e z v n xs := by
  obtain ⟨hl, ⟨rfl, h0⟩ | ⟨g, cap, cur, rfl, hb, hh, h1, h2, h3, h4⟩⟩ := h
  · exact ⟨hl, .inl ⟨rfl, h0⟩⟩
  · exact ⟨hl, .inr ⟨g, cap, cur, rfl, hb, (hk g rfl).trans hh, h1, h2, h3, h4⟩⟩
end Go.Proofs.YtghcagibdcblnaaGreatDoor
