/- Things that lie apart from one another in a world: each hangs on blocks of its own, so that what is written into one leaves the others as they are. -/
import Derived.Test.YtohnddjijedfkaaBlk
namespace Go.Proofs.Ytohnddjijedfkaa
open Go.ChangeShapes Go.WideShapes Go.ChangeAt Go.RowKit
set_option linter.unusedVariables false

/-- a thing: the blocks that it hangs on, and what is said of it -/
structure Thing where
  dom : Nat → Prop
  say : World → Prop
/-- the thing is as is said, whatever becomes of other blocks -/
structure Sits (W : World) (t : Thing) : Prop where
  now : t.say W
  lt : ∀ b, t.dom b → b < W.heap.size
  dep : ∀ W', (∀ b, t.dom b → W'.heap[b]? = W.heap[b]?) → t.say W'
theorem Sits.kept {W W' : World} {t : Thing} (h : Sits W t) (hs : W.heap.size ≤ W'.heap.size) (hk : ∀ b, t.dom b → W'.heap[b]? = W.heap[b]?) : Sits W' t :=
  ⟨h.dep W' hk, fun b hb => Nat.lt_of_lt_of_le (h.lt b hb) hs, fun W2 h2 => h.dep W2 (fun b hb => (h2 b hb).trans (hk b hb))⟩
theorem Sits.below {W W' : World} {t : Thing} (h : Sits W t) (hb : Below W.heap.size W W') : Sits W' t := h.kept hb.size (fun b hd => hb.block b (h.lt b hd))
/-- things that lie apart -/
structure Sts (W : World) (L : List Thing) : Prop where
  lies : ∀ t, t ∈ L → Sits W t
  apart : L.Pairwise (fun s t => ∀ b, s.dom b → ¬ t.dom b)
theorem Sts.nil (W : World) : Sts W [] := ⟨fun t h => (by cases h), List.Pairwise.nil⟩
theorem Sts.below {W W' : World} {L : List Thing} (h : Sts W L) (hb : Below W.heap.size W W') : Sts W' L := ⟨fun t ht => (h.lies t ht).below hb, h.apart⟩
theorem Sts.at {W : World} {L : List Thing} (h : Sts W L) (i : Nat) {t : Thing} (e : L[i]? = some t) : t.say W := (h.lies t (List.mem_of_getElem? e)).now
theorem Sts.has {W : World} {L : List Thing} (h : Sts W L) (i : Nat) {t : Thing} (e : L[i]? = some t) : Sits W t := h.lies t (List.mem_of_getElem? e)
/-- one more thing, in blocks that are new -/
theorem Sts.push {W W' : World} {L : List Thing} {t : Thing} (h : Sts W L) (hb : Below W.heap.size W W') (ht : Sits W' t) (hd : ∀ b, t.dom b → W.heap.size ≤ b) : Sts W' (t :: L) :=
  ⟨fun s hs => by
    rcases List.mem_cons.1 hs with rfl | hs
    · exact ht
    · exact (h.lies s hs).below hb, List.pairwise_cons.2 ⟨fun s hs b h1 h2 => by
      have := (h.lies s hs).lt b h2
      have := hd b h1
      omega, h.apart⟩⟩
/-- one more thing, apart from the others -/
theorem Sts.add {W : World} {L : List Thing} {t : Thing} (h : Sts W L) (ht : Sits W t) (hd : ∀ s, s ∈ L → ∀ b, t.dom b → ¬ s.dom b) : Sts W (t :: L) :=
  ⟨fun s hs => by
    rcases List.mem_cons.1 hs with rfl | hs
    · exact ht
    · exact h.lies s hs, List.pairwise_cons.2 ⟨hd, h.apart⟩⟩
/-- the i-th thing is written into: the others stay as they are -/
theorem Sts.turn {W W' : World} {L : List Thing} (h : Sts W L) (i : Nat) {t : Thing} {say' : World → Prop} (e : L[i]? = some t) (hs : W.heap.size ≤ W'.heap.size) (hk : ∀ b, b < W.heap.size → ¬ t.dom b → W'.heap[b]? = W.heap[b]?) (ht : Sits W' ⟨t.dom, say'⟩) : Sts W' (L.set i ⟨t.dom, say'⟩) := by
  have hi : i < L.length := by
    rcases Nat.lt_or_ge i L.length with h1 | h1
    · exact h1
    · rw [List.getElem?_eq_none h1] at e; cases e
  have hp := List.pairwise_iff_getElem.1 h.apart
  have ei : L[i] = t := by rw [List.getElem?_eq_getElem hi] at e; exact Option.some.inj e
  have dd : ∀ (j : Nat) (hj : j < L.length), ((L.set i ⟨t.dom, say'⟩)[j]'(by simpa using hj)).dom = L[j].dom := fun j hj => by
    by_cases e2 : i = j
    · subst e2
      rw [List.getElem_set_self, ei]
    · rw [List.getElem_set_ne e2]
  refine ⟨fun s hs' => ?_, List.pairwise_iff_getElem.2 (fun a b ha hb hab x => ?_)⟩
  · obtain ⟨j, hj, rfl⟩ := List.getElem_of_mem hs'
    rw [List.length_set] at hj
    by_cases e2 : i = j
    · subst e2
      rw [List.getElem_set_self]
      exact ht
    · rw [List.getElem_set_ne e2]
      have hl := h.lies L[j] (List.getElem_mem hj)
      refine hl.kept hs (fun b hb => hk b (hl.lt b hb) (fun htb => ?_))
      rcases Nat.lt_or_gt_of_ne e2 with h1 | h1
      · exact hp i j hi hj h1 b (by rw [ei]; exact htb) hb
      · exact hp j i hj hi h1 b hb (by rw [ei]; exact htb)
  · rw [List.length_set] at ha hb
    rw [dd a ha, dd b hb]
    exact hp a b ha hb hab x
/-- a box -/
abbrev tBox (b : Nat) (A : Array Value) : Thing := ⟨fun x => x = b, fun W => Blk W b A⟩
theorem sits_box {W : World} {b : Nat} {A : Array Value} (h : Blk W b A) : Sits W (tBox b A) :=
  ⟨h, fun x e => by cases e; exact h.lt, fun W' hk => by
    obtain ⟨t, h⟩ := h
    exact ⟨t, (hk b rfl).trans h⟩⟩
theorem Sts.box {W : World} {L : List Thing} (h : Sts W L) (A : Array Value) (t : TypeId) : Sts (W.alloc (.cells A t)) (tBox W.heap.size A :: L) :=
  h.push ((Below.refl _ _).alloc (Nat.le_refl _) _) (sits_box (Blk.new W A t)) (fun b e => by cases e; exact Nat.le_refl _)
/-- a memory in blocks of its own -/
abbrev tMem (lo hi : Nat) (v : Value) (M : Mem) : Thing := ⟨fun b => lo ≤ b ∧ b < hi, fun W => MemO W lo hi v M⟩
theorem sits_mem {W : World} {lo hi : Nat} {v : Value} {M : Mem} (h : MemO W lo hi v M) (hh : hi ≤ W.heap.size) : Sits W (tMem lo hi v M) :=
  ⟨h, fun b hb => Nat.lt_of_lt_of_le hb.2 hh, fun W' hk => h.kept (fun b h0 h1 => hk b ⟨h0, h1⟩)⟩
theorem Sts.mem {W W' : World} {L : List Thing} {v : Value} {M : Mem} (h : Sts W L) (hb : Below W.heap.size W W') (hm : MemO W' W.heap.size W'.heap.size v M) : Sts W' (tMem W.heap.size W'.heap.size v M :: L) :=
  h.push hb (sits_mem hm (Nat.le_refl _)) (fun b hb => hb.1)
theorem Sts.touch {W W' : World} {L : List Thing} (h : Sts W L) (i : Nat) {lo hi : Nat} {v : Value} {M M' : Mem} (e : L[i]? = some (tMem lo hi v M)) (ht : Touch lo hi W W') (hm : MemO W' lo hi v M') : Sts W' (L.set i (tMem lo hi v M')) := by
  have hl := h.has i e
  refine h.turn i e ht.size (fun b hb hn => ht.block b hb (by show b < lo ∨ hi ≤ b; have : ¬ (lo ≤ b ∧ b < hi) := hn; omega)) ⟨hm, fun b hb => ?_, fun W2 hk => hm.kept (fun b h0 h1 => hk b ⟨h0, h1⟩)⟩
  exact Nat.lt_of_lt_of_le (hl.lt b hb) ht.size
end Go.Proofs.Ytohnddjijedfkaa
