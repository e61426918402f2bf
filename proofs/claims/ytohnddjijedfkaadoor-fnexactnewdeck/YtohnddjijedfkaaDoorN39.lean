/- A loop that gathers numbers: its start and its end. -/
import Derived.Test.YtohnddjijedfkaaDoorVkn
import Derived.Test.YtohnddjijedfkaaDoorVnn
import Derived.Test.YtohnddjijedfkaaDoorVon
import Derived.Test.YtohnddjijedfkaaDoorVbn
namespace Go.Proofs.YtohnddjijedfkaaDoor
open Go.ChangeShapes Go.WideShapes Go.ChangeAt Go.RowKit Go.Shelf
attribute [local go_sem] Oper.semAt_some
set_option linter.unusedVariables false
set_option linter.unusedSimpArgs false

theorem Sj.fin {p : Pj} {W : World} {v : Value} {acc : List Int} (h : Sj p W v acc) (R' : Loop) :
    let W9 := W.putObj p.L (.loop R')
    Blk W9 p.O #[v] ∧ W9.heap[p.DF]? = some (.deferred (some [])) ∧ (W9.putObj p.DF (.deferred none)).ownsRow p.w.heap.size 3 1 v acc.length (acc.map (Value.int .i64)) ∧ Below p.w.heap.size p.w (W9.putObj p.DF (.deferred none)) ∧ (∀ b, b ≠ p.L → b ≠ p.DF → (W9.putObj p.DF (.deferred none)).heap[b]? = W.heap[b]?) ∧ (W9.putObj p.DF (.deferred none)).heap.size = W.heap.size := by
  intro W9
  obtain ⟨n1, n2, n3⟩ := h.nd
  obtain ⟨m1, m2, m3⟩ := p.mem
  have k9 : ∀ b, b ≠ p.L → W9.heap[b]? = W.heap[b]? := fun b hb => World.putObj_heap_other (by omega)
  have ke : ∀ b, b ≠ p.L → b ≠ p.DF → (W9.putObj p.DF (.deferred none)).heap[b]? = W.heap[b]? := fun b h1 h2 => (World.putObj_heap_other (by omega)).trans (k9 b h1)
  have se : (W9.putObj p.DF (.deferred none)).heap.size = W.heap.size := by simp [W9, World.putObj]
  refine ⟨?_, (k9 _ n3).trans h.df, own_sameV h.own (by omega) (fun g e => ke g (fun e2 => h.ne g e (e2 ▸ m3)) (fun e2 => h.ne g e (e2 ▸ m2))), ?_, ke, se⟩
  · obtain ⟨t, hq⟩ := h.o
    exact ⟨t, (k9 _ n2).trans hq⟩
  · exact h.bel.trans ⟨rfl, rfl, rfl, by omega, fun b hb => ke b (fun e => by have := h.far.2.2; omega) (fun e => by have := h.far.2.1; omega)⟩
/-- a loop that begins: its own blocks lie above all that was there -/
theorem Sj.start {p : Pj} {w W6 : World} {R : Loop} (hb : Below w.heap.size w W6) (hO : Blk W6 p.O #[.slice none 0 0]) (hf : w.heap.size ≤ p.O) (hpw : p.w = w) (hD : p.DF = W6.heap.size) (hL : p.L = W6.heap.size + 1) (hR : p.R = R) : Sj p ((W6.alloc (.deferred (some []))).alloc (.loop R)) (.slice none 0 0) [] := by
  have hb7 : Below W6.heap.size W6 ((W6.alloc (.deferred (some []))).alloc (.loop R)) := ((Below.refl _ _).alloc (Nat.le_refl _) _).alloc (by simp) _
  have hL7 : ((W6.alloc (.deferred (some []))).alloc (.loop R)).heap[W6.heap.size + 1]? = some (.loop R) := by
    have := World.alloc_heap_new (W6.alloc (.deferred (some []))) (.loop R)
    rwa [World.size_alloc] at this
  have hD7 : ((W6.alloc (.deferred (some []))).alloc (.loop R)).heap[W6.heap.size]? = some (.deferred (some [])) := (Below.heap_alloc _ _ _ (by simp)).trans (World.alloc_heap_new W6 _)
  have hl := hO.lt
  have hs := hb.size
  refine ⟨by omega, by rw [hpw]; omega, hO.below hb7 hl, by rw [hD]; exact hD7, by rw [hL, hR]; exact hL7, World.ownsRow_nil _ _ _ _, fun g e => by simp [Value.ownBlock] at e, ?_⟩
  rw [hpw]
  exact hb.trans (hb7.mono hs)
end Go.Proofs.YtohnddjijedfkaaDoor

/- The pulses of a block: the program. -/
namespace Go.Proofs.YtohnddjijedfkaaDoor
open Go.ChangeShapes Go.WideShapes Go.ChangeAt Go.RowKit Go.Shelf
attribute [local go_sem] Oper.semAt_some
set_option linter.unusedVariables false
set_option linter.unusedSimpArgs false

end Go.Proofs.YtohnddjijedfkaaDoor
