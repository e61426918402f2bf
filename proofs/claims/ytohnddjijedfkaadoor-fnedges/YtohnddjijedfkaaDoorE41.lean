/- A loop that gathers numbers: its start and its end. -/
import Derived.Test.YtohnddjijedfkaaDoorVke
import Derived.Test.YtohnddjijedfkaaDoorVne
import Derived.Test.YtohnddjijedfkaaDoorVoe
import Derived.Test.YtohnddjijedfkaaDoorVbe
import Derived.Test.YtohnddjijedfkaaDoorZae
import Derived.Test.YtohnddjijedfkaaDoorE14
import Derived.Deep.DeepCutAuto
namespace Go.Proofs.YtohnddjijedfkaaDoor
open Go.ChangeShapes Go.WideShapes Go.ChangeAt Go.RowKit Go.Shelf
attribute [local go_sem] Oper.semAt_some
set_option linter.unusedVariables false
set_option linter.unusedSimpArgs false

theorem Sj.fin {p : Pj} {W : World} {v : Value} {acc : List Int} (h : Sj p W v acc) (R' : Loop) :
    let W9 := W.putObj p.L (.loop R')
    Blk W9 p.O #[v] ∧ W9.heap[p.DF]? = some (.deferred (some [])) ∧ (W9.putObj p.DF (.deferred none)).ownsRow p.w.heap.size 3 1 v acc.length (acc.map (Value.int .i64)) ∧ Below p.w.heap.size p.w (W9.putObj p.DF (.deferred none)) ∧ (∀ b, b ≠ p.L → b ≠ p.DF → (W9.putObj p.DF (.deferred none)).heap[b]? = W.heap[b]?) ∧ (W9.putObj p.DF (.deferred none)).heap.size = W.heap.size := by
  intro W9
  obtain ⟨n1, n2, n3⟩ := h.nd
  obtain ⟨m1, m2, m3⟩ := p.mem
  have k9 : ∀ b, b ≠ p.L → W9.heap[b]? = W.heap[b]? := fun b hb => World.putObj_heap_other (by omega)
  have ke : ∀ b, b ≠ p.L → b ≠ p.DF → (W9.putObj p.DF (.deferred none)).heap[b]? = W.heap[b]? := fun b h1 h2 => (World.putObj_heap_other (by omega)).trans (k9 b h1)
  have se : (W9.putObj p.DF (.deferred none)).heap.size = W.heap.size := by simp [W9, World.putObj]
  refine ⟨?_, (k9 _ n3).trans h.df, own_sameV h.own (by omega) (fun g e => ke g (fun e2 => h.ne g e (e2 ▸ m3)) (fun e2 => h.ne g e (e2 ▸ m2))), ?_, ke, se⟩
  · obtain ⟨t, hq⟩ := h.o
    exact ⟨t, (k9 _ n2).trans hq⟩
  · exact h.bel.trans ⟨rfl, rfl, rfl, by omega, fun b hb => ke b (fun e => by have := h.far.2.2; omega) (fun e => by have := h.far.2.1; omega)⟩
/-- a loop that begins: its own blocks lie above all that was there -/
theorem Sj.start {p : Pj} {w W6 : World} {R : Loop} (hb : Below w.heap.size w W6) (hO : Blk W6 p.O #[.slice none 0 0]) (hf : w.heap.size ≤ p.O) (hpw : p.w = w) (hD : p.DF = W6.heap.size) (hL : p.L = W6.heap.size + 1) (hR : p.R = R) : Sj p ((W6.alloc (.deferred (some []))).alloc (.loop R)) (.slice none 0 0) [] := by
  have hb7 : Below W6.heap.size W6 ((W6.alloc (.deferred (some []))).alloc (.loop R)) := ((Below.refl _ _).alloc (Nat.le_refl _) _).alloc (by simp) _
  have hL7 : ((W6.alloc (.deferred (some []))).alloc (.loop R)).heap[W6.heap.size + 1]? = some (.loop R) := by
    have := World.alloc_heap_new (W6.alloc (.deferred (some []))) (.loop R)
    rwa [World.size_alloc] at this
  have hD7 : ((W6.alloc (.deferred (some []))).alloc (.loop R)).heap[W6.heap.size]? = some (.deferred (some [])) := (Below.heap_alloc _ _ _ (by simp)).trans (World.alloc_heap_new W6 _)
  have hl := hO.lt
  have hs := hb.size
  refine ⟨by omega, by rw [hpw]; omega, hO.below hb7 hl, by rw [hD]; exact hD7, by rw [hL, hR]; exact hL7, World.ownsRow_nil _ _ _ _, fun g e => by simp [Value.ownBlock] at e, ?_⟩
  rw [hpw]
  exact hb.trans (hb7.mono hs)
end Go.Proofs.YtohnddjijedfkaaDoor

/- The pulses of a block: the program. -/
namespace Go.Proofs.YtohnddjijedfkaaDoor
open Go.ChangeShapes Go.WideShapes Go.ChangeAt Go.RowKit Go.Shelf
attribute [local go_sem] Oper.semAt_some
set_option linter.unusedVariables false
set_option linter.unusedSimpArgs false

end Go.Proofs.YtohnddjijedfkaaDoor

/- What is at fault with a tape: the program. -/
namespace Go.Proofs.YtohnddjijedfkaaDoor
open Go.ChangeShapes Go.WideShapes Go.ChangeAt Go.RowKit
set_option linter.unusedVariables false
set_option linter.unusedSimpArgs false

set_option maxRecDepth 100000 in
set_option maxHeartbeats 2000000 in
theorem tapeFault_impl (a : Option Addr) (cap : Nat) (l : List (Int × ByteArray)) (w : World) (h : BkR w a l) (hl : l.length ≤ 1048576) (hs : ∀ x ∈ l, x.2.size ≤ maxLen) :
    Calls Tryd.prog 44 #[.slice a l.length cap] w fun e w' => e = .returned (.int .i64 (tap2 l).2) ∧ Below w.heap.size w w' := by
  by_cases h1 : 4096 < l.length
  · have e : tap2 l = (ByteArray.empty, 2) := if_pos h1
    rw [e]
    go_enter Tryd.func44, Tryd.ntmps44
    go_wp2
    go_ret
    exact ⟨rfl, Below.refl _ _⟩
  by_cases h6 : 6 < l.length
  · have e : tap2 l = (ByteArray.empty, 1) := by
      unfold tap2
      rw [if_neg h1, if_neg]
      intro hc
      have := allL_len hc
      omega
    rw [e]
    go_enter Tryd.func44, Tryd.ntmps44
    go_wp2
    go_ret
    exact ⟨rfl, Below.refl _ _⟩
  have hno : Hid (∀ k, k < l.length → okB (l.getD k bkz).1 (l.getD k bkz).2 = false → (tap2 l).2 = 1) := fun k hk hb => by
    unfold tap2
    rw [if_neg h1, allL_no hk hb]
    rfl
  have hyes : Hid ((∀ k, k < l.length → okB (l.getD k bkz).1 (l.getD k bkz).2 = true) → (tap2 l).2 = 0) := fun hh => by
    unfold tap2
    rw [if_neg h1, allL_yes hh, if_pos (by simpa using by omega)]
  have hsz : Hid (∀ k, k < l.length → (l.getD k bkz).2.size ≤ maxLen) := fun k hk => hs _ (getD_mem hk)
  clear hs
  replace h := hid h
  obtain ⟨Q, hQ⟩ : ∃ Q, (tap2 l).2 = Q := ⟨_, rfl⟩
  rw [hQ] at hno hyes ⊢
  clear hQ
  go_enter Tryd.func44, Tryd.ntmps44
  go_wp2
  go_loopw [13] (fun i wr => ∃ k : Nat, k ≤ l.length ∧ i = .int .i64 k ∧ (∀ j, j < k → okB (l.getD j bkz).1 (l.getD j bkz).2 = true) ∧ Below w.heap.size w wr) (fun i _ => l.length - (intOf i).toNat)
  case atStart => exact ⟨0, by omega, rfl, fun j hj => by omega, Below.refl _ _⟩
  case round =>
    obtain ⟨k, hk, rfl, hj, hW⟩ := hrel
    by_cases hlt : k < l.length
    · obtain ⟨g, o, rfl, x1, x2⟩ := (h.out.below hW).at hlt
      have hz := hsz.out k hlt
      have hO := hid (fun W => bkokP_impl (l.getD k bkz).1 (l.getD k bkz).2 W hz)
      cases hb : okB (l.getD k bkz).1 (l.getD k bkz).2
      · have hE := hid (hno.out k hlt hb)
        clear hj hno hyes
        rw [hb] at hO
        generalize (l.getD k bkz).1 = F at *
        generalize (l.getD k bkz).2 = D at *
        have hW1 := hid (hW.alloc hW.size (.cells (bkA F D) 63))
        clear hz hW
        go_wp2_with fail
        refine (hO.out _).mono ?_
        rintro e w2 ⟨rfl, hb2⟩
        have hW2 := hid (new_trans hW1.out hb2)
        clear hb2 hW1 x1 x2
        go_wp2_with fail
        go_ret
        exact ⟨ret_int hE.out.symm, hW2.out⟩
      · have hj2 : Hid (∀ j, j < k + 1 → okB (l.getD j bkz).1 (l.getD j bkz).2 = true) := fun j hj1 => by
          by_cases e : j = k
          · rw [e]; exact hb
          · exact hj j (by omega)
        clear hj hno hyes
        rw [hb] at hO
        generalize (l.getD k bkz).1 = F at *
        generalize (l.getD k bkz).2 = D at *
        have hW1 := hid (hW.alloc hW.size (.cells (bkA F D) 63))
        clear hz hW
        go_wp2_with fail
        refine (hO.out _).mono ?_
        rintro e w2 ⟨rfl, hb2⟩
        have hW2 := hid (new_trans hW1.out hb2)
        clear hb2 hW1 x1 x2
        go_wp2_with fail
        go_roundw
        case rel => exact ⟨k + 1, by omega, by go_num, hj2.out, hW2.out⟩
        case measure => simp [intOf]; omega
    · obtain rfl : k = l.length := by omega
      have hE := hid (hyes.out hj)
      replace hW := hid hW
      clear hj hno hyes
      go_wp2_with fail
      go_ret
      exact ⟨ret_int hE.out.symm, hW.out⟩
end Go.Proofs.YtohnddjijedfkaaDoor
