/- Blocks that are read off a text, one by one: the specification. -/
import Derived.Test.YtakdhmlegickmaaDoorUg
import Derived.Deep.DeepCutAuto
namespace Go.Proofs.YtakdhmlegickmaaDoor
open Go.ChangeShapes Go.WideShapes Go.ChangeAt Go.RowKit
set_option linter.unusedVariables false
set_option linter.unusedSimpArgs false

theorem two_newS (w : World) (A B : Array Value) (t u : TypeId) : Blk ((w.alloc (.cells A t)).alloc (.cells B u)) w.heap.size A ∧ Blk ((w.alloc (.cells A t)).alloc (.cells B u)) (w.heap.size + 1) B ∧ Below w.heap.size w ((w.alloc (.cells A t)).alloc (.cells B u)) := by
  refine ⟨(Blk.new w A t).alloc _, ?_, ((Below.refl _ _).alloc (Nat.le_refl _) _).alloc (by simp) _⟩
  have := Blk.new (w.alloc (.cells A t)) B u
  rw [World.size_alloc] at this
  exact this
theorem RdS.app {w w1 W2 w3 : World} {t : ByteArray} {a A : Int} {v v' : Value} {acc : List (Int × ByteArray)} {b6 : Nat} {F : Int} {D : ByteArray} {o : Obj} (h : RdS w W2 t a v acc) (hb6 : ∀ g, v.ownBlock = some g → g < b6) (q6 : Blk W2 b6 (curA t A)) (hlt : w.heap.size + 1 < b6)
    (hg : (W2.alloc o).grownBy w3 v.ownBlock) (ho : w3.ownsRow w.heap.size 33 2 v' (acc.length + 1) (bkL acc ++ [.int .i64 F, .string D])) (hat : ∀ g, v'.ownBlock = some g → v.ownBlock = some g ∨ g = (W2.alloc o).heap.size) :
    Blk w3 b6 (curA t A) ∧ Blk w3 (w.heap.size + 1) (curA t a) ∧ RdS w ((w3.setCell ⟨w.heap.size + 1, 0, none⟩ (.string t)).setCell ⟨w.heap.size + 1, 1, none⟩ (.int .i64 A)) t A v' (acc ++ [(F, D)]) := by
  have n6 : some b6 ≠ v.ownBlock := fun e => by have := hb6 b6 e.symm; omega
  have n5 : some (w.heap.size + 1) ≠ v.ownBlock := fun e => h.ne e.symm
  have p6 := (q6.alloc o).grown hg n6
  have p5 := (h.q5.alloc o).grown hg n5
  have hlt5 := h.q5.lt
  have n5' : v'.ownBlock ≠ some (w.heap.size + 1) := fun e => by
    rcases hat _ e with e1 | e1
    · exact h.ne e1
    · rw [World.size_alloc] at e1
      omega
  have hbel : Below w.heap.size w w3 := (h.bel.alloc h.bel.size o).grown hg (by rw [World.size_alloc]; have := h.bel.size; omega) (fun g e => (h.own.lt g e).1)
  have sg : ∀ (X : World) (i : Nat) (u : Value), X.grownBy (X.setCell ⟨w.heap.size + 1, i, none⟩ u) (some (w.heap.size + 1)) := fun X i u => ⟨rfl, rfl, rfl, by simp [World.setCell], fun k _ hk => Below.heap_setCell _ _ _ _ (fun e => hk (by rw [e]))⟩
  refine ⟨p6, p5, (p5.set 0 (.string t)).set 1 (.int .i64 A), ?_, n5', (hbel.setCell (p := ⟨w.heap.size + 1, 0, none⟩) (by show w.heap.size ≤ w.heap.size + 1; omega) _).setCell (p := ⟨w.heap.size + 1, 1, none⟩) (by show w.heap.size ≤ w.heap.size + 1; omega) _⟩
  rw [bkL_snoc, List.length_append]
  exact (ho.kept (sg _ 0 _) (.inr n5')).kept (sg _ 1 _) (.inr n5')
set_option maxRecDepth 100000 in
set_option maxHeartbeats 4000000 in
theorem readtap_spec (t : ByteArray) (w : World) (ht : t.size ≤ maxLen) : Calls Tryd.prog 24 #[.string t] w fun e w' => ∃ v, e = .returned (.tuple #[v, .int .i64 (rd2 t).2]) ∧ w'.ownsRow w.heap.size 33 2 v (rd2 t).1.length (bkL (rd2 t).1) ∧ Below w.heap.size w w' := by
  have ht2 := ht
  unfold maxLen at ht2
  by_cases h1 : 65536 < t.size
  · have e : rd2 t = ([], 2) := if_pos h1
    rw [e]
    have hO := hid (World.ownsRow_made (e := 33) (size := 2) w #[] 0 (Nat.le_refl _) (by unfold maxLen; omega) rfl)
    go_enter Tryd.func24, Tryd.ntmps24
    go_wp2
    go_ret2
    exact ⟨_, rfl, hO.out, (Below.refl _ _).alloc (Nat.le_refl _) _⟩
  · have e : rd2 t = rdL t (t.size + 1) 0 [] := if_neg h1
    rw [e]
    clear e
    obtain ⟨i0, hi0, hz0, hz1, hz2⟩ := info_parts infoBk
    have hB1 : Below w.heap.size w (w.alloc (.cells #[] 33)) := (Below.refl _ _).alloc (Nat.le_refl _) _
    have hR0 : RdS w ((w.alloc (.cells #[] 33)).alloc (.cells (curA t 0) 39)) t 0 (.slice (some ⟨w.heap.size, 0, none⟩) 0 0) [] := by
      refine ⟨?_, own_belowU (World.ownsRow_made (e := 33) (size := 2) w #[] 0 (Nat.le_refl _) (by unfold maxLen; omega) rfl) ((Below.refl _ _).alloc (Nat.le_refl _) _), by simp [Value.ownBlock], hB1.alloc hB1.size _⟩
      have := Blk.new (w.alloc (.cells #[] 33)) (curA t 0) 39
      rw [World.size_alloc] at this
      exact this
    replace hR0 := hid hR0
    clear hB1
    obtain ⟨Z, hZ⟩ : ∃ Z, rdL t (t.size + 1) 0 [] = Z := ⟨_, rfl⟩
    rw [hZ]
    replace hZ := hid hZ
    go_enter Tryd.func24, Tryd.ntmps24
    go_upto_region 5 with fail
    obtain ⟨V, hV⟩ : ∃ V, (w.alloc (.cells #[] 33)).alloc (.cells (curA t 0) 39) = V := ⟨_, rfl⟩
    rw [hV] at hR0 ⊢
    clear hV
    go_loopw [4] (fun o wr => ∃ (f : Nat) (a : Int) (acc : List (Int × ByteArray)), RdS w wr t a o acc ∧ rdL t f a acc = Z ∧ (t.size : Int) - a < f ∧ 0 ≤ a ∧ a ≤ t.size ∧ acc.length ≤ 6) (fun _ wr => rdM wr (w.heap.size + 1) t.size)
    case atStart => exact ⟨t.size + 1, 0, [], hR0.out, hZ.out, by omega, by omega, by omega, by simp⟩
    case round =>
      obtain ⟨f, a, acc, hS, hZ2, hf, ha0, ha1, hacc⟩ := hrel
      clear hR0 hZ
      obtain ⟨oa, ocap, rfl⟩ : ∃ oa cap, u4 = .slice oa acc.length cap := by
        obtain ⟨_, ⟨h, h0⟩ | ⟨g, cap, _, h, _⟩⟩ := hS.own
        · exact ⟨none, 0, by rw [h, h0]⟩
        · exact ⟨_, _, h⟩
      have x5 := hS.q5.cell
      have l5 := hS.q5.lt
      by_cases hlt : a < (t.size : Int)
      · obtain ⟨f, rfl⟩ : ∃ f', f = f' + 1 := ⟨f - 1, by omega⟩
        have hT := hid (fun W => tkb_spec t a W ht)
        have hk := @tkB_ok t a
        have hE : rdL t (f + 1) a acc = if a < (t.size : Int) then (if (tkB t a).2 ≠ 0 then ([], (tkB t a).2) else if acc.length = 6 then ([], 6) else rdL t f (tkB t a).1.1.2 (acc ++ [(tkB t a).1.2])) else (acc, 0) := rfl
        rw [if_pos hlt, hZ2] at hE
        clear hZ2
        obtain ⟨X, hX⟩ : ∃ X, tkB t a = X := ⟨_, rfl⟩
        rw [hX] at hT hk hE
        clear hX
        obtain ⟨⟨⟨S, A⟩, ⟨F, D⟩⟩, c⟩ := X
        simp only at hk hE
        have hM0 : Hid (rdM wr (w.heap.size + 1) t.size = ((t.size : Int) - a).toNat) := rdM_at hS.q5
        replace hS := hid hS
        replace hk := hid hk
        replace hE := hid hE
        have hltb : decide (a < (t.size : Int)) = true := decide_eq_true hlt
        go_wp2_with fail
        refine (hT.out _).mono ?_
        rintro e w1 ⟨rfl, hb⟩
        obtain ⟨q6, q7, hal⟩ := two_newS w1 (curA S A) (bkA F D) 39 33
        have hS1 := hid ((hS.out.below hb).below hal)
        have hob : Hid (∀ g, (Value.slice oa acc.length ocap).ownBlock = some g → g < w1.heap.size) := fun g e => ((hS.out.below hb).own.lt g e).2
        have hl1 := (hS.out.below hb).q5.lt
        replace q6 := hid q6
        replace q7 := hid q7
        clear hb hS x5 l5 hal hT
        go_upto_region 7 with fail
        obtain ⟨W2, hW2⟩ : ∃ W, (w1.alloc (.cells (curA S A) 39)).alloc (.cells (bkA F D) 33) = W := ⟨_, rfl⟩
        obtain ⟨b6, hb6⟩ : ∃ b, w1.heap.size = b := ⟨_, rfl⟩
        rw [hW2, hb6] at q6 q7
        rw [hW2] at hS1 ⊢
        rw [hb6] at hl1 hob ⊢
        clear hW2 hb6
        by_cases hc : c = 0
        · obtain ⟨hS9, hA1, hA2, _⟩ := hk.out hc
          have hE2 := hE.out
          rw [if_neg (by omega)] at hE2
          replace hE2 := hid hE2
          clear hE hk
          subst hc hS9
          by_cases h6 : acc.length = 6
          · have hE3 := hE2.out
            rw [if_pos h6] at hE3
            subst hE3
            have hO := hid (World.ownsRow_made (e := 33) (size := 2) (base := w.heap.size) W2 #[] 0 hS1.out.bel.size (by unfold maxLen; omega) rfl)
            have hBe := hid (hS1.out.bel.alloc hS1.out.bel.size (.cells #[] 33))
            clear hS1 q6 q7 hE2
            go_wp2_with fail
            go_ret2
            exact ⟨_, rfl, hO.out, hBe.out⟩
          · have hE3 := hE2.out
            rw [if_neg h6] at hE3
            have h6b : ((acc.length : Int) == 6) = false := by rw [beq_eq_false_iff_ne]; omega
            have x7 := q7.out.cell
            have own2 := hid hS1.out.own
            have hba := hS1.out.bel.size
            have hacc2 : acc.length + 1 ≤ 6 := by omega
            replace hE3 := hid hE3
            clear hE2
            obtain ⟨n, hn⟩ : ∃ n, acc.length = n := ⟨_, rfl⟩
            rw [hn] at own2 h6b hob ⊢
            have happ : Hid (∀ (g cap : Nat) (w3 : World), w3.ownsRow w.heap.size 33 2 (.slice (some ⟨g, 0, none⟩) (n + 1) cap) (n + 1) (bkL acc ++ [.int .i64 F, .string D]) → (W2.alloc (.cells (bkA F D) 33)).grownBy w3 (Value.slice oa n ocap).ownBlock → ((Value.slice oa n ocap).ownBlock = some g ∨ g = (W2.alloc (.cells (bkA F D) 33)).heap.size) →
                Blk w3 b6 (curA S A) ∧ Blk w3 (w.heap.size + 1) (curA S a) ∧ RdS w ((w3.setCell ⟨w.heap.size + 1, 0, none⟩ (.string S)).setCell ⟨w.heap.size + 1, 1, none⟩ (.int .i64 A)) S A (.slice (some ⟨g, 0, none⟩) (n + 1) cap) (acc ++ [(F, D)])) := by
              intro g cap w3 ho hg hat
              have hS2 := hS1.out
              rw [hn] at hS2
              exact RdS.app (w1 := W2) hS2 hob.out q6.out hl1 hg (by rw [hn]; exact ho) (fun g' e' => by
                obtain rfl : g = g' := by simpa [Value.ownBlock] using e'
                exact hat)
            clear hS1 q6 q7
            have hnl : n + 1 ≤ 6 := by omega
            go_upto_region 12 with (at_builtin; refine wpList_append_lies _ rfl _ _ 23 rfl w.heap.size 33 i0 _ 2 24 Tryd.underlying23 hi0 hz0 hz1 hz2 rfl (by omega) _ n (bkL acc) rfl (own2.out.alloc _) ⟨_, 0, none⟩ 1 1 [.int .i64 F, .string D] rfl rfl (World.news_of_block (cs := #[.int .i64 F, .string D]) (t := 33) (fr := (0, 0)) (heap_alloc_new _ _)) (by simp [Value.oneCell']) (by omega) (by unfold maxLen; omega) (by omega) (by simp; omega) _ rfl ?_; intro g2 c2 w3 ho hg hat hlt2; obtain ⟨p6, p5, hS3⟩ := happ.out _ _ _ ho hg hat; have y6 := p6.cell; have y5 := p5.cell; have z5 := p5.frozen; have k5 := p5.lt; replace hS3 := hid hS3; clear ho hg hat hlt2 own2 happ x7 p6 p5)
            have hM3 : Hid (rdM ((w3.setCell ⟨w.heap.size + 1, 0, none⟩ (.string S)).setCell ⟨w.heap.size + 1, 1, none⟩ (.int .i64 A)) (w.heap.size + 1) S.size = ((S.size : Int) - A).toNat) := rdM_at hS3.out.q5
            have nb6 : ¬ b6 = w.heap.size + 1 := by omega
            have nb5 : ¬ w.heap.size + 1 = b6 := by omega
            go_wp2
            go_roundw
            case rel => exact ⟨f, A, _, hS3.out, hE3.out.symm, by omega, by omega, by omega, by rw [List.length_append, hn]; exact hnl⟩
            case measure =>
              rw [hM3.out, hM0.out]
              omega
        · have hE2 := hE.out
          rw [if_pos hc] at hE2
          subst hE2
          have hcb : (c == 0) = false := by simpa using hc
          have hO := hid (World.ownsRow_made (e := 33) (size := 2) (base := w.heap.size) W2 #[] 0 hS1.out.bel.size (by unfold maxLen; omega) rfl)
          have hBe := hid (hS1.out.bel.alloc hS1.out.bel.size (.cells #[] 33))
          clear hS1 q6 q7 hE hk
          go_wp2_with fail
          go_ret2
          exact ⟨_, rfl, hO.out, hBe.out⟩
      · have hE : rdL t f a acc = (acc, 0) := by
          cases f with
          | zero => rfl
          | succ f => exact if_neg hlt
        rw [hZ2] at hE
        subst hE
        have hO := hid hS.own
        have hBe := hid hS.bel
        have hltb : decide (a < (t.size : Int)) = false := decide_eq_false hlt
        clear hS hZ2
        go_wp2_with fail
        go_ret2
        exact ⟨_, rfl, hO.out, hBe.out⟩
end Go.Proofs.YtakdhmlegickmaaDoor
