/- The words of a text, as the specification gathers them. -/
import Derived.Test.YtneagomkohoceaaDoorBasec
import Derived.Test.YtneagomkohoceaaDoorWoc
import Derived.Test.YtneagomkohoceaaDoorKic
import Derived.Deep.AppendLies
import Derived.OwnWalk
namespace Go.Proofs.YtneagomkohoceaaDoor
open Go.ChangeShapes Go.WideShapes Go.ChangeAt Go.RowKit
set_option linter.unusedVariables false
set_option linter.unusedSimpArgs false

theorem infoS2 : (Tryd.prog.info? 9).map (fun i => (i.zero, i.size, i.bytes)) = some (some (.string ⟨#[]⟩), 1, 16) := by kernel_rfl
def pcs (s : ByteArray) (k : Nat) : List Value := (wdS s k).1.map fun x => Value.string (s.extract x.1 x.2)
theorem pcs_len (s : ByteArray) (k : Nat) : (pcs s k).length = (wdS s k).1.length := by simp [pcs]
theorem pcs_all (s : ByteArray) : pcs s (s.size + 1) = (wordsB s).map Value.string := by simp [pcs, wordsB, Function.comp_def]
/-- while the words are gathered: k places have been looked at -/
structure WSt (w W : World) (s : ByteArray) (k : Nat) (u : Value) : Prop where
  own : W.ownsRow w.heap.size 9 1 u (wdS s k).1.length (pcs s k)
  bel : Below w.heap.size w W
theorem WSt.skip {w W : World} {s : ByteArray} {k : Nat} {u : Value} (h : WSt w W s k u) (hk : ¬ (k = s.size ∨ byt s k = 32)) : WSt w W s (k + 1) u := by
  have e := wdS_skip hk
  exact ⟨by unfold pcs; rw [e]; exact h.own, h.bel⟩
theorem WSt.cut0 {w W : World} {s : ByteArray} {k : Nat} {u : Value} (h : WSt w W s k u) (hk : k = s.size ∨ byt s k = 32) (hf : ¬ (wdS s k).2 < k) : WSt w W s (k + 1) u := by
  have e : (wdS s (k + 1)).1 = (wdS s k).1 := by rw [wdS_cut hk, if_neg hf]
  exact ⟨by unfold pcs; rw [e]; exact h.own, h.bel⟩
theorem WSt.cut1 {w W w2 : World} {s : ByteArray} {k : Nat} {u v : Value} {o : Obj} (h : WSt w W s k u) (hk : k = s.size ∨ byt s k = 32) (hf : (wdS s k).2 < k) (hs : w.heap.size ≤ W.heap.size)
    (ho : w2.ownsRow w.heap.size 9 1 v ((wdS s k).1.length + 1) (pcs s k ++ [.string (s.extract (wdS s k).2 k)])) (hg : (W.alloc o).grownBy w2 u.ownBlock) : WSt w w2 s (k + 1) v := by
  have e : (wdS s (k + 1)).1 = (wdS s k).1 ++ [((wdS s k).2, k)] := by rw [wdS_cut hk, if_pos hf]
  refine ⟨?_, (h.bel.alloc h.bel.size o).grown hg (by simp; omega) (fun b hb => (h.own.lt b hb).1)⟩
  unfold pcs
  rw [e, List.map_append, List.length_append]
  exact ho
theorem WSt.after {s : ByteArray} {k : Nat} (hk : k = s.size ∨ byt s k = 32) : (wdS s (k + 1)).2 = k + 1 := by rw [wdS_cut hk]
set_option maxRecDepth 100000 in
set_option maxHeartbeats 1000000 in
theorem words_spec0 (s : ByteArray) (w : World) (hs : s.size ≤ 65536) :
    Calls Tryd.prog 73 #[.string s] w fun e w' => ∃ v, e = .returned v ∧ w'.ownsRow w.heap.size 9 1 v (wordsB s).length ((wordsB s).map Value.string) ∧ Below w.heap.size w w' := by
  obtain ⟨i0, hi0, hz0, hz1, hz2⟩ := info_parts infoS2
  have S0 : Hid (WSt w (w.alloc (.cells #[] 9)) s 0 (.slice (some ⟨w.heap.size, 0, none⟩) 0 0)) := ⟨World.ownsRow_lit w #[] 0 (Nat.le_refl _) (by decide) rfl, (Below.refl _ _).alloc (Nat.le_refl _) _⟩
  go_enter Tryd.func73, Tryd.ntmps73
  go_wp2
  go_loopw [3, 4, 5] (fun u f i wr => ∃ j : Nat, j ≤ s.size + 1 ∧ i = .int .i64 j ∧ f = .int .i64 ((wdS s j).2 : Nat) ∧ WSt w wr s j u) (fun _ _ i _ => s.size + 1 - (intOf i).toNat)
  case atStart => exact ⟨0, by omega, rfl, rfl, S0.out⟩
  case round =>
    obtain ⟨j, hj, rfl, rfl, hS⟩ := hrel
    clear S0
    have hbase := hS.bel.size
    have hln := wdS_len s j
    have hle := wdS_le s j
    by_cases hlt : j < s.size
    · have hid1 := run_idx s (j : Int) j rfl hlt
      have hne : ((j : Int) == (s.size : Int)) = false := by simp; omega
      by_cases h32 : byt s j = 32
      · have hcut : j = s.size ∨ byt s j = 32 := .inr h32
        have hnx := hid (WSt.after hcut)
        rw [h32] at hid1
        by_cases hf : (wdS s j).2 < j
        · have hst : Hid (∀ w2 v o, w2.ownsRow w.heap.size 9 1 v ((wdS s j).1.length + 1) (pcs s j ++ [.string (s.extract (wdS s j).2 j)]) → (wr.alloc o).grownBy w2 u3.ownBlock → WSt w w2 s (j + 1) v) := fun w2 v o h1 h2 => hS.cut1 hcut hf hbase h1 h2
          have hown := hid hS.own
          clear hS h32 hcut
          generalize (wdS s j).2 = F at *
          generalize (wdS s j).1.length = L at *
          go_wp2_with (at_builtin; refine wpList_append_lies _ rfl _ _ 37 rfl w.heap.size 9 i0 _ 1 16 Tryd.underlying37 hi0 hz0 hz1 hz2 rfl (by omega) _ L (pcs s j) rfl (hown.out.alloc _) ⟨_, 0, none⟩ 1 1 [.string (s.extract F j)] rfl rfl (World.news_of_block (cs := #[.string (s.extract F j)]) (t := 9) (fr := (0, 0)) (heap_alloc_new _ _)) (by simp [Value.oneCell']) (by omega) (by unfold maxLen; omega) (by omega) (by simp; omega) _ rfl ?_; intro g2 c2 w2 ho hg hat hlt2; have hS2 := hid (hst.out _ _ _ ho hg); clear ho hg hat hlt2 hst hown)
          go_roundw
          case rel => exact ⟨j + 1, by omega, by go_num, by rw [hnx.out]; go_num, hS2.out⟩
          case measure => simp [intOf]; omega
        · have hS2 := hid (hS.cut0 hcut hf)
          have hge : ¬ (((wdS s j).2 : Nat) : Int) < (j : Int) := by omega
          clear hS h32 hcut
          generalize (wdS s j).2 = F at *
          go_wp2
          go_roundw
          case rel => exact ⟨j + 1, by omega, by go_num, by rw [hnx.out]; go_num, hS2.out⟩
          case measure => simp [intOf]; omega
      · have hS2 := hid (hS.skip (by omega))
        have hF := hid (congrArg Prod.snd (wdS_skip (s := s) (k := j) (by omega)))
        have h32' : (byt s j == 32) = false := by simpa using h32
        clear hS h32
        generalize byt s j = z at *
        generalize (wdS s j).2 = F at *
        go_wp2
        go_roundw
        case rel => exact ⟨j + 1, by omega, by go_num, by rw [hF.out], hS2.out⟩
        case measure => simp [intOf]; omega
    · by_cases hend : j = s.size
      · have hcut : j = s.size ∨ byt s j = 32 := .inl hend
        have hnx := hid (WSt.after hcut)
        have heq : ((j : Int) == (s.size : Int)) = true := by simp; omega
        have hje : (j : Int) ≤ (s.size : Int) := by omega
        have hje2 : j < s.size + 1 := by omega
        replace hend := hid hend
        by_cases hf : (wdS s j).2 < j
        · have hst : Hid (∀ w2 v o, w2.ownsRow w.heap.size 9 1 v ((wdS s j).1.length + 1) (pcs s j ++ [.string (s.extract (wdS s j).2 j)]) → (wr.alloc o).grownBy w2 u3.ownBlock → WSt w w2 s (j + 1) v) := fun w2 v o h1 h2 => hS.cut1 hcut hf hbase h1 h2
          have hown := hid hS.own
          clear hS hcut hend hlt
          generalize (wdS s j).2 = F at *
          generalize (wdS s j).1.length = L at *
          go_wp2_with (at_builtin; refine wpList_append_lies _ rfl _ _ 37 rfl w.heap.size 9 i0 _ 1 16 Tryd.underlying37 hi0 hz0 hz1 hz2 rfl (by omega) _ L (pcs s j) rfl (hown.out.alloc _) ⟨_, 0, none⟩ 1 1 [.string (s.extract F j)] rfl rfl (World.news_of_block (cs := #[.string (s.extract F j)]) (t := 9) (fr := (0, 0)) (heap_alloc_new _ _)) (by simp [Value.oneCell']) (by omega) (by unfold maxLen; omega) (by omega) (by simp; omega) _ rfl ?_; intro g2 c2 w2 ho hg hat hlt2; have hS2 := hid (hst.out _ _ _ ho hg); clear ho hg hat hlt2 hst hown)
          go_roundw
          case rel => exact ⟨j + 1, by omega, by go_num, by rw [hnx.out]; go_num, hS2.out⟩
          case measure => simp [intOf]; omega
        · have hS2 := hid (hS.cut0 hcut hf)
          have hge : ¬ (((wdS s j).2 : Nat) : Int) < (j : Int) := by omega
          clear hS hcut hend hlt
          generalize (wdS s j).2 = F at *
          go_wp2
          go_roundw
          case rel => exact ⟨j + 1, by omega, by go_num, by rw [hnx.out]; go_num, hS2.out⟩
          case measure => simp [intOf]; omega
      · obtain rfl : j = s.size + 1 := by omega
        have hown := hid hS.own
        have hb := hid hS.bel
        have hal := hid (pcs_all s)
        have hle2 : (wdS s (s.size + 1)).1.length = (wordsB s).length := by simp [wordsB]
        rw [hle2, pcs_all] at hown
        clear hS
        go_wp2
        go_ret
        exact ⟨_, rfl, hown.out, hb.out⟩
end Go.Proofs.YtneagomkohoceaaDoor
