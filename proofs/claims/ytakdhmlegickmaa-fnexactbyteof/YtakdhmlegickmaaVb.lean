/- The bits of a text and the pulses of a block: the specification. -/
import Derived.Test.YtakdhmlegickmaaVa
import Derived.Test.YtakdhmlegickmaaAu
import Derived.OwnWalk
import Derived.Deep.AppendLies
import Derived.Deep.DeepCutAuto
namespace Go.Proofs.Ytakdhmlegickmaa
open Go.ChangeShapes Go.WideShapes Go.ChangeAt Go.RowKit
set_option linter.unusedVariables false
set_option linter.unusedSimpArgs false

theorem infoIV : (Try.prog.info? 3).map (fun i => (i.zero, i.size, i.bytes)) = some (some (.int .i64 0), 1, 8) := by kernel_rfl
/-- a row of numbers that grows -/
structure Grow (w W : World) (v : Value) (l : List Int) : Prop where
  own : W.ownsRow w.heap.size 3 1 v l.length (l.map (Value.int .i64))
  bel : Below w.heap.size w W
theorem Grow.below {w W W' : World} {v : Value} {l : List Int} (h : Grow w W v l) (hb : Below W.heap.size W W') : Grow w W' v l := ⟨own_belowU h.own hb, h.bel.trans (hb.mono h.bel.size)⟩
theorem Grow.form {w W : World} {v : Value} {l : List Int} (h : Grow w W v l) : ∃ oa cap, v = .slice oa l.length cap := by
  obtain ⟨_, ⟨h1, h0⟩ | ⟨g, cap, _, h1, _⟩⟩ := h.own
  · exact ⟨none, 0, by rw [h1, h0]⟩
  · exact ⟨_, _, h1⟩
theorem Grow.app {w W W' : World} {v v' : Value} {l : List Int} {o : Obj} (h : Grow w W v l) (xs : List Int) (ho : W'.ownsRow w.heap.size 3 1 v' (l.length + xs.length) (l.map (Value.int .i64) ++ xs.map (Value.int .i64))) (hg : (W.alloc o).grownBy W' v.ownBlock) : Grow w W' v' (l ++ xs) := by
  have hsz := h.bel.size
  refine ⟨by rw [List.length_append, List.map_append]; exact ho, ?_⟩
  exact (h.bel.alloc (by omega) _).grown hg (by simp; omega) (fun g hg => (h.own.lt g hg).1)
theorem Grow.nil (w : World) : Grow w (w.alloc (.cells #[] 3)) (.slice (some ⟨w.heap.size, 0, none⟩) 0 0) [] := ⟨World.ownsRow_lit w #[] 0 (Nat.le_refl _) (by decide) rfl, (Below.refl _ _).alloc (Nat.le_refl _) _⟩
set_option maxRecDepth 100000 in
set_option maxHeartbeats 2000000 in
theorem bits_spec (t : ByteArray) (w : World) (ht : t.size ≤ 400) : Calls Try.prog 20 #[.string t] w fun e w' => ∃ v, e = .returned v ∧ Grow w w' v (bitL t (8 * t.size)) := by
  obtain ⟨i0, hi0, hz0, hz1, hz2⟩ := info_parts infoIV
  have hG0 := hid (Grow.nil w)
  have hlen := hid (bitL_len t)
  have hsn := hid (bitL_snoc t)
  have h0 : Hid (bitL t 0 = []) := rfl
  generalize hB : bitL t = B at *
  clear hB
  go_enter Try.func20, Try.ntmps20
  go_upto_region 2 with fail
  obtain ⟨W1, hW1⟩ : ∃ W1, w.alloc (.cells #[] 3) = W1 := ⟨_, rfl⟩
  rw [hW1] at hG0 ⊢
  clear hW1
  go_wp2
  go_loopw [3, 4] (fun v i wr => ∃ k : Nat, k ≤ t.size ∧ i = .int .i64 k ∧ Grow w wr v (B (8 * k))) (fun _ i _ => t.size - (intOf i).toNat)
  case atStart => exact ⟨0, by omega, rfl, by rw [Nat.mul_zero, h0.out]; exact hG0.out⟩
  case round =>
    obtain ⟨k, hk, rfl, hG⟩ := hrel
    clear hG0
    by_cases hlt : k < t.size
    · replace hG := hid hG
      go_wp2
      go_loopw [3, 5] (fun v j wr => ∃ m : Nat, m ≤ 8 ∧ j = .int .i64 (7 - (m : Int)) ∧ Grow w wr v (B (8 * k + m))) (fun _ j _ => ((intOf j) + 1).toNat)
      case atStart => exact ⟨0, by omega, rfl, hG.out⟩
      case round =>
        obtain ⟨m, hm, rfl, hG1⟩ := hrel
        clear hG
        by_cases hlt2 : m < 8
        · obtain ⟨q, hq, hq8⟩ : ∃ q : Nat, (7 : Int) - m = (q : Int) ∧ m = 7 - q ∧ q < 8 := ⟨7 - m, by omega, by omega, by omega⟩
          have hbw := bit_walk t k q hq8.2
          have hx := run_idx t k k rfl hlt
          have hby := byt_bd t k
          have hsn2 := hid (hsn.out (8 * k + m))
          have hE : bitN t (8 * k + m) = bitN t (8 * k + (7 - q)) := by rw [hq8.1]
          rw [hE] at hsn2
          generalize bitN t (8 * k + (7 - q)) = X at *
          clear hE
          obtain ⟨n, hn⟩ : ∃ n, 8 * k + m = n := ⟨_, rfl⟩
          rw [hn] at hG1 hsn2
          have hn4 : n ≤ 3200 := by omega
          have hnn : 8 * k + (m + 1) = n + 1 := by omega
          have hL := hlen.out n
          obtain ⟨A, hA⟩ : ∃ A, B n = A := ⟨_, rfl⟩
          rw [hA] at hG1 hL hsn2
          obtain ⟨oa, cap, rfl⟩ := hG1.form
          have happ : Hid (∀ (v' : Value) (w1 : World), w1.ownsRow w.heap.size 3 1 v' (n + 1) (A.map (Value.int .i64) ++ [.int .i64 (X : Int)]) → (wr.alloc (.cells #[.int .i64 (X : Int)] 3)).grownBy w1 (Value.slice oa A.length cap).ownBlock → Grow w w1 v' (B (8 * k + (m + 1)))) := fun v' w1 ho hg => by
            rw [hnn, hsn2.out]
            exact hG1.app [(X : Int)] (by rw [hL]; exact ho) hg
          have own1 := hid hG1.own
          have hba := hG1.bel.size
          rw [hL] at own1 happ ⊢
          clear hG1 hA hsn2 hn hnn
          rw [hq]
          have hq7 : (7 : Int) - ((m + 1 : Nat) : Int) = (q : Int) - 1 := by omega
          go_wp2_with (at_builtin; refine wpList_append_lies _ rfl _ _ 25 rfl w.heap.size 3 i0 _ 1 8 Try.underlying25 hi0 hz0 hz1 hz2 rfl (by omega) _ n (A.map (Value.int .i64)) rfl (own1.out.alloc _) ⟨_, 0, none⟩ 1 1 [.int .i64 (X : Int)] rfl rfl (World.news_of_block (cs := #[.int .i64 (X : Int)]) (t := 3) (fr := (0, 0)) (heap_alloc_new _ _)) (by simp [Value.oneCell']) (by omega) (by unfold maxLen; omega) (by omega) (by simp; omega) _ rfl ?_; intro gg cap2 w1 ho hg hat hlt3; have hG2 := hid (happ.out _ _ ho hg); clear ho hg hat hlt3 happ own1)
          go_roundw
          case rel => exact ⟨m + 1, by omega, by rw [hq7], hG2.out⟩
          case measure => simp [intOf] <;> omega
        · obtain rfl : m = 8 := by omega
          have hG2 := hid hG1
          clear hG1
          go_wp2
          go_roundw
          case rel => exact ⟨k + 1, by omega, by go_num, by rw [Nat.mul_add]; exact hG2.out⟩
          case measure => simp [intOf]; omega
    · obtain rfl : k = t.size := by omega
      replace hG := hid hG
      go_wp2
      go_ret
      exact ⟨_, rfl, hG.out⟩
end Go.Proofs.Ytakdhmlegickmaa
