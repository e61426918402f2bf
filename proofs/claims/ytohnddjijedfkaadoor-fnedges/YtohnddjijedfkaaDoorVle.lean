/- The bits of a text, one by one to whoever asks for them: the program's iterator. -/
import Derived.Test.YtohnddjijedfkaaDoorVke
namespace Go.Proofs.YtohnddjijedfkaaDoor
open Go.ChangeShapes Go.WideShapes Go.ChangeAt Go.RowKit Go.Shelf
attribute [local go_sem] Oper.semAt_some
set_option linter.unusedVariables false
set_option linter.unusedSimpArgs false

theorem eachBit_impl (t : ByteArray) (w : World) : Calls Tryd.prog 58 #[.string t] w fun e w' => e = .returned (.func (.func 63) #[] #[.pointer (some ⟨w.heap.size, 0, none⟩)]) ∧ w' = w.alloc (.cells #[.string t] 9) := by
  go_enter Tryd.func58, Tryd.ntmps58
  go_wp2
  go_ret
  exact ⟨rfl, rfl⟩
set_option maxRecDepth 100000 in
set_option maxHeartbeats 4000000 in
theorem bitit_impl {base L N : Nat} {fix : List Nat} {T : Int → Prop} {S : World → Value → List Int → Prop} (K : Sink base L fix T N S) (hT : ∀ b : Nat, b < 2 → T b) (t : ByteArray) (BT : Nat) (W : World) (v : Value) (pre : List Int) (h : S W v pre) (hq : Blk W BT #[.string t]) (hf : BT ∉ fix) (hn : v.ownBlock ≠ some BT) (ht : t.size ≤ 400) (hp : pre.length + 8 * t.size ≤ N) (d : Nat) :
    CallsIn Fence.wide (d + 2) Tryd.prog 63 #[.func (.yield L) #[] #[], .pointer (some ⟨BT, 0, none⟩)] W fun e W' => e = .returned (.tuple #[]) ∧ ∃ v', S W' v' (pre ++ bitL t (8 * t.size)) ∧ Kp fix W v W' v' := by
  have hlen := hid (bitL_len t)
  have hsn := hid (bitL_snoc t)
  have h0 : Hid (bitL t 0 = []) := rfl
  generalize hB : bitL t = B at *
  clear hB
  have x0 := hq.cell
  have l0 := hq.lt
  replace h := hid h
  replace hq := hid hq
  replace hn := hid hn
  replace hf := hid hf
  replace K := hid K
  replace hT := hid hT
  refine callsIn_of_wp Tryd.func63 rfl trivial ?_ rfl
  simp only [Tryd.ntmps63, List.size_toArray, List.length_cons, List.length_nil, Nat.reduceAdd, Nat.reduceSub, Array.replicate_succ, Array.replicate_zero, List.push_toArray, List.append_toArray, List.nil_append, List.cons_append]
  gi_wp2
  clear x0 l0
  gi_loopw [7] (fun i wr => ∃ (k : Nat) (v' : Value), k ≤ t.size ∧ i = .int .i64 k ∧ S wr v' (pre ++ B (8 * k)) ∧ Kp fix W v wr v') (fun i _ => t.size - (intOf i).toNat)
  case atStart => exact ⟨0, v, by omega, rfl, by rw [Nat.mul_zero, h0.out, List.append_nil]; exact h.out, Kp.refl _ _ _⟩
  case round =>
    obtain ⟨k, v1, hk, rfl, hS, hK⟩ := hrel
    clear h
    by_cases hlt : k < t.size
    · replace hS := hid hS
      replace hK := hid hK
      gi_wp2
      gi_loopw [4] (fun j wr => ∃ (m : Nat) (v' : Value), m ≤ 8 ∧ j = .int .i64 (7 - (m : Int)) ∧ S wr v' (pre ++ B (8 * k + m)) ∧ Kp fix W v wr v') (fun j _ => ((intOf j) + 1).toNat)
      case atStart => exact ⟨0, v1, by omega, rfl, hS.out, hK.out⟩
      case round =>
        obtain ⟨m, v2, hm, rfl, hS1, hK1⟩ := hrel
        clear hS hK
        by_cases hlt2 : m < 8
        · obtain ⟨q, hq', hq8⟩ : ∃ q : Nat, (7 : Int) - m = (q : Int) ∧ m = 7 - q ∧ q < 8 := ⟨7 - m, by omega, by omega, by omega⟩
          have hbw := bit_walk t k q hq8.2
          have hx := run_idx t k k rfl hlt
          have hby := byt_bd t k
          have hsn2 := hid (hsn.out (8 * k + m))
          have hE : bitN t (8 * k + m) = bitN t (8 * k + (7 - q)) := by rw [hq8.1]
          rw [hE] at hsn2
          have hTX := hT.out _ (bitN_lt t (8 * k + (7 - q)))
          generalize bitN t (8 * k + (7 - q)) = X at *
          clear hE
          have hL1 : (pre ++ B (8 * k + m)).length < N := by rw [List.length_append, hlen.out]; omega
          obtain ⟨fn, tmps, assign, body, hy, hR⟩ := K.out.step (d + 1) (X : Int) hS1 hTX hL1
          have hqb := hK1.blk hq.out hf.out hn.out
          have x1 := hqb.cell
          have l1 := hqb.lt
          replace hR := hid hR
          replace hK1 := hid hK1
          have hq7 : (7 : Int) - ((m + 1 : Nat) : Int) = (q : Int) - 1 := by omega
          clear hS1 hqb hL1 hTX
          rw [hq']
          gi_wp2
          refine hR.out.mono ?_
          rintro e W3 ⟨rfl, v3, hS3, hK3⟩
          have hK4 := hid (hK1.out.trans hK3)
          have hS4 : Hid (S W3 v3 (pre ++ B (8 * k + (m + 1)))) := by
            have e1 : 8 * k + (m + 1) = 8 * k + m + 1 := by omega
            rw [e1, hsn2.out, ← List.append_assoc]
            exact hS3
          clear hS3 hK3 hy hR x1 hK1
          gi_wp2
          go_roundw
          case rel => exact ⟨m + 1, v3, by omega, by rw [hq7], hS4.out, hK4.out⟩
          case measure => simp [intOf] <;> omega
        · obtain rfl : m = 8 := by omega
          replace hS1 := hid hS1
          replace hK1 := hid hK1
          gi_wp2
          go_roundw
          case rel => exact ⟨k + 1, v2, by omega, by go_num, by rw [Nat.mul_add]; exact hS1.out, hK1.out⟩
          case measure => simp [intOf] <;> omega
    · obtain rfl : k = t.size := by omega
      replace hS := hid hS
      replace hK := hid hK
      gi_wp2
      exact bodyPost_end (v := .tuple #[]) (by simp [results, Tryd.results63]) rfl ⟨rfl, v1, hS.out, hK.out⟩
end Go.Proofs.YtohnddjijedfkaaDoor
