/- Instructions read back from their bytes and from their texts: plain facts. -/
import Derived.Test.YtneagomkohoceaaDoorTzac
import Derived.Test.YtneagomkohoceaaDoorTyac
import Derived.Test.YtneagomkohoceaaDoorIcc
import Derived.Test.YtneagomkohoceaaDoorC29
import Derived.Test.YtneagomkohoceaaDoorIqc
namespace Go.Proofs.YtneagomkohoceaaDoor
open Go.ChangeShapes Go.WideShapes Go.ChangeAt Go.RowKit
set_option linter.unusedVariables false
set_option linter.unusedSimpArgs false

theorem kd_len : ∀ k, k < 23 → 1 + bitI (hasC k 66 || hasC k 78) = lenM (kdN k) := by decide +kernel
theorem kd_23z : hasM (kdN 23) 1 = false ∧ hasM (kdN 23) 2 = false ∧ hasM (kdN 23) 12 = true ∧ lenM (kdN 23) = 1 := by decide +kernel
theorem kd_both : ∀ k, k < 23 → hasC k 66 = true → hasC k 78 = false := by decide +kernel
theorem dec_zero {x y : Int} (h0 : 0 ≤ x) (h1 : x ≤ 255) (h2 : 0 ≤ y) (h3 : y ≤ 255) {K A B N : Nat} (eO : decO x = K) (eA : decA x = A) (eB : decB x y = B) (eN : decN x y = N) :
    (hasM (kdN K) 1 = false → A = 0) ∧ (hasM (kdN K) 2 = false → B = 0) ∧ (hasM (kdN K) 12 = false → N = 0) ∧ decL x = lenM (kdN K) := by
  by_cases h : 23 ≤ x / 8
  · unfold decO at eO
    unfold decA at eA
    unfold decB at eB
    unfold decL
    rw [if_pos h] at eO eA eB ⊢
    obtain rfl : K = 23 := by omega
    obtain ⟨k1, k2, k3, k4⟩ := kd_23z
    exact ⟨fun _ => by omega, fun _ => by omega, fun h9 => (by rw [k3] at h9; cases h9), k4.symm⟩
  · unfold decO at eO
    unfold decA at eA
    unfold decB at eB
    unfold decN at eN
    unfold decL
    rw [if_neg h] at eO eA eB eN ⊢
    have eK : (x / 8).toNat = K := by omega
    have hK : K < 23 := by omega
    rw [eK] at eA eB eN ⊢
    rw [kd_len K hK]
    rcases kd_five K hK with ⟨c1, c2, c3, m1, m2, m3⟩ | ⟨c1, c2, c3, m1, m2, m3⟩ | ⟨c1, c2, c3, m1, m2, m3⟩ | ⟨c1, c2, c3, m1, m2, m3⟩ | ⟨c1, c2, c3, m1, m2, m3⟩
    all_goals
      rw [c1] at eA
      rw [c2] at eB
      rw [c3] at eN
      rw [m1, m2, m3]
      refine ⟨fun h9 => ?_, fun h9 => ?_, fun h9 => ?_, rfl⟩
      all_goals first
        | (cases h9; done)
        | (simp at eA; omega)
        | (simp at eB; omega)
        | (simp at eN; omega)
/-- what is encoded is decoded again, whatever stands behind it -/
theorem enc_back {x y : Int} (h0 : 0 ≤ x) (h1 : x ≤ 255) (h2 : 0 ≤ y) (h3 : y ≤ 255) : ∃ e0 e1 : Int, (0 ≤ e0 ∧ e0 ≤ 255) ∧ (0 ≤ e1 ∧ e1 ≤ 255) ∧ encL (decO x) (decA x) (decB x y) (decN x y) (decL x) = (if decL x = 2 then [e0, e1] else [e0]) ∧ ∀ z : Int, 0 ≤ z → z ≤ 255 → (decL x = 2 → z = e1) → dcdV e0 z = dcdV x y ∧ decL e0 = decL x ∧ insB e0 z = insB x y := by
  by_cases h : 23 ≤ x / 8
  · refine ⟨x, 0, ⟨h0, h1⟩, ⟨by omega, by omega⟩, ?_, fun z z0 z1 _ => ?_⟩
    · unfold encL decO decN decL
      rw [if_pos h, if_pos rfl, if_pos h, if_pos h, if_neg (by decide)]
    · have e : decB x z = decB x y ∧ decN x z = decN x y := by unfold decB decN; rw [if_pos h, if_pos h, if_pos h, if_pos h]; exact ⟨rfl, rfl⟩
      refine ⟨by unfold dcdV; rw [e.1, e.2], rfl, by unfold insB; rw [e.1, e.2]⟩
  · obtain ⟨k, hk⟩ : ∃ k : Nat, x / 8 = (k : Int) := ⟨(x / 8).toNat, by omega⟩
    have hk23 : k < 23 := by omega
    have hkt : (x / 8).toNat = k := by omega
    have hb := kd_both k hk23
    obtain ⟨a, ha⟩ : ∃ a : Int, (if hasC k 65 = true then x % 8 else 0) = a := ⟨_, rfl⟩
    have hab : 0 ≤ a ∧ a ≤ 7 := by rw [← ha]; split <;> omega
    have e0d : (8 * (k : Int) + a) / 8 = (k : Int) := by omega
    have e0m : (8 * (k : Int) + a) % 8 = a := by omega
    have hO : decO x = k := by unfold decO; rw [if_neg h, hk]
    have hA : decA x = a := by unfold decA; rw [if_neg h, hkt, ha]
    have hB : decB x y = if hasC k 66 = true then y % 8 else 0 := by unfold decB; rw [if_neg h, hkt]
    have hN : decN x y = if hasC k 78 = true then y else 0 := by unfold decN; rw [if_neg h, hkt]
    have hL : decL x = 1 + bitI (hasC k 66 || hasC k 78) := by unfold decL; rw [if_neg h, hkt]
    have hn0 : ¬ 23 ≤ (8 * (k : Int) + a) / 8 := by omega
    have ht0 : ((8 * (k : Int) + a) / 8).toNat = k := by omega
    have hO' : decO (8 * (k : Int) + a) = k := by unfold decO; rw [if_neg hn0, e0d]
    have hA' : decA (8 * (k : Int) + a) = a := by
      unfold decA
      rw [if_neg hn0, ht0, e0m]
      rw [← ha]
      split <;> rfl
    have hB' : ∀ z, decB (8 * (k : Int) + a) z = if hasC k 66 = true then z % 8 else 0 := fun z => by unfold decB; rw [if_neg hn0, ht0]
    have hN' : ∀ z, decN (8 * (k : Int) + a) z = if hasC k 78 = true then z else 0 := fun z => by unfold decN; rw [if_neg hn0, ht0]
    have hL' : decL (8 * (k : Int) + a) = 1 + bitI (hasC k 66 || hasC k 78) := by unfold decL; rw [if_neg hn0, ht0]
    refine ⟨8 * (k : Int) + a, decB x y + decN x y, ⟨by omega, by omega⟩, ?_, ?_, fun z z0 z1 hz => ?_⟩
    · rw [hB, hN]
      cases h6 : hasC k 66
      · cases hasC k 78 <;> simp <;> omega
      · rw [hb h6]
        simp
        omega
    · unfold encL
      rw [hO, hA, if_neg (by omega)]
    · have key : decB (8 * (k : Int) + a) z = decB x y ∧ decN (8 * (k : Int) + a) z = decN x y := by
        rw [hB', hN', hB, hN]
        rw [hL, hB, hN] at hz
        cases h6 : hasC k 66
        · rw [h6] at hz
          cases h7 : hasC k 78
          · exact ⟨rfl, rfl⟩
          · rw [h7] at hz
            have := hz rfl
            simp at this ⊢
            omega
        · rw [h6, hb h6] at hz
          rw [hb h6]
          have := hz rfl
          simp at this ⊢
          omega
      refine ⟨by unfold dcdV; rw [hO', hA', key.1, key.2, hL', hO, hA, hL], by rw [hL', hL], by unfold insB; rw [hO', hA', key.1, key.2, hO, hA]⟩
/-- what a list of code says of one instruction -/
theorem lc_one {x y : Int} (h0 : 0 ≤ x) (h1 : x ≤ 255) (h2 : 0 ≤ y) (h3 : y ≤ 255) : lc2 (encL (decO x) (decA x) (decB x y) (decN x y) (decL x)) = ([⟨#[48, 48, 32]⟩ ++ insB x y], 0) := by
  obtain ⟨e0, e1, b0, b1, hE, hd⟩ := enc_back h0 h1 h2 h3
  have hx : hxB ((0 : Nat) : Int) ++ ⟨#[32]⟩ = ⟨#[48, 48, 32]⟩ := by decide +kernel
  have hL := decL_pos x
  rw [hE]
  by_cases h : decL x = 2
  · rw [if_pos h]
    obtain ⟨_, d2, d3⟩ := hd e1 b1.1 b1.2 (fun _ => rfl)
    have s1 : lcS [e0, e1] 1 = (2, [lcW [e0, e1] 0]) := by
      have := lcS_succ (zs := [e0, e1]) (k := 0) (by show 0 < 2; omega)
      rw [this]
      show (0 + (decL e0).toNat, _) = _
      rw [d2, h]
      rfl
    have s2 := lcS_fin (zs := [e0, e1]) (k := 1) (by rw [s1]; exact Nat.le_refl 2)
    unfold lc2
    rw [if_neg (by simp), if_neg (by simp), if_pos (by simp [inB, b0, b1]), ← s2, s1]
    show ([hxB ((0 : Nat) : Int) ++ ⟨#[32]⟩ ++ insB e0 e1], _) = _
    rw [hx, d3]
  · rw [if_neg h]
    obtain ⟨_, d2, d3⟩ := hd 0 (by omega) (by omega) (fun h9 => absurd h9 h)
    have s1 : lcS [e0] 1 = (1, [lcW [e0] 0]) := by
      have := lcS_succ (zs := [e0]) (k := 0) (by show 0 < 1; omega)
      rw [this]
      show (0 + (decL e0).toNat, _) = _
      rw [d2, show decL x = 1 from by omega]
      rfl
    have s2 := lcS_fin (zs := [e0]) (k := 1) (by rw [s1]; exact Nat.le_refl 1)
    unfold lc2
    rw [if_neg (by simp), if_neg (by simp), if_pos (by simp [inB, b0]), ← s2, s1]
    show ([hxB ((0 : Nat) : Int) ++ ⟨#[32]⟩ ++ insB e0 0], _) = _
    rw [hx, d3]
end Go.Proofs.YtneagomkohoceaaDoor

/- Instructions read back from their texts, with blanks about them: plain. -/
namespace Go.Proofs.YtneagomkohoceaaDoor
open Go.ChangeShapes Go.WideShapes Go.ChangeAt Go.RowKit
set_option linter.unusedVariables false
set_option linter.unusedSimpArgs false

theorem kdW_clean : ∀ k, k < 24 → kdW k ≠ ⟨#[]⟩ ∧ ((kdW k).data.toList.all fun b => b != 32) = true := by decide +kernel
def spcT (t : ByteArray) : ByteArray := ⟨#[32, 32]⟩ ++ t ++ ⟨#[32]⟩
def txtF (K A B N : Nat) : List ByteArray := txtL K A B N (offsK (kdN K)).length
theorem txtF_eq (K A B N : Nat) : txtF K A B N = kdW K :: ((offsK (kdN K)).map fun o => digB (numA A B N o)) := by
  unfold txtF txtL
  rw [List.take_of_length_le (Nat.le_refl _)]
theorem spc_words (K A B N : Nat) (hK : K < 24) (hA : A < 256) (hB : B < 256) (hN : N < 256) : wordsB (spcT (textB K A B N)) = txtF K A B N := by
  have hne : ∀ x ∈ txtF K A B N, x ≠ ⟨#[]⟩ ∧ ∀ b ∈ x.data.toList, b ≠ 32 := by
    intro x hx
    rw [txtF_eq, List.mem_cons] at hx
    rcases hx with rfl | hx
    · obtain ⟨h1, h2⟩ := kdW_clean K hK
      exact ⟨h1, fun b hb => by simpa using List.all_eq_true.1 h2 b hb⟩
    · obtain ⟨o, _, rfl⟩ := List.mem_map.1 hx
      have hv : numA A B N o < 256 := by unfold numA; split; omega; split <;> omega
      obtain ⟨h1, _, h3⟩ := num_of _ hv
      exact ⟨fun e => by have := h1.1; rw [e] at this; exact absurd this (by decide), h3⟩
  have hs : spcT (textB K A B N) = ⟨(([32, 32] : List UInt8) ++ flatW ((txtF K A B N).map fun x : ByteArray => x.data.toList)).toArray⟩ := by
    have hj := join_text K A B N hK
    have hf := join_flat ((txtF K A B N).map fun x : ByteArray => x.data.toList) (by rw [txtF_eq]; simp)
    rw [← hf]
    unfold spcT
    rw [← hj]
    apply ByteArray.ext
    apply Array.ext'
    simp [ByteArray.data_append, txtF]
  rw [hs, words_flat _ (fun w hw => by
    obtain ⟨x, hx, rfl⟩ := List.mem_map.1 hw
    obtain ⟨h1, h2⟩ := hne x hx
    exact ⟨fun e => h1 (by apply ByteArray.ext; apply Array.ext'; exact e), h2⟩), List.map_map]
  have : ((fun w : List UInt8 => (⟨w.toArray⟩ : ByteArray)) ∘ fun x : ByteArray => x.data.toList) = id := by
    funext x
    apply ByteArray.ext
    simp
  rw [this, List.map_id]
theorem insN_txt (K A B N : Nat) (hK : K < 24) (hA : A < 256) (hB : B < 256) (hN : N < 256) (zA : hasM (kdN K) 1 = false → A = 0) (zB : hasM (kdN K) 2 = false → B = 0) (zN : hasM (kdN K) 12 = false → N = 0) :
    insN K (txtF K A B N) (offL K) = ((A : Int), (B : Int), (N : Int)) := by
  have nA := (num_of A hA).2.1
  have nB := (num_of B hB).2.1
  have nN := (num_of N hN).2.1
  rcases kd_offs K hK with ⟨g1, g2, g3⟩ | ⟨g1, g2, g3⟩ | ⟨g1, g2, g3⟩ | ⟨g1, g2, g3⟩ | ⟨g1, g2, g3⟩
  · have e : offsK (kdN K) = [] := by unfold offsK; rw [g1, g2, g3]; rfl
    obtain rfl := zA g1
    obtain rfl := zB g2
    obtain rfl := zN g3
    unfold offL
    rw [e]
    rfl
  · have e : offsK (kdN K) = [1, 2] := by unfold offsK; rw [g1, g2, g3]; rfl
    obtain rfl := zN g3
    unfold offL
    rw [txtF_eq, e]
    show setI (setI (0, 0, 0) ((offsK (kdN K)).getD 0 0) (valS (digB A) (digB A).size)) ((offsK (kdN K)).getD 1 0) (valS (digB B) (digB B).size) = _
    rw [e, nA, nB]
    rfl
  · have e : offsK (kdN K) = [1, 3] := by unfold offsK; rw [g1, g2, g3]; rfl
    obtain rfl := zB g2
    unfold offL
    rw [txtF_eq, e]
    show setI (setI (0, 0, 0) ((offsK (kdN K)).getD 0 0) (valS (digB A) (digB A).size)) ((offsK (kdN K)).getD 1 0) (valS (digB N) (digB N).size) = _
    rw [e, nA, nN]
    rfl
  · have e : offsK (kdN K) = [3] := by unfold offsK; rw [g1, g2, g3]; rfl
    obtain rfl := zA g1
    obtain rfl := zB g2
    unfold offL
    rw [txtF_eq, e]
    show setI (0, 0, 0) ((offsK (kdN K)).getD 0 0) (valS (digB N) (digB N).size) = _
    rw [e, nN]
    rfl
  · have e : offsK (kdN K) = [1] := by unfold offsK; rw [g1, g2, g3]; rfl
    obtain rfl := zB g2
    obtain rfl := zN g3
    unfold offL
    rw [txtF_eq, e]
    show setI (0, 0, 0) ((offsK (kdN K)).getD 0 0) (valS (digB A) (digB A).size) = _
    rw [e, nA]
    rfl
/-- an instruction's text with blanks about it is read as this instruction -/
theorem read_back {x y : Int} (h0 : 0 ≤ x) (h1 : x ≤ 255) (h2 : 0 ≤ y) (h3 : y ≤ 255) : RdE (spcT (insB x y)) (.returned (.tuple #[dcdV x y, .int .i64 0])) := by
  obtain ⟨hok, K, A, B, N, kK, kA, kB, kN, eO, eA, eB, eN, eT⟩ := dec_facts h0 h1 h2 h3
  obtain ⟨zA, zB, zN, eL⟩ := dec_zero h0 h1 h2 h3 eO eA eB eN
  have hw := spc_words K A B N kK (by omega) (by omega) kN
  have hi := insN_txt K A B N kK (by omega) (by omega) kN zA zB zN
  have hsz := textB_size K A B N kK (by omega) (by omega) kN
  rw [eT]
  refine .inr ⟨?_, .inl ⟨K, ⟨kK, ?_, ?_, ?_, fun i i1 i2 => ?_, ?_⟩, ?_⟩⟩
  · unfold spcT
    have e1 : (⟨#[32, 32]⟩ : ByteArray).size = 2 := rfl
    have e2 : (⟨#[32]⟩ : ByteArray).size = 1 := rfl
    rw [ByteArray.size_append, ByteArray.size_append, e1, e2]
    omega
  · rw [hw, txtF_eq]; simp
  · rw [hw, txtF_eq]; rfl
  · rw [hw, txtF_eq]; simp [offL]; omega
  · rw [hw, txtF_eq] at i2 ⊢
    rw [List.length_cons, List.length_map] at i2
    obtain ⟨j, rfl⟩ : ∃ j, i = j + 1 := ⟨i - 1, by omega⟩
    have hj : j < (offsK (kdN K)).length := by omega
    unfold wsAt
    rw [List.getD_cons_succ, List.getD_eq_getElem?_getD, List.getElem?_map, List.getElem?_eq_getElem hj]
    have hv : numA A B N (offsK (kdN K))[j] < 256 := by unfold numA; split; omega; split <;> omega
    exact (num_of _ hv).1
  · rw [hw, hi, ← eL, ← eO, ← eA, ← eB, ← eN]
    exact hok
  · show _ = Ending.returned (.tuple #[insY K (wordsB (spcT (textB K A B N))), _])
    unfold insY
    rw [hw, hi, ← eL]
    unfold dcdV
    rw [eO, eA, eB, eN]
end Go.Proofs.YtneagomkohoceaaDoor
