/- What CodeWord and CodeOf answer, the program's own and the specification's, in every world whose table of words holds the document's words. -/
import Derived.Test.YtaadobdanhpkkagDoorBase
import Derived.KernelRfl
import Derived.Deep.Cut
namespace Go.Proofs.YtaadobdanhpkkagDoor
open Go.ChangeShapes Go.WideShapes Go.ChangeAt Go.RowKit
set_option linter.unusedVariables false

def wdL : List (List UInt8) := [[111, 107], [98, 97, 100], [108, 111, 110, 103], [102, 111, 114, 109], [114, 97, 110, 103, 101], [110, 111, 110, 101], [109, 97, 110, 121], [102, 117, 108, 108], [115, 105, 122, 101], [101, 110, 100], [115, 117, 109], [111, 112], [108, 111, 99, 107, 101, 100], [115, 116, 111, 112, 112, 101, 100], [108, 101, 118, 101, 108], [112, 105, 108, 111, 116], [112, 117, 108, 115, 101], [98, 105, 116, 115], [109, 111, 100, 101, 108], [104, 97, 108, 116]]
def wd (i : Nat) : ByteArray := ⟨(wdL.getD i []).toArray⟩
def cwS (c : Int) : ByteArray := if 0 ≤ c ∧ c ≤ 19 then wd c.toNat else ByteArray.empty

/-- the table of words, in its block -/
def Words (w : World) : Prop := ∀ i, i < 20 → w.cell? ⟨0, i, none⟩ = some (.string (wd i))

theorem cw_impl (c : Int) (w : World) (hT : Words w) : Calls Tryd.prog 6 #[.int .i64 c] w fun e w' => e = .returned (.string (cwS c)) ∧ w' = w := by
  by_cases h0 : 0 ≤ c
  · by_cases h1 : c ≤ 19
    · have e : cwS c = wd c.toNat := by unfold cwS; rw [if_pos ⟨h0, h1⟩]
      obtain ⟨k, rfl⟩ : ∃ k : Nat, c = (k : Int) := ⟨c.toNat, by omega⟩
      have hc := hT k (by omega)
      rw [e]
      simp only [Int.toNat_natCast]
      clear e hT
      go_enter Tryd.func6, Tryd.ntmps6
      go_wp2
      go_ret
      exact ⟨rfl, rfl⟩
    · have e : cwS c = ByteArray.empty := by unfold cwS; rw [if_neg (by omega)]
      rw [e]
      go_enter Tryd.func6, Tryd.ntmps6
      go_wp2
      go_ret
      exact ⟨rfl, rfl⟩
  · have e : cwS c = ByteArray.empty := by unfold cwS; rw [if_neg (by omega)]
    rw [e]
    go_enter Tryd.func6, Tryd.ntmps6
    go_wp2
    go_ret
    exact ⟨rfl, rfl⟩

def wdC : Array Value := (wdL.map fun z => Value.string ⟨z.toArray⟩).toArray
theorem wdC_at (k : Nat) (h : k < 20) : wdC[k]? = some (.string (wd k)) := by
  have hz : k < wdL.length := h
  simp [wdC, wd, List.getD_eq_getElem?_getD, List.getElem?_eq_getElem hz]

set_option maxRecDepth 100000 in
theorem cw_spec (c : Int) (w : World) : Calls Tryd.prog 5 #[.int .i64 c] w fun e w' => e = .returned (.string (cwS c)) ∧ Below w.heap.size w w' := by
  by_cases h0 : 0 ≤ c
  · by_cases h1 : c ≤ 19
    · have e : cwS c = wd c.toNat := by unfold cwS; rw [if_pos ⟨h0, h1⟩]
      obtain ⟨k, rfl⟩ : ∃ k : Nat, c = (k : Int) := ⟨c.toNat, by omega⟩
      rw [e]
      simp only [Int.toNat_natCast]
      clear e
      go_enter Tryd.func5, Tryd.ntmps5
      go_upto_region 2 with fail
      have hB : Below w.heap.size w (w.alloc (.cells wdC 9)) := (Below.refl _ _).alloc (Nat.le_refl _) _
      have hc : (w.alloc (.cells wdC 9)).cell? ⟨w.heap.size, k, none⟩ = some (.string (wd k)) := by
        rw [World.cell?_alloc_at _ _ _ _ rfl]; exact wdC_at k (by omega)
      generalize hW : w.alloc (Obj.cells #[_, _, _, _, _, _, _, _, _, _, _, _, _, _, _, _, _, _, _, _] _) = w1
      have hW' : w.alloc (.cells wdC 9) = w1 := hW
      rw [hW'] at hB hc
      clear hW hW'
      go_wp2
      go_ret
      exact ⟨rfl, hB⟩
    · have e : cwS c = ByteArray.empty := by unfold cwS; rw [if_neg (by omega)]
      rw [e]
      go_enter Tryd.func5, Tryd.ntmps5
      go_wp2
      go_ret
      exact ⟨rfl, (Below.refl _ _).alloc (Nat.le_refl _) _⟩
  · have e : cwS c = ByteArray.empty := by unfold cwS; rw [if_neg (by omega)]
    rw [e]
    go_enter Tryd.func5, Tryd.ntmps5
    go_wp2
    go_ret
    exact ⟨rfl, (Below.refl _ _).alloc (Nat.le_refl _) _⟩

theorem cwS_at (k : Nat) (h : k < 20) : cwS (k : Int) = wd k := by
  unfold cwS
  rw [if_pos ⟨by omega, by omega⟩]
  simp

/-- the word's code: the first one that is the word, or -1 -/
def coF (s : ByteArray) : Nat → Int
  | 0 => -1
  | n + 1 => if (wd (19 - n)).toList == s.toList then ((19 - n : Nat) : Int) else coF s n
theorem coF_hit (s : ByteArray) (k : Nat) (h : k < 20) (h1 : ((wd k).toList == s.toList) = true) : coF s (20 - k) = (k : Int) := by
  obtain ⟨n, hn⟩ : ∃ n, 20 - k = n + 1 := ⟨19 - k, by omega⟩
  have e : 19 - n = k := by omega
  rw [hn, coF, e, if_pos h1]
theorem coF_miss (s : ByteArray) (k : Nat) (h : k < 20) (h1 : ((wd k).toList == s.toList) = false) : coF s (20 - k) = coF s (20 - (k + 1)) := by
  obtain ⟨n, hn⟩ : ∃ n, 20 - k = n + 1 := ⟨19 - k, by omega⟩
  have e : 19 - n = k := by omega
  have e2 : 20 - (k + 1) = n := by omega
  rw [hn, coF, e, h1, e2]
  rfl

theorem co_impl (s : ByteArray) (w : World) (hT : Words w) : Calls Tryd.prog 8 #[.string s] w fun e w' => e = .returned (.int .i64 (coF s 20)) ∧ w' = w := by
  go_enter Tryd.func8, Tryd.ntmps8
  go_wp2
  go_loop [4] (fun i => ∃ k : Nat, k ≤ 20 ∧ i = .int .i64 k ∧ coF s 20 = coF s (20 - k)) (fun i => 20 - (intOf i).toNat)
  case atStart => exact ⟨0, by omega, rfl, rfl⟩
  case round =>
    obtain ⟨k, hk, rfl, hco⟩ := hrel
    have HC : Hid (coF s 20 = coF s (20 - k)) := hco
    clear hco
    by_cases hlt : k < 20
    · have hc := hT k hlt
      cases hq : ((wd k).toList == s.toList)
      · have hm := coF_miss s k hlt hq
        have HM : Hid (coF s (20 - k) = coF s (20 - (k + 1))) := hm
        clear hm hT
        go_wp2
        go_round
        case rel => exact ⟨k + 1, by omega, by go_num, HC.out.trans HM.out⟩
        case measure => simp [intOf]; omega
      · have hm := coF_hit s k hlt hq
        have HM : Hid (coF s (20 - k) = (k : Int)) := hm
        clear hm hT
        go_wp2
        go_ret
        exact ⟨ret_int (HC.out.trans HM.out).symm, rfl⟩
    · obtain rfl : k = 20 := by omega
      go_wp2
      go_ret
      exact ⟨ret_int HC.out.symm, rfl⟩

theorem co_spec (s : ByteArray) (w : World) : Calls Tryd.prog 7 #[.string s] w fun e w' => e = .returned (.int .i64 (coF s 20)) ∧ Below w.heap.size w w' := by
  go_enter Tryd.func7, Tryd.ntmps7
  go_wp2
  go_loopw [3] (fun i wr => ∃ k : Nat, k ≤ 20 ∧ i = .int .i64 k ∧ coF s 20 = coF s (20 - k) ∧ Below w.heap.size w wr) (fun i _ => 20 - (intOf i).toNat)
  case atStart => exact ⟨0, by omega, rfl, rfl, Below.refl _ _⟩
  case round =>
    obtain ⟨k, hk, rfl, hco, hbel⟩ := hrel
    have HC : Hid (coF s 20 = coF s (20 - k)) := hco
    clear hco
    by_cases hlt : k < 20
    · have hcw := cwS_at k hlt
      cases hq : ((wd k).toList == s.toList)
      · have hm := coF_miss s k hlt hq
        have HM : Hid (coF s (20 - k) = coF s (20 - (k + 1))) := hm
        clear hm
        go_wp2_with (go_at_call 5; refine (cw_spec _ _).mono ?_; rintro e w1 ⟨rfl, hb1⟩)
        go_roundw
        case rel => exact ⟨k + 1, by omega, by go_num, HC.out.trans HM.out, hbel.trans ((show Below _ _ _ from by assumption).mono hbel.size)⟩
        case measure => simp [intOf]; omega
      · have hm := coF_hit s k hlt hq
        have HM : Hid (coF s (20 - k) = (k : Int)) := hm
        clear hm
        go_wp2_with (go_at_call 5; refine (cw_spec _ _).mono ?_; rintro e w1 ⟨rfl, hb1⟩)
        go_ret
        exact ⟨ret_int (HC.out.trans HM.out).symm, hbel.trans ((show Below _ _ _ from by assumption).mono hbel.size)⟩
    · obtain rfl : k = 20 := by omega
      go_wp2
      go_ret
      exact ⟨ret_int HC.out.symm, hbel⟩
end Go.Proofs.YtaadobdanhpkkagDoor
