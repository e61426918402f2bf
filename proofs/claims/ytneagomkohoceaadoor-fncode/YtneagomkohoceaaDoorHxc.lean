/- What impl.HexOf and spec.HexOf answer: two digits a byte, in small letters; they make new blocks at most. -/
import Derived.Test.YtneagomkohoceaaDoorBasec
import Derived.OwnWalk
import Derived.Deep.RegionHeld3
import Derived.Deep.AppendLies
import Derived.Deep.DrawnRows
import Derived.KernelRfl
import Derived.Laws.BitsAllLaws
namespace Go.Proofs.YtneagomkohoceaaDoor
open Go.ChangeShapes Go.WideShapes Go.ChangeAt Go.RowKit
set_option linter.unusedVariables false
attribute [local go_sem ↓] Go.wp_at_zero Go.wp_at_succ

/-- a digit's byte -/
def hxd (n : Int) : Int := if n < 10 then 48 + n else 87 + n
def hexN (s : ByteArray) : Nat → List Int
  | 0 => []
  | k + 1 => hexN s k ++ [hxd (byt s k / 16), hxd (byt s k % 16)]
theorem hexN_length (s : ByteArray) (k : Nat) : (hexN s k).length = 2 * k := by
  induction k with
  | zero => rfl
  | succ k ih => simp [hexN, ih]; omega

def digs : ByteArray := ⟨#[48, 49, 50, 51, 52, 53, 54, 55, 56, 57, 97, 98, 99, 100, 101, 102]⟩
theorem digs_at : ∀ i : Fin 16, ((digs.data.toList.getD i.val 0).toNat : Int) = hxd i.val := by decide
theorem run_digs (w : World) (i : Int) (h0 : 0 ≤ i) (h1 : i ≤ 15) : (Instr.index 9 (.string ⟨#[48, 49, 50, 51, 52, 53, 54, 55, 56, 57, 97, 98, 99, 100, 101, 102]⟩) (.int .u8 i)).run Tryd.prog w = .ok (.int .u8 (hxd i)) w := by
  show (Instr.index 9 (.string digs) (.int .u8 i)).run Tryd.prog w = _
  have hz : digs.size = 16 := rfl
  rw [run_index_string w 9 digs .u8 i Tryd.underlying9, dif_pos ⟨h0, by rw [hz]; omega⟩]
  have h2 : i.toNat < digs.size := by rw [hz]; omega
  have := byt_eq digs i.toNat h2
  have h3 := digs_at ⟨i.toNat, by omega⟩
  have h4 : ((i.toNat : Nat) : Int) = i := by omega
  simp only [h4] at h3
  rw [this, byt, h3]

theorem hex_step {w wr w1 : World} {s : ByteArray} {k gg cap : Nat} {u : Value} {o : Obj}
    (hown : wr.ownsRow w.heap.size 5 1 u (2 * k) ((hexN s k).map (Value.int .u8))) (hbel : Below w.heap.size w wr)
    (hown1 : w1.ownsRow w.heap.size 5 1 (.slice (some ⟨gg, 0, none⟩) (2 * k + 2) cap) (2 * k + 2) ((hexN s k).map (Value.int .u8) ++ [.int .u8 (hxd (byt s k / 16)), .int .u8 (hxd (byt s k % 16))]))
    (hgrow : (wr.alloc o).drew.grownBy w1 u.ownBlock) :
    w1.ownsRow w.heap.size 5 1 (.slice (some ⟨gg, 0, none⟩) (2 * k + 2) cap) (2 * (k + 1)) ((hexN s (k + 1)).map (Value.int .u8)) ∧ Below w.heap.size w w1 := by
  have hsz := hbel.size
  refine ⟨?_, ((hbel.alloc (by omega) _).drew).grown hgrow (by simp; omega) (fun g hg => (hown.lt g hg).1)⟩
  rw [show 2 * (k + 1) = 2 * k + 2 by omega]
  simpa [hexN] using hown1

attribute [local go_sem high] run_digs
set_option maxRecDepth 100000 in
theorem hex_spec (s : ByteArray) (w : World) (hs : s.size ≤ 65536) :
    Calls Tryd.prog 87 #[.string s] w fun e w' => e = .returned (.string (strOfNums (hexN s s.size))) ∧ Below w.heap.size w w' := by
  obtain ⟨i0, hi0, hz0, hz1, hz2⟩ := info_parts infoU8
  go_enter Tryd.func87, Tryd.ntmps87
  go_wp2
  go_loopw [4, 5] (fun v i wr => ∃ k : Nat, k ≤ s.size ∧ i = .int .i64 k ∧ wr.ownsRow w.heap.size 5 1 v (2 * k) ((hexN s k).map (Value.int .u8)) ∧ Below w.heap.size w wr)
    (fun _ i _ => s.size - (intOf i).toNat)
  case atStart => exact ⟨0, Nat.zero_le _, rfl, World.ownsRow_lit w #[] 0 (Nat.le_refl _) (by decide) rfl, (Below.refl _ _).alloc (Nat.le_refl _) _⟩
  case round =>
    obtain ⟨k, hk, rfl, hown, hbel⟩ := hrel
    by_cases hlt : k < s.size
    · have hb := byt_eq s k hlt
      have hb2 := byt_bd s k
      have hq0 : 0 ≤ byt s k / 16 := by omega
      have hq1 : byt s k / 16 ≤ 15 := by omega
      have hr0 : 0 ≤ byt s k % 16 := by omega
      have hr1 : byt s k % 16 ≤ 15 := by omega
      have hl := hexN_length s k
      have hsz := hbel.size
      have hk0 : (0 : Int) ≤ (k : Int) := Int.natCast_nonneg _
      have hk1 : (k : Int) < (s.size : Int) := by omega
      have hw1 : IntKind.u8.wrap ((byt s k).tdiv 16) = byt s k / 16 := by rw [IntKind.wrap_u8', Int.tdiv_eq_ediv_of_nonneg (by omega)]; omega
      have hw2 : IntKind.u8.wrap ((byt s k).tmod 16) = byt s k % 16 := by rw [IntKind.wrap_u8', Int.tmod_eq_emod_of_nonneg (by omega)]; omega
      have hw3 : (byt s k).tmod 16 = byt s k % 16 := Int.tmod_eq_emod_of_nonneg (by omega)
      go_wp2_with fail
      go_region_held3 (fun w' => True) (trivial)
        ((refine step_append_lies _ (by rfl) _ _ _ (by rfl) w.heap.size 5 i0 _ 1 1 Tryd.underlying22 hi0 hz0 hz1 hz2 rfl (by omega) _ (2 * k) ((hexN s k).map (Value.int .u8)) (by rfl) ((hown.alloc _).drew) ⟨wr.heap.size, 0, none⟩ 2 2 [.int .u8 (hxd (byt s k / 16)), .int .u8 (hxd (byt s k % 16))] (by rfl) (by rfl) (World.news_of_block (cs := #[.int .u8 (hxd (byt s k / 16)), .int .u8 (hxd (byt s k % 16))]) (t := 5) (fr := (0, 0)) (heap_alloc_new wr _)) (by simp [Value.oneCell']) (by omega) (by unfold maxLen; omega) (by omega) (by simp; omega) (wr.heap.size + 1) (by simp) ?_; intro gg cap w1 hown1 hgrow hat hlt1))
      all_goals
        have R := hex_step hown hbel hown1 hgrow
        clear hown1 hgrow hown
        go_wp2
        go_roundw
        case rel => exact ⟨k + 1, by omega, by go_num, R.1, R.2⟩
        case measure => simp [intOf]; omega
    · obtain rfl : k = s.size := by omega
      have hcv := own_string hown
      go_wp2
      go_ret
      exact ⟨rfl, hbel⟩

def hexV (s : ByteArray) : ByteArray := if 32768 < s.size then ByteArray.empty else strOfNums (hexN s s.size)

set_option maxRecDepth 100000 in
theorem hex_impl (s : ByteArray) (w : World) (hs : s.size ≤ maxLen) :
    Calls Tryd.prog 84 #[.string s] w fun e w' => e = .returned (.string (hexV s)) ∧ Below w.heap.size w w' := by
  unfold maxLen at hs
  unfold hexV
  by_cases h32 : 32768 < s.size
  · rw [if_pos h32]
    go_enter Tryd.func84, Tryd.ntmps84
    go_wp2
    go_ret
    exact ⟨rfl, Below.refl _ _⟩
  rw [if_neg h32]
  obtain ⟨i0, hi0, hz0, hz1, hz2⟩ := info_parts infoU8
  go_enter Tryd.func84, Tryd.ntmps84
  go_wp2_with (at_make; refine wpList_make_own _ rfl _ _ 22 rfl w.heap.size 5 i0 (.int .u8 0) 1 Tryd.underlying22 hi0 hz0 hz1 _ _ _ (2 * s.size) rfl rfl (by omega) (by rw [hz2]; omega) (by unfold maxLen; omega) (Nat.le_refl _) ?_; intro wm hownm hgrm)
  go_loopw [3, 14] (fun v i wr => ∃ k : Nat, k ≤ s.size ∧ i = .int .i64 k ∧ wr.ownsRow w.heap.size 5 1 v (2 * k) ((hexN s k).map (Value.int .u8)) ∧ Below w.heap.size w wr)
    (fun _ i _ => s.size - (intOf i).toNat)
  case atStart => exact ⟨0, Nat.zero_le _, rfl, hownm, (Below.refl _ _).grown hgrm (Nat.le_refl _) (fun g hg => by cases hg)⟩
  case round =>
    obtain ⟨k, hk, rfl, hown, hbel⟩ := hrel
    by_cases hlt : k < s.size
    · have hb := byt_eq s k hlt
      have hb2 := byt_bd s k
      have hq0 : 0 ≤ byt s k / 16 := by omega
      have hq1 : byt s k / 16 ≤ 15 := by omega
      have hr0 : 0 ≤ byt s k % 16 := by omega
      have hr1 : byt s k % 16 ≤ 15 := by omega
      have hl := hexN_length s k
      have hsz := hbel.size
      have hk0 : (0 : Int) ≤ (k : Int) := Int.natCast_nonneg _
      have hk1 : (k : Int) < (s.size : Int) := by omega
      have hw1 : IntKind.u8.wrap ((byt s k).tdiv 16) = byt s k / 16 := by rw [IntKind.wrap_u8', Int.tdiv_eq_ediv_of_nonneg (by omega)]; omega
      have hw2 : IntKind.u8.wrap ((byt s k).tmod 16) = byt s k % 16 := by rw [IntKind.wrap_u8', Int.tmod_eq_emod_of_nonneg (by omega)]; omega
      have hw3 : (byt s k).tmod 16 = byt s k % 16 := Int.tmod_eq_emod_of_nonneg (by omega)
      go_wp2_with fail
      go_region_held3 (fun w' => True) (trivial)
        ((refine step_append_lies _ (by rfl) _ _ _ (by rfl) w.heap.size 5 i0 _ 1 1 Tryd.underlying22 hi0 hz0 hz1 hz2 rfl (by omega) _ (2 * k) ((hexN s k).map (Value.int .u8)) (by rfl) ((hown.alloc _).drew) ⟨wr.heap.size, 0, none⟩ 2 2 [.int .u8 (hxd (byt s k / 16)), .int .u8 (hxd (byt s k % 16))] (by rfl) (by rfl) (World.news_of_block (cs := #[.int .u8 (hxd (byt s k / 16)), .int .u8 (hxd (byt s k % 16))]) (t := 5) (fr := (0, 0)) (heap_alloc_new wr _)) (by simp [Value.oneCell']) (by omega) (by unfold maxLen; omega) (by omega) (by simp; omega) (wr.heap.size + 1) (by simp) ?_; intro gg cap w1 hown1 hgrow hat hlt1))
      all_goals
        have R := hex_step hown hbel hown1 hgrow
        clear hown1 hgrow hown
        go_wp2
        go_roundw
        case rel => exact ⟨k + 1, by omega, by go_num, R.1, R.2⟩
        case measure => simp [intOf]; omega
    · obtain rfl : k = s.size := by omega
      have hcv := own_string hown
      go_wp2
      go_ret
      exact ⟨rfl, hbel⟩

end Go.Proofs.YtneagomkohoceaaDoor
