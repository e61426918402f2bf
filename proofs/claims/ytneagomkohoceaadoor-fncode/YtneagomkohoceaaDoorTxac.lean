/- A line of words, as the program puts it together: empty words are left out; one blank between two. -/
import Derived.Test.YtneagomkohoceaaDoorBasec
import Derived.Test.YtneagomkohoceaaDoorBlc
import Derived.Test.YtneagomkohoceaaDoorShc
import Derived.Deep.AppendLies
import Derived.Laws.MakeOwn
import Derived.Lib.Join
import Derived.Laws.Strings
namespace Go.Proofs.YtneagomkohoceaaDoor
open Go.ChangeShapes Go.WideShapes Go.ChangeAt Go.RowKit
set_option linter.unusedVariables false
set_option linter.unusedSimpArgs false

def saidL (ws : List ByteArray) : List ByteArray := ws.filter fun s => decide (s ≠ ⟨#[]⟩)
def joinB (ws : List ByteArray) : ByteArray := ⟨(Lib.join (ws.map (·.data.toList)) [32]).toArray⟩
def lineB (ws : List ByteArray) : ByteArray := joinB (saidL ws)
theorem said_step {ws : List ByteArray} {j : Nat} {x : ByteArray} (h : ws[j]? = some x) : saidL (ws.take (j + 1)) = saidL (ws.take j) ++ (if x = ⟨#[]⟩ then [] else [x]) := by
  have hj := (List.getElem?_eq_some_iff.1 h).1
  have ho : ws[j] = x := (List.getElem?_eq_some_iff.1 h).2
  rw [List.take_succ_eq_append_getElem hj, ho]
  unfold saidL
  rw [List.filter_append]
  by_cases hx : x = ⟨#[]⟩ <;> simp [hx]
theorem said_len (ws : List ByteArray) (j : Nat) (h : j ≤ ws.length) : (saidL (ws.take j)).length ≤ j := by
  refine Nat.le_trans (List.length_filter_le _ _) ?_
  simp; omega
theorem join_le (ws : List ByteArray) (m : Nat) (h : ∀ x ∈ ws, x.size ≤ m) : (Lib.join (ws.map (·.data.toList)) [32]).length ≤ (m + 1) * ws.length := by
  have hl : ∀ l : List ByteArray, (∀ x ∈ l, x.size ≤ m) → Lib.lens (l.map (·.data.toList)) ≤ m * l.length := by
    intro l
    induction l with
    | nil => intro _; simp [Lib.lens]
    | cons a l ih =>
      intro h
      have h1 := h a (by simp)
      have h2 := ih (fun x hx => h x (by simp [hx]))
      have h3 : a.data.toList.length = a.size := rfl
      have h4 : Lib.lens ((a :: l).map (·.data.toList)) = a.data.toList.length + Lib.lens (l.map (·.data.toList)) := by simp [Lib.lens]
      rw [h4, List.length_cons, Nat.mul_succ]
      omega
  cases ws with
  | nil => simp [Lib.join_nil]
  | cons a l =>
    have := hl (a :: l) h
    rw [List.map_cons] at this
    rw [List.map_cons, Lib.join_length]
    simp only [List.length_map, List.length_cons, List.length_nil] at this ⊢
    rw [Nat.add_mul m 1 (l.length + 1)]
    omega
theorem ownX_below {W W' : World} {lo n : Nat} {e : TypeId} {v : Value} {xs : List Value} (h : W.ownsRow lo e 1 v n xs) (hb : Below W.heap.size W W') : W'.ownsRow lo e 1 v n xs :=
  h.kept (row := none) ⟨hb.os, hb.tape, hb.output, hb.size, fun k hk _ => hb.block k hk⟩ (by cases v.ownBlock <;> simp)
theorem cellX_kept {W W' : World} {b i : Nat} {v : Value} (hb : Below W.heap.size W W') (h : W.cell? ⟨b, i, none⟩ = some v) : W'.cell? ⟨b, i, none⟩ = some v := by
  rw [hb.cell (p := ⟨b, i, none⟩) (World.block_lt_of_cell? W _ h)]
  exact h
theorem infoStr : (Tryd.prog.info? 9).map (fun i => (i.zero, i.size, i.bytes)) = some (some (.string ⟨#[]⟩), 1, 16) := by kernel_rfl
set_option maxRecDepth 100000 in
set_option maxHeartbeats 1000000 in
theorem line_impl (g c : Nat) (ws : List ByteArray) (w : World) (hcells : ∀ (j : Nat) x, ws[j]? = some x → w.cell? ⟨g, j, none⟩ = some (.string x)) (hn : ws.length ≤ 1000) (hz : ∀ x ∈ ws, x.size ≤ 1000) :
    Calls Tryd.prog 71 #[.slice (some ⟨g, 0, none⟩) ws.length c] w fun e w' => e = .returned (.string (lineB ws)) ∧ Below w.heap.size w w' := by
  obtain ⟨i0, hi0, hz0, hz1, hz2⟩ := info_parts infoStr
  obtain ⟨n, hN⟩ : ∃ n, ws.length = n := ⟨_, rfl⟩
  rw [hN] at hn ⊢
  replace hN := hid hN
  replace hcells := hid hcells
  replace hz := hid hz
  go_enter Tryd.func71, Tryd.ntmps71
  go_wp2_with (at_make; refine wpList_make_own _ rfl _ _ 37 rfl w.heap.size 9 i0 (.string ⟨#[]⟩) 1 Tryd.underlying37 hi0 hz0 hz1 _ _ _ n rfl rfl (by omega) (by rw [hz2]; omega) (by unfold maxLen; omega) (Nat.le_refl _) ?_; intro wm hownm hgrm)
  go_loopw [3, 11] (fun v i wr => ∃ j : Nat, j ≤ n ∧ i = .int .i64 j ∧ wr.ownsRow w.heap.size 9 1 v (saidL (ws.take j)).length ((saidL (ws.take j)).map Value.string) ∧ (∃ g c, v = .slice (some ⟨g, 0, none⟩) (saidL (ws.take j)).length c) ∧ Below w.heap.size w wr)
    (fun _ i _ => n - (intOf i).toNat)
  case atStart => exact ⟨0, Nat.zero_le _, rfl, by simpa [saidL] using hownm, by simp [saidL], (Below.refl _ _).grown hgrm (Nat.le_refl _) (fun g hg => by cases hg)⟩
  case round =>
    obtain ⟨j, hj, rfl, hown, ⟨gs, cs, rfl⟩, hbel⟩ := hrel
    have hml := said_len ws j (by rw [hN.out]; exact hj)
    by_cases hlt : j < n
    · obtain ⟨x, hx⟩ : ∃ x, ws[j]? = some x := ⟨_, List.getElem?_eq_getElem (by rw [hN.out]; exact hlt)⟩
      have hcell := cellX_kept hbel (hcells.out j x hx)
      have hst := said_step hx
      by_cases hx0 : x = ⟨#[]⟩
      · subst hx0
        rw [if_pos rfl, List.append_nil] at hst
        have hE : Hid (∃ j' : Nat, j' ≤ n ∧ (Value.int .i64 ((j : Int) + 1)) = .int .i64 j' ∧ wr.ownsRow w.heap.size 9 1 (.slice (some ⟨gs, 0, none⟩) (saidL (ws.take j)).length cs) (saidL (ws.take j')).length ((saidL (ws.take j')).map Value.string) ∧ (∃ g c, (Value.slice (some ⟨gs, 0, none⟩) (saidL (ws.take j)).length cs) = .slice (some ⟨g, 0, none⟩) (saidL (ws.take j')).length c) ∧ Below w.heap.size w wr) :=
          ⟨j + 1, by omega, by simp, by rw [hst]; exact hown, ⟨gs, cs, by rw [hst]⟩, hbel⟩
        replace hst := hid hst
        replace hown := hid hown
        replace hbel := hid hbel
        clear hml hx
        go_wp2
        go_roundw
        case rel => exact hE.out
        case measure => simp [intOf]; omega
      · rw [if_neg hx0] at hst
        have hne : x.toList.isEmpty = false := by
          rw [ByteArray.toList_eq]
          cases hx : x.data.toList with
          | nil => exact absurd (by apply ByteArray.ext; apply Array.ext'; exact hx) hx0
          | cons _ _ => rfl
        have hE : Hid (∀ W g2 c2, W.ownsRow w.heap.size 9 1 (.slice (some ⟨g2, 0, none⟩) ((saidL (ws.take j)).length + 1) c2) ((saidL (ws.take j)).length + 1) ((saidL (ws.take j)).map Value.string ++ [.string x]) → Below w.heap.size w W → ∃ j' : Nat, j' ≤ n ∧ (Value.int .i64 ((j : Int) + 1)) = .int .i64 j' ∧ W.ownsRow w.heap.size 9 1 (.slice (some ⟨g2, 0, none⟩) ((saidL (ws.take j)).length + 1) c2) (saidL (ws.take j')).length ((saidL (ws.take j')).map Value.string) ∧ (∃ g c, (Value.slice (some ⟨g2, 0, none⟩) ((saidL (ws.take j)).length + 1) c2) = .slice (some ⟨g, 0, none⟩) (saidL (ws.take j')).length c) ∧ Below w.heap.size w W) :=
          fun W g2 c2 h1 h2 => ⟨j + 1, by omega, by simp, by rw [hst]; simpa using h1, ⟨g2, c2, by rw [hst]; simp⟩, h2⟩
        generalize (saidL (ws.take j)).length = m at *
        generalize (saidL (ws.take j)).map Value.string = M at *
        have hlo := fun k hk => (hown.lt k hk).1
        have hB2 : Hid (∀ o w2, (wr.alloc o).grownBy w2 (some gs) → Below w.heap.size w w2) := fun o w2 hg => (hbel.alloc hbel.size o).grown hg (by have := hbel.size; simp; omega) (fun k hk => hlo k hk)
        replace hown := hid hown
        have hsz := hbel.size
        replace hbel := hid hbel
        clear hst hlo hx
        go_wp2_with (at_builtin; refine wpList_append_lies _ rfl _ _ 37 rfl w.heap.size 9 i0 _ 1 16 Tryd.underlying37 hi0 hz0 hz1 hz2 rfl (by omega) _ m M rfl (hown.out.alloc _) ⟨_, 0, none⟩ 1 1 [.string x] rfl rfl (World.news_of_block (cs := #[.string x]) (t := 9) (fr := (0, 0)) (heap_alloc_new _ _)) (by simp [Value.oneCell']) (by omega) (by unfold maxLen; omega) (by omega) (by have := (hown.out.lt gs rfl).2; simp; omega) _ rfl ?_; intro g2 c2 w2 ho hg hat hlt2; have hB3 := hid (hB2.out _ _ hg); have hO := hid ho; clear ho hg hat hlt2 hown hbel)
        go_roundw
        case rel => exact hE.out _ _ _ hO.out hB3.out
        case measure => simp [intOf]; omega
    · obtain rfl : j = n := by omega
      have hall : ws.take j = ws := List.take_of_length_le (by rw [hN.out]; exact Nat.le_refl _)
      rw [hall] at hml hown ⊢
      have hcells2 : ∀ (i : Nat) x, (saidL ws)[i]? = some x → wr.cell? ⟨gs, 0 + i, none⟩ = some (.string x) := fun i x hx => by
        have hi := (List.getElem?_eq_some_iff.1 hx).1
        rw [Nat.zero_add, hown.cellAt i (by omega), List.getElem?_map, hx]
        rfl
      have hJ : Hid (∀ W, Below wr.heap.size wr W → Calls Tryd.prog 39 #[.slice (some ⟨gs, 0, none⟩) (saidL ws).length cs, .string ⟨#[32]⟩] W fun e w' => e = .returned (.string (lineB ws)) ∧ Below W.heap.size W w') := fun W hW => by
        have hlt := (hown.lt gs rfl).2
        have hcap : (saidL ws).length ≤ cs := by
          rcases hown.2 with ⟨h0, _⟩ | ⟨g', cap', cur, hv', _, _, hc, _⟩
          · cases h0
          · injection hv' with _ _ e
            omega
        have hle := join_le (saidL ws) 1000 (fun x hx => hz.out x ((List.mem_filter.1 hx).1))
        have hle2 : (1000 + 1) * (saidL ws).length ≤ 1001 * 1000 := Nat.mul_le_mul_left _ (by omega)
        refine (Tryd.strings_Join gs 0 cs (saidL ws) ⟨#[32]⟩ W (fun i x hx => cellX_kept hW (hcells2 i x hx)) (by have := hW.size; omega) (by omega) hcap ?_).mono ?_
        · exact Nat.le_trans hle (by omega)
        · rintro e w' ⟨rfl, hb⟩
          exact ⟨rfl, hb⟩
      have hB := hid hbel
      clear hown hcells2 hbel hcells hz
      go_wp2_with fail
      refine (hJ.out _ (Below.refl _ _)).mono ?_
      rintro e W2 ⟨rfl, hb2⟩
      have hb3 := hid (new_trans hB.out hb2)
      clear hb2 hB
      go_wp2
      go_ret
      exact ⟨rfl, hb3.out⟩
end Go.Proofs.YtneagomkohoceaaDoor
