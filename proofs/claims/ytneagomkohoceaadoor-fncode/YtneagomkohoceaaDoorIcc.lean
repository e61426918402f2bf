/- What the specification encodes, and how long an instruction takes. -/
import Derived.Test.YtneagomkohoceaaDoorIbc
namespace Go.Proofs.YtneagomkohoceaaDoor
open Go.ChangeShapes Go.WideShapes Go.ChangeAt Go.RowKit
set_option linter.unusedVariables false
set_option linter.unusedSimpArgs false

/-- a row that is answered: empty, or in a block of its own from lo on -/
def RowA (w : World) (lo : Nat) (v : Value) (zs : List Int) : Prop := (zs = [] ∧ ∃ a c, v = .slice a 0 c) ∨ ∃ g, lo ≤ g ∧ RowO w g v zs
theorem RowA.reads {w : World} {lo : Nat} {v : Value} {zs : List Int} (h : RowA w lo v zs) : RowR w v zs := by
  rcases h with ⟨rfl, a, c, rfl⟩ | ⟨g, _, h⟩
  · exact ⟨a, c, rfl, .inl rfl⟩
  · exact h.reads
/-- the bytes of an instruction -/
def encL (o a b n l : Int) : List Int := if o = 23 then [n] else if l = 2 then [8 * o + a, b + n] else [8 * o + a]
def encR (o a b n l : Int) : List Int := if okI o a b n l = true then encL o a b n l else []
def okIc (o a b n l : Int) : Int := if okI o a b n l = true then 0 else 1
theorem okI_bd {o a b n l : Int} (h : okI o a b n l = true) : (0 ≤ o ∧ o ≤ 23) ∧ (0 ≤ a ∧ a ≤ 7) ∧ (0 ≤ b ∧ b ≤ 7) ∧ (0 ≤ n ∧ n ≤ 255) ∧ (l = 1 ∨ l = 2) := by
  unfold okI at h
  split at h
  · rename_i e
    simp [inB] at h
    omega
  · have hA := bitI_bd (hasC o.toNat 65)
    have hB := bitI_bd (hasC o.toNat 66)
    have hN := bitI_bd (hasC o.toNat 78)
    have hL := bitI_bd (hasC o.toNat 66 || hasC o.toNat 78)
    simp only [inB, Bool.and_eq_true, decide_eq_true_eq] at h
    omega
theorem rowO_lit {W : World} {cs : Array Value} {t : TypeId} {zs : List Int} {g cap : Nat} (hg : W.heap[g]? = some (.cells cs t (0, 0))) (hc : ∀ i, i < zs.length → cs[i]? = some (.int .i64 (zs.getD i 0))) : RowO W g (.slice (some ⟨g, 0, none⟩) zs.length cap) zs := ⟨cap, cs, t, rfl, hg, hc⟩
theorem rowO_1 (w : World) (o1 : Obj) (z : Int) (t : TypeId) : RowO ((w.alloc o1).alloc (.cells #[.int .i64 z] t)) (w.heap.size + 1) (.slice (some ⟨w.heap.size + 1, 0, none⟩) 1 1) [z] := by
  have h := heap_alloc_new (w.alloc o1) (.cells #[.int .i64 z] t)
  rw [World.size_alloc] at h
  exact rowO_lit (zs := [z]) h (fun i hi => by
    have hi : i < 1 := hi
    obtain rfl : i = 0 := by omega
    rfl)
theorem rowO_2 (w : World) (o1 o2 o3 : Obj) (z y : Int) (X : Array Value) (t : TypeId) (cap : Nat) : RowO ((((w.alloc o1).alloc o2).alloc o3).alloc (.cells (#[.int .i64 z, .int .i64 y] ++ X) t)).drew (w.heap.size + 1 + 1 + 1) (.slice (some ⟨w.heap.size + 1 + 1 + 1, 0, none⟩) 2 cap) [z, y] := by
  have h := heap_alloc_new (((w.alloc o1).alloc o2).alloc o3) (.cells (#[.int .i64 z, .int .i64 y] ++ X) t)
  simp only [World.size_alloc] at h
  exact rowO_lit (zs := [z, y]) h (fun i hi => by
    have hi : i < 2 := hi
    rcases (by omega : i = 0 ∨ i = 1) with rfl | rfl
    · simp [Array.getElem?_append]
    · simp [Array.getElem?_append])
theorem infoE1 : (Tryd.prog.info? 3).map (fun i => (i.zero, i.size, i.bytes)) = some (some (.int .i64 0), 1, 8) := by kernel_rfl
set_option maxRecDepth 100000 in
theorem enc0_spec (o a b n l : Int) (w : World) (hok : okI o a b n l = true) :
    Calls Tryd.prog 29 #[insV o a b n l] w fun e w' => ∃ g c, e = .returned (.slice (some ⟨g, 0, none⟩) (encL o a b n l).length c) ∧ RowO w' g (.slice (some ⟨g, 0, none⟩) (encL o a b n l).length c) (encL o a b n l) ∧ w.heap.size ≤ g ∧ Below w.heap.size w w' := by
  obtain ⟨i0, hi0, hz0, hz1, hz2⟩ := info_parts infoE1
  obtain ⟨h1, h2, h3, h4, h5⟩ := okI_bd hok
  have hB : Hid (∀ o1 o2, Below w.heap.size w ((w.alloc o1).alloc o2)) := fun o1 o2 => ((Below.refl _ _).alloc (Nat.le_refl _) _).alloc (by simp) _
  have hB4 : Hid (∀ o1 o2 o3 o4, Below w.heap.size w ((((w.alloc o1).alloc o2).alloc o3).alloc o4).drew) := fun o1 o2 o3 o4 => (((((Below.refl _ _).alloc (Nat.le_refl _) _).alloc (by simp) _).alloc (by simp; omega) _).alloc (by simp; omega) _).drew
  clear hok
  by_cases h23 : o = 23
  · subst h23
    have e : encL 23 a b n l = [n] := rfl
    rw [e]
    go_enter Tryd.func29, Tryd.ntmps29
    go_wp2
    go_ret
    exact ⟨_, _, rfl, rowO_1 _ _ _ _, by omega, hB.out _ _⟩
  have hn : (o == 23) = false := by simpa using h23
  rcases h5 with rfl | rfl
  · have e : encL o a b n 1 = [8 * o + a] := by unfold encL; rw [if_neg h23]; rfl
    rw [e]
    clear h23 e
    obtain ⟨z, hz⟩ : ∃ z : Int, 8 * o + a = z := ⟨_, rfl⟩
    rw [hz]
    go_enter Tryd.func29, Tryd.ntmps29
    go_wp2
    go_ret
    exact ⟨_, _, rfl, rowO_1 _ _ _ _, by omega, hB.out _ _⟩
  · have e : encL o a b n 2 = [8 * o + a, b + n] := by unfold encL; rw [if_neg h23]; rfl
    rw [e]
    clear h23 e
    obtain ⟨z, hz⟩ : ∃ z : Int, 8 * o + a = z := ⟨_, rfl⟩
    obtain ⟨y, hy⟩ : ∃ y : Int, b + n = y := ⟨_, rfl⟩
    rw [hz, hy]
    go_enter Tryd.func29, Tryd.ntmps29
    go_wp2_with fail
    go_ret
    exact ⟨_, _, rfl, rowO_2 _ _ _ _ _ _ _ _ _, by omega, hB4.out _ _ _ _⟩
set_option maxRecDepth 100000 in
theorem enc_spec (o a b n l : Int) (w : World) :
    Calls Tryd.prog 9 #[insV o a b n l] w fun e w' => ∃ u, e = .returned (.tuple #[u, .int .i64 (okIc o a b n l)]) ∧ RowA w' w.heap.size u (encR o a b n l) ∧ Below w.heap.size w w' := by
  have hB : Hid (∀ ob, Below w.heap.size w (w.alloc ob)) := fun ob => (Below.refl _ _).alloc (Nat.le_refl _) _
  cases hk : okI o a b n l
  · have e1 : okIc o a b n l = 1 := by unfold okIc; rw [hk]; rfl
    have e2 : encR o a b n l = [] := by unfold encR; rw [hk]; rfl
    rw [e1, e2]
    go_enter Tryd.func9, Tryd.ntmps9
    go_wp2_with fail
    refine (insok_spec _ _ _ _ _ _).mono ?_
    rintro e w1 ⟨rfl, hb1⟩
    rw [hk]
    have hb2 := hid (new_trans (hB.out _) hb1)
    clear hb1
    go_wp2
    go_ret2
    exact ⟨_, rfl, .inl ⟨rfl, _, _, rfl⟩, hb2.out.alloc hb2.out.size _⟩
  · have e1 : okIc o a b n l = 0 := by unfold okIc; rw [hk]; rfl
    have e2 : encR o a b n l = encL o a b n l := by unfold encR; rw [if_pos hk]
    rw [e1, e2]
    obtain ⟨L, hL⟩ : ∃ L, encL o a b n l = L := ⟨_, rfl⟩
    rw [hL]
    replace hL := hid hL
    go_enter Tryd.func9, Tryd.ntmps9
    go_wp2_with fail
    refine (insok_spec _ _ _ _ _ _).mono ?_
    rintro e w1 ⟨rfl, hb1⟩
    rw [hk]
    have x1 := ((Blk.new w _ _).below hb1 (by simp)).cell
    have hb2 := hid (new_trans (hB.out _) hb1)
    clear hb1
    go_wp2_with fail
    refine (enc0_spec _ _ _ _ _ _ hk).mono ?_
    rintro e w2 ⟨g, c, rfl, hro, hg, hb3⟩
    rw [hL.out] at hro ⊢
    have hb4 := hid (new_trans hb2.out hb3)
    have hgg := Nat.le_trans hb2.out.size hg
    replace hro := hid hro
    clear hb3 hg x1
    go_wp2
    go_ret2
    exact ⟨_, rfl, .inr ⟨g, hgg, hro.out⟩, hb4.out⟩
end Go.Proofs.YtneagomkohoceaaDoor
