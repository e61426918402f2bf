/- What the law of code wants of a drawn instruction, in one. -/
import Derived.Test.YtneagomkohoceaaDoorTzdc
import Derived.Test.YtneagomkohoceaaDoorTycc
import Derived.Test.YtneagomkohoceaaDoorKgc
import Derived.Test.YtneagomkohoceaaDoorKkc
import Derived.Test.YtneagomkohoceaaDoorKdc
namespace Go.Proofs.YtneagomkohoceaaDoor
open Go.ChangeShapes Go.WideShapes Go.ChangeAt Go.RowKit
set_option linter.unusedVariables false
set_option linter.unusedSimpArgs false

theorem dec2_two {e z : Int} (h0 : 0 ≤ e) (h1 : e ≤ 255) (z0 : 0 ≤ z) (z1 : z ≤ 255) : dec2 [e, z] = .tuple #[dcdV e z, .int .i64 0] := by
  have hC : decC [e, z] = 0 := by
    have q0 : inB e 0 255 = true := by unfold inB; simp; omega
    have q1 : inB z 0 255 = true := by unfold inB; simp; omega
    simp [decC, bytesB, q0, q1]
  unfold dec2
  rw [if_pos hC]
  rfl
theorem code_facts {x y : Int} (h0 : 0 ≤ x) (h1 : x ≤ 255) (h2 : 0 ≤ y) (h3 : y ≤ 255) : ∃ (o a b n l t : Int) (T : ByteArray) (zs : List Int),
    dcdV x y = insV o a b n l ∧ okI o a b n l = true ∧ okIc o a b n l = 0 ∧ encR o a b n l = zs ∧ (zs.length : Int) = l ∧ (zs.length = 1 ∨ zs.length = 2) ∧ (∀ z ∈ zs, 0 ≤ z ∧ z ≤ 255) ∧
    text2 o a b n l = .tuple #[.string T, .int .i64 0] ∧ T.size ≤ 100 ∧ RdE (spcT T) (.returned (.tuple #[insV o a b n l, .int .i64 0])) ∧ lc2 zs = ([⟨#[48, 48, 32]⟩ ++ T], 0) ∧
    (∀ z, 0 ≤ z → z ≤ 255 → dec2 ((zs ++ [z]).take 2) = .tuple #[insV o a b n l, .int .i64 0]) ∧ time2 o a b n l = .tuple #[.int .i64 t, .int .i64 0] ∧ 4 ≤ t := by
  have hok := dec_ok h0 h1 h2 h3
  obtain ⟨e0, e1, ⟨p0, p1⟩, ⟨p2, p3⟩, hE, hB⟩ := enc_back h0 h1 h2 h3
  have hlp := decL_pos x
  have hbd := okI_bd hok
  refine ⟨decO x, decA x, decB x y, decN x y, decL x, timeI (decO x) (decA x) (decB x y) (decL x), insB x y, encL (decO x) (decA x) (decB x y) (decN x y) (decL x), rfl, hok, by unfold okIc; rw [if_pos hok], by unfold encR; rw [if_pos hok], ?_, ?_, ?_, ?_, insB_size h0 h1 h2 h3, read_back h0 h1 h2 h3, lc_one h0 h1 h2 h3, ?_, by unfold time2; rw [if_pos hok], ?_⟩
  · rw [hE]; split <;> simp <;> omega
  · rw [hE]; split <;> simp
  · rw [hE]; intro z hz; split at hz <;> simp at hz
    · rcases hz with rfl | rfl <;> omega
    · subst hz; omega
  · unfold text2; rw [if_pos hok]; rfl
  · intro z z0 z1
    rw [hE]
    by_cases hl : decL x = 2
    · rw [if_pos hl]
      obtain ⟨q, _, _⟩ := hB e1 p2 p3 (fun _ => rfl)
      show dec2 [e0, e1] = _
      rw [dec2_two p0 p1 p2 p3, q]
    · rw [if_neg hl]
      obtain ⟨q, _, _⟩ := hB z z0 z1 (fun e => absurd e hl)
      show dec2 [e0, z] = _
      rw [dec2_two p0 p1 z0 z1, q]
  · have hr : 0 ≤ reachI (decO x) (decA x) (decB x y) := by unfold reachI; split <;> first | omega | (unfold bitI; split <;> omega) | skip
    have : 0 ≤ bitI ((decO x == 17) || (decO x == 18)) := by unfold bitI; split <;> omega
    unfold timeI
    omega
theorem holdC {p : Prop} (h : Hid p) : p := h.out
theorem rowC_of_own {W : World} {base : Nat} {g n cap k c : Nat} {L : List Int} (h : W.ownsRow base 3 1 (.slice (some ⟨g, 0, none⟩) n cap) n (L.map (Value.int .i64))) (hn : L.length = n) (hk : k ≤ n) : RowR W (.slice (some ⟨g, 0, none⟩) k c) (L.take k) := by
  have hl : (L.take k).length = k := by rw [List.length_take]; omega
  refine ⟨some ⟨g, 0, none⟩, c, by rw [hl], .inr ⟨g, 0, rfl, fun i hi => ?_⟩⟩
  rw [hl] at hi
  rw [Nat.zero_add, h.cellAt i (by omega)]
  simp [List.getD_eq_getElem?_getD, List.getElem?_eq_getElem (show i < L.length by omega), List.getElem?_take, hi]
theorem capC_of_own {W : World} {base : Nat} {g n cap : Nat} {xs : List Value} (h : W.ownsRow base 3 1 (.slice (some ⟨g, 0, none⟩) n cap) n xs) : n ≤ cap ∧ cap ≤ maxLen := by
  obtain ⟨_, ⟨h0, _⟩ | ⟨g', cap', cur, e, _, _, h1, h2, _⟩⟩ := h
  · cases h0
  · cases e; exact ⟨h1, h2⟩
theorem newsC {W : World} {b off cap : Nat} {zs : List Int} (h : RowR W (.slice (some ⟨b, off, none⟩) zs.length cap) zs) : ∀ j u, (zs.map (Value.int .i64))[j]? = some u → W.cell? ((⟨b, off, none⟩ : Addr).add j) = some u := fun j u hu => by
  rw [List.getElem?_map] at hu
  by_cases hj : j < zs.length
  · rw [List.getElem?_eq_getElem hj] at hu
    simp only [Option.map_some, Option.some.injEq] at hu
    obtain ⟨a', cap', e, h0 | ⟨b', off', e2, hc⟩⟩ := h
    · subst h0; simp at hj
    · cases e
      cases e2
      have ea : ((⟨b, off, none⟩ : Addr).add j) = ⟨b, off + j, none⟩ := by unfold Addr.add; split <;> simp_all
      rw [ea, hc j hj, ← hu, List.getD_eq_getElem?_getD, List.getElem?_eq_getElem hj]
      rfl
  · rw [List.getElem?_eq_none (by omega)] at hu
    cases hu
theorem oneC {zs : List Int} : ∀ u, u ∈ zs.map (Value.int .i64) → u.oneCell' = true := fun u hu => by
  obtain ⟨x, _, rfl⟩ := List.mem_map.1 hu
  rfl
theorem rowC_some {W : World} {a : Option Addr} {cap : Nat} {zs : List Int} (h : RowR W (.slice a zs.length cap) zs) (h0 : zs.length = 1 ∨ zs.length = 2) : ∃ b off, a = some ⟨b, off, none⟩ := by
  obtain ⟨a', cap', e, h1 | ⟨b', off', e2, hc⟩⟩ := h
  · subst h1; simp at h0
  · cases e; exact ⟨b', off', e2⟩
/-- the law's state: the drawn instruction in its box -/
structure Cd (w W : World) (X : Nat) (o a b n l : Int) : Prop where
  bel : Below w.heap.size w W
  box : Blk W X (insA o a b n l)
  kd : Kinds W
  pw : PowT W
theorem Cd.below {w W W' : World} {X : Nat} {o a b n l : Int} (h : Cd w W X o a b n l) (hb : Below W.heap.size W W') : Cd w W' X o a b n l :=
  ⟨new_trans h.bel hb, h.box.below hb h.box.lt, h.kd.below hb, h.pw.up hb⟩
end Go.Proofs.YtneagomkohoceaaDoor
