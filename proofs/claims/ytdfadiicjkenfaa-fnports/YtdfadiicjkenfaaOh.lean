/- Ports that the laws draw: they are right. -/
import Derived.Test.YtdfadiicjkenfaaOg
import Derived.Test.YtdfadiicjkenfaaSrc
namespace Go.Proofs.Ytdfadiicjkenfaa
open Go.ChangeShapes Go.WideShapes Go.ChangeAt Go.RowKit
set_option linter.unusedVariables false
set_option linter.unusedSimpArgs false

theorem okP_iff (c : Po) : okP c = true ↔ (∀ i, i < 8 → 0 ≤ c.key i ∧ c.key i ≤ 31) ∧ (0 ≤ c.joy ∧ c.joy ≤ 31) ∧ (0 ≤ c.border ∧ c.border ≤ 7) := by
  unfold okP keysB
  simp only [Bool.and_eq_true, List.all_eq_true, List.mem_range, inB, decide_eq_true_eq]
  constructor
  · rintro ⟨⟨h1, h2⟩, h3⟩
    exact ⟨h1, h2, h3⟩
  · rintro ⟨h1, h2, h3⟩
    exact ⟨⟨h1, h2⟩, h3⟩
theorem okP_put {c : Po} (h : okP c = true) (k : Nat) (v : Int) (h0 : 0 ≤ v) (h1 : v ≤ 31) : okP (c.put v k) = true := by
  rw [okP_iff] at h ⊢
  obtain ⟨hr, hj, hb⟩ := h
  refine ⟨fun i hi => ?_, ?_⟩
  · have := hr i hi
    rcases eight hi with rfl | rfl | rfl | rfl | rfl | rfl | rfl | rfl <;> (unfold Po.put; split <;> simp only [Po.key] at this ⊢ <;> omega)
  · unfold Po.put
    split <;> exact ⟨hj, hb⟩
theorem okP_joy {c : Po} (h : okP c = true) (v : Int) (h0 : 0 ≤ v) (h1 : v ≤ 31) : okP { c with joy := v } = true := by
  rw [okP_iff] at h ⊢
  obtain ⟨hr, hj, hb⟩ := h
  refine ⟨fun i hi => ?_, ⟨h0, h1⟩, hb⟩
  have := hr i hi
  rcases eight hi with rfl | rfl | rfl | rfl | rfl | rfl | rfl | rfl <;> exact this
theorem okP_ula {c : Po} (h : okP c = true) (v : Nat) : okP (c.ula v) = true := by
  rw [okP_iff] at h ⊢
  obtain ⟨hr, hj, hb⟩ := h
  refine ⟨fun i hi => ?_, hj, ?_⟩
  · have := hr i hi
    rcases eight hi with rfl | rfl | rfl | rfl | rfl | rfl | rfl | rfl <;> exact this
  · have : Nat.land v 7 ≤ 7 := Nat.and_le_right
    show (0 : Int) ≤ ((Nat.land v 7 : Nat) : Int) ∧ ((Nat.land v 7 : Nat) : Int) ≤ 7
    omega
theorem okP_new : okP neP = true := by decide
theorem grow2 {a b c : World} {p : Nat} (h : a.grownBy b (some p)) (k : b.grownBy c (some p)) : a.grownBy c (some p) :=
  ⟨k.os.trans h.os, k.tape.trans h.tape, k.output.trans h.output, Nat.le_trans h.size k.size, fun i hi hne => (k.block i (Nat.lt_of_lt_of_le hi h.size) hne).trans (h.block i hi hne)⟩
theorem growO {w W : World} {p b i : Nat} {u : Value} (h : w.grownBy W (some p)) (hb : w.heap.size ≤ b) : w.grownBy (W.setCell ⟨b, i, none⟩ u) (some p) :=
  ⟨h.os, h.tape, h.output, by have := h.size; simpa [World.setCell] using this, fun k hk hne => by
    rw [Below.heap_setCell _ _ _ _ (by simp; omega)]
    exact h.block k hk hne⟩
theorem growB {w W : World} {p : Nat} (h : Below w.heap.size w W) : w.grownBy W (some p) :=
  ⟨h.os, h.tape, h.output, h.size, fun k hk _ => h.block k hk⟩
theorem Src.setP {W : World} {p : Nat} {a : Option Addr} {len cap nn b i : Nat} {u : Value} (h : Src W p a len cap nn) (hb : p < b) : Src (W.setCell ⟨b, i, none⟩ u) p a len cap nn :=
  h.kept (r := some b) ⟨rfl, rfl, rfl, by simp [World.setCell], fun k hk hne => Below.heap_setCell _ _ _ _ (by intro e; exact hne (by rw [e]))⟩ (by intro g e; cases e; exact hb)
/-- while ports are being drawn -/
structure QSt (w W : World) (p : Nat) (a : Option Addr) (len cap nn bm : Nat) (A : Array Value) : Prop where
  src : Src W p a len cap nn
  ord : p < w.heap.size ∧ w.heap.size < bm ∧ bm < W.heap.size
  q0 : Blk W w.heap.size (poA zeP)
  qm : Blk W bm A
  gro : w.grownBy W (some p)
theorem QSt.next {w W W' : World} {p : Nat} {a : Option Addr} {len cap nn nn' bm : Nat} {A : Array Value} (h : QSt w W p a len cap nn bm A) (hg : W.grownBy W' (some p)) (hs : Src W' p a len cap nn') : QSt w W' p a len cap nn' bm A := by
  obtain ⟨_, ⟨o1, o2, o3⟩, q0, qm, gro⟩ := h
  have hz := hg.size
  exact ⟨hs, ⟨o1, o2, by omega⟩, q0.grown hg (by simp; omega), qm.grown hg (by simp; omega), grow2 gro hg⟩
theorem QSt.set {w W : World} {p : Nat} {a : Option Addr} {len cap nn bm : Nat} {A : Array Value} (h : QSt w W p a len cap nn bm A) (i : Nat) (u : Value) : QSt w (W.setCell ⟨bm, i, none⟩ u) p a len cap nn bm (A.setIfInBounds i u) := by
  obtain ⟨src, ⟨o1, o2, o3⟩, q0, qm, gro⟩ := h
  exact ⟨src.setP (by omega), ⟨o1, o2, by rw [sizeSet]; exact o3⟩, q0.other (by simp; omega) _, qm.set i u, growO gro (by omega)⟩
theorem QSt.below {w W W' : World} {p : Nat} {a : Option Addr} {len cap nn bm : Nat} {A : Array Value} (h : QSt w W p a len cap nn bm A) (hb : Below W.heap.size W W') : QSt w W' p a len cap nn bm A :=
  h.next (growB hb) (h.src.kept (r := none) ⟨hb.os, hb.tape, hb.output, hb.size, fun k hk _ => hb.block k hk⟩ (by intro g e; cases e))
theorem QSt.drew {w W : World} {p : Nat} {a : Option Addr} {len cap nn bm : Nat} {A : Array Value} (h : QSt w W p a len cap nn bm A) : QSt w W.drew p a len cap nn bm A := h.below ⟨rfl, rfl, rfl, Nat.le_refl _, fun _ _ => rfl⟩
set_option maxRecDepth 100000 in
set_option maxHeartbeats 4000000 in
theorem ports_any (p : Nat) (a : Option Addr) (len cap nn : Nat) (w : World) (hs : Src w p a len cap nn) (hn : nn ≤ 1000) :
    Calls Try.prog 30 #[.pointer (some ⟨p, 0, none⟩)] w fun e w' => ∃ c : Po, e = .returned (poV c) ∧ okP c = true ∧ (∃ n', n' ≤ 3000 ∧ Src w' p a len cap n') ∧ w.grownBy w' (some p) := by
  have hp := hs.lt
  replace hs := hid hs
  go_enter Try.func30, Try.ntmps30
  go_wp2_with fail
  refine (newp_spec _).mono ?_
  rintro e w1 ⟨rfl, hb1⟩
  have hB1 : Below w.heap.size w w1 := ((Below.refl _ _).alloc (Nat.le_refl _) _).trans (hb1.mono (by simp))
  have hq := (Blk.new w (poA zeP) 26).below hb1 (by simp)
  have hz := hq.lt
  have S0 : QSt w (w1.alloc (.cells (poA neP) 26)) p a len cap nn w1.heap.size (poA neP) := by
    have hB2 : Below w.heap.size w (w1.alloc (.cells (poA neP) 26)) := hB1.alloc hB1.size _
    exact ⟨hs.out.kept (r := none) ⟨hB2.os, hB2.tape, hB2.output, hB2.size, fun k hk _ => hB2.block k hk⟩ (by intro g e; cases e), ⟨hp, hz, by simp⟩, hq.alloc _, Blk.new w1 _ _, growB hB2⟩
  replace S0 := hid S0
  clear hb1 hB1 hq hs
  go_upto_region 2 with fail
  obtain ⟨W1, hW1⟩ : ∃ W1, w1.alloc (.cells (poA neP) 26) = W1 := ⟨_, rfl⟩
  obtain ⟨bm, hbm⟩ : ∃ bm, w1.heap.size = bm := ⟨_, rfl⟩
  rw [hW1, hbm] at S0
  rw [hW1, hbm]
  clear hW1 hbm hz
  go_wp2_with fail
  refine (next_any p a len cap nn 4 _ S0.out.src (by omega)).mono ?_
  rintro e w2 ⟨⟨v2, rfl, g20, _, g21⟩, ⟨n2, hn2, hs2⟩, hg2⟩
  have S2 := hid (S0.out.next hg2 hs2)
  obtain ⟨v2, rfl⟩ : ∃ m : Nat, v2 = m := ⟨v2.toNat, by omega⟩
  have b2 := g21 (by omega)
  clear hg2 g21 hs2 S0
  go_wp2
  go_loopw [4] (fun i wr => ∃ (k nk : Nat) (c : Po), k ≤ 3 ∧ i = .int .i64 k ∧ nk + 6 * k ≤ 1100 ∧ okP c = true ∧ QSt w wr p a len cap nk bm (poA c)) (fun i _ => (intOf i).toNat)
  case atStart => exact ⟨v2, n2, neP, by omega, rfl, by omega, okP_new, S2.out⟩
  case round =>
    obtain ⟨k, nk, c, hk, rfl, hnk, hok, hS⟩ := hrel
    clear S2 b2 g20 hn2
    by_cases hlt : 0 < k
    · replace hS := hid hS
      replace hok := hid hok
      go_wp2_with fail
      refine (next_any p a len cap nk 8 _ hS.out.src (by omega)).mono ?_
      rintro e w5 ⟨⟨v5, rfl, g50, _, g51⟩, ⟨n5, hn5, hs5⟩, hg5⟩
      have S5 := hid (hS.out.next hg5 hs5)
      obtain ⟨r, rfl⟩ : ∃ m : Nat, v5 = m := ⟨v5.toNat, by omega⟩
      have b5 := g51 (by omega)
      clear hg5 g51 hs5 hS
      go_wp2_with fail
      refine (next_any p a len cap n5 32 _ S5.out.src (by omega)).mono ?_
      rintro e w6 ⟨⟨v6, rfl, g60, _, g61⟩, ⟨n6, hn6, hs6⟩, hg6⟩
      have S6 := S5.out.next hg6 hs6
      have b6 := g61 (by omega)
      have hr8 : r < 8 := by omega
      have xm := S6.qm.cell r
      rw [poA_at c r hr8] at xm
      have fm := S6.qm.frozen r
      have hE := hid (S6.set r (.int .i64 v6))
      rw [poA_put c r v6 hr8] at hE
      have hB := hid (okP_put hok.out r v6 (by omega) (by omega))
      clear hg6 g61 hs6 S5 S6
      generalize c.key r = y at *
      go_wp2
      go_roundw
      case rel => exact ⟨k - 1, n6, _, by omega, by go_num, by omega, hB.out, hE.out⟩
      case measure => simp [intOf]; omega
    · obtain rfl : k = 0 := by omega
      replace hS := hid hS
      replace hok := hid hok
      go_wp2_with fail
      refine (next_any p a len cap nk 32 _ hS.out.src (by omega)).mono ?_
      rintro e w5 ⟨⟨v5, rfl, g50, _, g51⟩, ⟨n5, hn5, hs5⟩, hg5⟩
      have S5 := hS.out.next hg5 hs5
      have b5 := g51 (by omega)
      have x5 := S5.qm.cell
      have f5 := S5.qm.frozen
      have S6 := hid (S5.set 8 (.int .i64 v5))
      have eA : (poA c).setIfInBounds 8 (.int .i64 v5) = poA { c with joy := v5 } := rfl
      rw [eA] at S6
      have hok2 := hid (okP_joy hok.out v5 (by omega) (by omega))
      clear hg5 g51 hs5 hS S5 eA hok
      generalize { c with joy := v5 } = d at *
      go_upto_region 7 with fail
      obtain ⟨W6, hW6⟩ : ∃ W6, w5.setCell ⟨bm, 8, none⟩ (.int .i64 v5) = W6 := ⟨_, rfl⟩
      rw [hW6] at S6 ⊢
      clear hW6 x5 f5
      have x6 := S6.out.qm.cell
      have hord := S6.out.ord
      have hR : Hid (∀ W, QSt w W p a len cap n5 bm (poA d) → Calls Try.prog 39 #[.pointer (some ⟨p, 0, none⟩), .int .i64 32] W fun e w' => ∃ v : Nat, e = .returned (.int .i64 (v : Int)) ∧ v < 32 ∧ ∃ n', n' ≤ n5 + 3 ∧ QSt w w' p a len cap n' bm (poA d)) := fun W hQ => by
        refine (next_any p a len cap n5 32 _ hQ.src (by omega)).mono ?_
        rintro e w7 ⟨⟨v7, rfl, g70, _, g71⟩, ⟨n7, hn7, hs7⟩, hg7⟩
        have := g71 (by omega)
        exact ⟨v7.toNat, by rw [Int.toNat_of_nonneg g70], by omega, n7, hn7, hQ.next hg7 hs7⟩
      go_region_with (first | (go_at_call 39; refine (hR.out _ (by first | exact S6.out | exact S6.out.drew)).mono ?_; rintro e w7 ⟨v7, rfl, hv7, n7, hn7, hS7⟩; have x7 := hS7.qm.cell; replace hS7 := hid hS7) | (go_at_call 35; refine (write_spec d v7 _ (by omega)).mono ?_; rintro e w8 ⟨rfl, hb8⟩; have hS8 := hid (hS7.out.below hb8); have y8 := hS8.out.q0.cell; have f8 := hS8.out.q0.frozen; have l8 := hS8.out.q0.lt; clear hb8 x7))
      all_goals
        have hok3 := hid (okP_ula hok2.out v7)
        obtain ⟨C, hC⟩ : ∃ C, d.ula v7 = C := ⟨_, rfl⟩
        rw [hC] at hok3
        go_wp2
        refine bodyPost_ret (v := poV C) (by simp [results, Try.results30, go_sem, y8, hC]) rfl ⟨_, rfl, hok3.out, ⟨n7, by omega, ?_⟩, ?_⟩
        · iterate 12 refine Src.setP ?_ (by omega)
          exact hS8.out.src
        · iterate 12 refine growO ?_ (Nat.le_refl _)
          exact hS8.out.gro
end Go.Proofs.Ytdfadiicjkenfaa
