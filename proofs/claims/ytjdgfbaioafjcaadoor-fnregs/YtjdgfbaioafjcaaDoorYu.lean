/- While a sound chip is drawn: what lies where; a right chip stays right when it is written. -/
import Derived.Test.YtjdgfbaioafjcaaDoorYg
import Derived.Test.YtjdgfbaioafjcaaDoorSrc
namespace Go.Proofs.YtjdgfbaioafjcaaDoor
open Go.ChangeShapes Go.WideShapes Go.ChangeAt Go.RowKit
set_option linter.unusedVariables false
set_option linter.unusedSimpArgs false

theorem sizeSetS (W : World) (x : Addr) (u : Value) : (W.setCell x u).heap.size = W.heap.size := by simp [World.setCell]
theorem grow2S {a b c : World} {p : Nat} (h : a.grownBy b (some p)) (k : b.grownBy c (some p)) : a.grownBy c (some p) :=
  ⟨k.os.trans h.os, k.tape.trans h.tape, k.output.trans h.output, Nat.le_trans h.size k.size, fun i hi hne => (k.block i (Nat.lt_of_lt_of_le hi h.size) hne).trans (h.block i hi hne)⟩
theorem growOS {w W : World} {p b i : Nat} {u : Value} (h : w.grownBy W (some p)) (hb : w.heap.size ≤ b) : w.grownBy (W.setCell ⟨b, i, none⟩ u) (some p) :=
  ⟨h.os, h.tape, h.output, by have := h.size; simpa [World.setCell] using this, fun k hk hne => by
    rw [Below.heap_setCell _ _ _ _ (by simp; omega)]
    exact h.block k hk hne⟩
theorem growBS {w W : World} {p : Nat} (h : Below w.heap.size w W) : w.grownBy W (some p) :=
  ⟨h.os, h.tape, h.output, h.size, fun k hk _ => h.block k hk⟩
theorem Src.setS {W : World} {p : Nat} {a : Option Addr} {len cap nn b i : Nat} {u : Value} (h : Src W p a len cap nn) (hb : p < b) : Src (W.setCell ⟨b, i, none⟩ u) p a len cap nn :=
  h.kept (r := some b) ⟨rfl, rfl, rfl, by simp [World.setCell], fun k hk hne => Below.heap_setCell _ _ _ _ (by intro e; exact hne (by rw [e]))⟩ (by intro g e; cases e; exact hb)
/-- while a chip is being drawn -/
structure QSg (w W : World) (p : Nat) (a : Option Addr) (len cap nn bm : Nat) (A : Array Value) : Prop where
  src : Src W p a len cap nn
  ord : p < w.heap.size ∧ w.heap.size < bm ∧ bm < W.heap.size
  q0 : Blk W w.heap.size (sgA zeS)
  qm : Blk W bm A
  gro : w.grownBy W (some p)
theorem QSg.next {w W W' : World} {p : Nat} {a : Option Addr} {len cap nn nn' bm : Nat} {A : Array Value} (h : QSg w W p a len cap nn bm A) (hg : W.grownBy W' (some p)) (hs : Src W' p a len cap nn') : QSg w W' p a len cap nn' bm A := by
  obtain ⟨_, ⟨o1, o2, o3⟩, q0, qm, gro⟩ := h
  have hz := hg.size
  exact ⟨hs, ⟨o1, o2, by omega⟩, q0.grown hg (by simp; omega), qm.grown hg (by simp; omega), grow2S gro hg⟩
theorem QSg.set {w W : World} {p : Nat} {a : Option Addr} {len cap nn bm : Nat} {A : Array Value} (h : QSg w W p a len cap nn bm A) (i : Nat) (u : Value) : QSg w (W.setCell ⟨bm, i, none⟩ u) p a len cap nn bm (A.setIfInBounds i u) := by
  obtain ⟨src, ⟨o1, o2, o3⟩, q0, qm, gro⟩ := h
  exact ⟨src.setS (by omega), ⟨o1, o2, by rw [sizeSetS]; exact o3⟩, q0.other (by simp; omega) _, qm.set i u, growOS gro (by omega)⟩
theorem QSg.below {w W W' : World} {p : Nat} {a : Option Addr} {len cap nn bm : Nat} {A : Array Value} (h : QSg w W p a len cap nn bm A) (hb : Below W.heap.size W W') : QSg w W' p a len cap nn bm A :=
  h.next (growBS hb) (h.src.kept (r := none) ⟨hb.os, hb.tape, hb.output, hb.size, fun k hk _ => hb.block k hk⟩ (by intro g e; cases e))
theorem QSg.drew {w W : World} {p : Nat} {a : Option Addr} {len cap nn bm : Nat} {A : Array Value} (h : QSg w W p a len cap nn bm A) : QSg w W.drew p a len cap nn bm A := h.below ⟨rfl, rfl, rfl, Nat.le_refl _, fun _ _ => rfl⟩
theorem QSg.sets {w : World} {p : Nat} {a : Option Addr} {len cap nn bm : Nat} (vs : List Value) : ∀ (o : Nat) (W : World) (A : Array Value), QSg w W p a len cap nn bm A → QSg w (W.setCells bm o vs) p a len cap nn bm (layB o vs A) := by
  induction vs with
  | nil => exact fun _ _ _ h => h
  | cons u t ih => exact fun o W A h => ih _ _ _ (h.set o u)
theorem layB_all (z c : Sg) : layB 0 (sgA c).toList (sgA z) = sgA c := by
  simp only [layB, List.setIfInBounds_toArray, List.set_cons_zero, List.set_cons_succ, Nat.zero_add, Nat.reduceAdd]
theorem QSg.lay {w W : World} {p : Nat} {a : Option Addr} {len cap nn bm : Nat} {z : Sg} (h : QSg w W p a len cap nn bm (sgA z)) (c : Sg) : QSg w (W.setCells bm 0 (sgA c).toList) p a len cap nn bm (sgA c) := by
  have := h.sets (sgA c).toList 0 _ _
  rw [layB_all] at this
  exact this
theorem setCells_other {b g : Nat} {A : Array Value} (h : b ≠ g) (vs : List Value) : ∀ (o : Nat) (W : World), Blk W b A → Blk (W.setCells g o vs) b A := by
  induction vs with
  | nil => exact fun o W h => h
  | cons u t ih => exact fun o W hb => ih _ _ (hb.other (by simp; omega) u)
theorem okS_put {c : Sg} (h : okS c = true) (k : Nat) (v : Int) (h0 : 0 ≤ v) (h1 : v ≤ (maskN k : Nat)) (hk : k < 8) : okS (c.put v k) = true := by
  rw [okS_iff] at h ⊢
  obtain ⟨hr, hs, hc0, hc1, hn, hsh, he, hec⟩ := h
  have e : ∀ i, i < 8 → 0 ≤ (c.put v k).reg i ∧ (c.put v k).reg i ≤ (maskN i : Nat) := fun i hi => by
    have := hr i hi
    rcases eight hk with rfl | rfl | rfl | rfl | rfl | rfl | rfl | rfl <;> rcases eight hi with rfl | rfl | rfl | rfl | rfl | rfl | rfl | rfl <;> first | exact this | exact ⟨h0, h1⟩
  refine ⟨e, ?_⟩
  unfold Sg.put
  split <;> exact ⟨hs, hc0, hc1, hn, hsh, he, hec⟩
theorem okS_env0 {c : Sg} (h : okS c = true) : okS { c with env := 0, ec := 0 } = true := by
  rw [okS_iff] at h ⊢
  obtain ⟨hr, hs, hc0, hc1, hn, hsh, he, hec⟩ := h
  refine ⟨fun i hi => ?_, hs, hc0, hc1, hn, hsh, by simp, by simp⟩
  have := hr i hi
  rcases eight hi with rfl | rfl | rfl | rfl | rfl | rfl | rfl | rfl <;> exact this
theorem okS_write {c : Sg} (h : okS c = true) (v : Nat) : okS (c.write v) = true := by
  obtain ⟨s, hs, hs8⟩ := okS_sel h
  rw [write_eq c s v hs]
  have hl : Nat.land v (maskN s) ≤ maskN s := Nat.and_le_right
  have hp := okS_put h s ((Nat.land v (maskN s) : Nat) : Int) (by omega) (by omega) hs8
  split
  · exact okS_env0 hp
  · exact hp
theorem okS_choose {c : Sg} (h : okS c = true) (v : Int) (h0 : 0 ≤ v) (h1 : v ≤ 7) : okS { c with sel := v } = true := by
  rw [okS_iff] at h ⊢
  obtain ⟨hr, hs, hc0, hc1, hn, hsh, he, hec⟩ := h
  refine ⟨fun i hi => ?_, ⟨h0, h1⟩, hc0, hc1, hn, hsh, he, hec⟩
  have := hr i hi
  rcases eight hi with rfl | rfl | rfl | rfl | rfl | rfl | rfl | rfl <;> exact this
theorem okS_new : okS neS = true := by decide
theorem chanceS (p : Nat) (a : Option Addr) (len cap n : Nat) (m : Int) (w : World) (hs : Src w p a len cap n) (hn : n + 3 ≤ 1000000000) (hm0 : 0 ≤ m) (hm : m ≤ 1000000) :
    Calls Tryd.prog 47 #[.pointer (some ⟨p, 0, none⟩), .int .i64 m] w fun e w' => (∃ b : Bool, e = .returned (.bool b)) ∧ (∃ n', n' ≤ n + 3 ∧ Src w' p a len cap n') ∧ w.grownBy w' (some p) := by
  go_enter Tryd.func47, Tryd.ntmps47
  go_wp2_with fail
  refine (next_any _ _ _ _ _ _ _ hs hn).mono ?_
  rintro e w1 ⟨⟨v, rfl, h0, h1, h2⟩, hs1, hg1⟩
  replace hs1 := hid hs1
  replace hg1 := hid hg1
  clear h0 h1 h2 hs
  go_wp2
  go_ret
  exact ⟨⟨_, rfl⟩, hs1.out, hg1.out⟩
end Go.Proofs.YtjdgfbaioafjcaaDoor
