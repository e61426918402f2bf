/- The source of choices that the laws draw from: what its methods answer (numbers in their bounds) and that they write into the source's own block alone. -/
import Derived.Test.YtneagomkohoceaaDoorBasec
import Derived.OwnWalk
import Derived.OneCell
import Derived.WalkSmall
import Derived.Deep.QuietTactic
import Derived.BigQuiet
import Derived.Deep.RegionHeld3
import Derived.Deep.AppendLies
import Derived.Deep.DrawnRows
import Derived.KernelRfl
import Derived.OpenShut
namespace Go.Proofs.YtneagomkohoceaaDoor
open Go.ChangeShapes Go.WideShapes Go.ChangeAt Go.RowKit
set_option linter.unusedVariables false

/-- a slice of bytes that came in: each of its elements can be read, in a block below B -/
def CodeAt (w : World) (B : Nat) (a : Option Addr) (len : Nat) : Prop :=
  len = 0 ∨ ∃ b off, a = some ⟨b, off, none⟩ ∧ b < B ∧ ∀ i, i < len → ∃ c : Int, 0 ≤ c ∧ c ≤ 255 ∧ w.cell? ⟨b, off + i, none⟩ = some (.int .u8 c)

theorem codeAt_of {w : World} {a : Option Addr} {len cap : Nat} {zs : List Int}
    (h : (a = none ∧ len = 0 ∧ cap = 0 ∧ zs = []) ∨ ∃ x, a = some x ∧ len ≤ cap ∧ cap ≤ maxLen ∧ zs.length = cap ∧ (∀ i, i < zs.length → w.cell? (x.add i) = some (.int .u8 (zs.getD i 0))) ∧ ∀ n ∈ zs, (Lit.int .u8 n).wf = true) :
    CodeAt w w.heap.size a len := by
  rcases h with ⟨_, rfl, _, _⟩ | ⟨x, rfl, hl, _, hz, hc, hw⟩
  · exact .inl rfl
  · by_cases h0 : len = 0
    · exact .inl h0
    · obtain ⟨b, off, spot⟩ := x
      have h1 := hc 0 (by omega)
      have hspot : spot = none := by simpa [Addr.add] using World.cell?_spot h1
      subst hspot
      have hb := World.block_lt_of_cell? w _ h1
      refine .inr ⟨b, off, rfl, by simpa [Addr.add] using hb, fun i hi => ?_⟩
      have h2 := hc i (by omega)
      have hm : zs.getD i 0 ∈ zs := by
        simp only [List.getD_eq_getElem?_getD, List.getElem?_eq_getElem (show i < zs.length by omega), Option.getD_some]
        exact List.getElem_mem _
      have hbd := bounds_u8 (hw _ hm)
      have hplain : (⟨b, off, none⟩ : Addr).add i = ⟨b, off + i, none⟩ := by unfold Addr.add; split <;> simp_all
      exact ⟨zs.getD i 0, hbd.1, hbd.2, by rw [← hplain]; exact h2⟩

theorem CodeAt.below {w w' : World} {B B' : Nat} {a : Option Addr} {len : Nat} (h : CodeAt w B a len) (hb : Below B w w') (hB : B ≤ B') : CodeAt w' B' a len := by
  rcases h with h | ⟨b, off, rfl, hb1, hc⟩
  · exact .inl h
  · refine .inr ⟨b, off, rfl, by omega, fun i hi => ?_⟩
    obtain ⟨c, h0, h1, h2⟩ := hc i hi
    exact ⟨c, h0, h1, by rw [hb.cell (p := ⟨b, off + i, none⟩) hb1]; exact h2⟩

/-- a source in block p: its three cells -/
structure Src (w : World) (p : Nat) (a : Option Addr) (len cap : Nat) (n : Nat) : Prop where
  blk : ∃ seed : Int, 0 ≤ seed ∧ seed < 2147483648 ∧ w.heap[p]? = some (.cells #[.slice a len cap, .int .i64 n, .int .i64 seed] 92 (0, 0))
  code : CodeAt w p a len
  lenb : len ≤ 1048576
  nb : n ≤ 1000000000

theorem CodeAt.grown {w w' : World} {B p : Nat} {a : Option Addr} {len : Nat} (h : CodeAt w B a len) (hg : w.grownBy w' (some p)) (hB : B ≤ p) (hp : p ≤ w.heap.size) : CodeAt w' B a len := by
  rcases h with h | ⟨b, off, rfl, hb, hc⟩
  · exact .inl h
  · refine .inr ⟨b, off, rfl, hb, fun i hi => ?_⟩
    obtain ⟨c, h0, h1, h2⟩ := hc i hi
    exact ⟨c, h0, h1, hg.cell h2 (by simp; omega)⟩

theorem blk_lt {w : World} {p : Nat} {o : Obj} (h : w.heap[p]? = some o) : p < w.heap.size := by
  rcases Nat.lt_or_ge p w.heap.size with h' | h'
  · exact h'
  · simp [Array.getElem?_eq_none h'] at h
theorem blk_set {w : World} {p off : Nat} {cs : Array Value} {t : TypeId} {u : Value} (h : w.heap[p]? = some (.cells cs t (0, 0))) : (w.setCell ⟨p, off, none⟩ u).heap[p]? = some (.cells (cs.setIfInBounds off u) t (0, 0)) := by
  have hlt := blk_lt h
  have h' : w.heap[p] = .cells cs t (0, 0) := by simpa [Array.getElem?_eq_getElem hlt] using h
  show (w.heap.modify p _)[p]? = _
  rw [Array.getElem?_eq_getElem (by simpa using hlt), Array.getElem_modify_self, h']
  rfl
theorem grown_set {w w' : World} {p off : Nat} {u : Value} (h : w.grownBy w' (some p)) : w.grownBy (w'.setCell ⟨p, off, none⟩ u) (some p) :=
  ⟨h.os, h.tape, h.output, by have := h.size; simpa [World.setCell] using this, fun k hk hne => by
    rw [Below.heap_setCell _ _ _ _ (fun e => hne (by rw [e]))]
    exact h.block k hk hne⟩
theorem grown_drewN {w w' : World} {r : Option Nat} (n : Nat) (h : w.grownBy w' r) : w.grownBy (w'.drewN n) r := ⟨h.os, h.tape, h.output, h.size, h.block⟩

theorem grown_then {a b c : World} {r r2 : Option Nat} (h : a.grownBy b r) (k : b.grownBy c r2) (hr : ∀ g, r2 = some g → a.heap.size ≤ g ∨ r = some g) : a.grownBy c r :=
  ⟨k.os.trans h.os, k.tape.trans h.tape, k.output.trans h.output, Nat.le_trans h.size k.size, fun i hi hne => by
    rw [k.block i (Nat.lt_of_lt_of_le hi h.size) (fun e => by
      rcases hr i e.symm with h1 | h1
      · omega
      · exact hne h1.symm)]
    exact h.block i hi hne⟩
theorem grown_below {w w' : World} {p : Nat} (h : w.grownBy w' (some p)) (hp : p ≤ w.heap.size) : Below p w w' :=
  ⟨h.os, h.tape, h.output, h.size, fun k hk => h.block k (by omega) (by simp; omega)⟩

set_option maxRecDepth 100000 in
theorem byte_any (p : Nat) (a : Option Addr) (len cap n : Nat) (w : World) (hs : Src w p a len cap n) (hn : n < 1000000000) :
    Calls Tryd.prog 79 #[.pointer (some ⟨p, 0, none⟩)] w fun e w' => (∃ v : Int, e = .returned (.int .i64 v) ∧ 0 ≤ v ∧ v ≤ 255) ∧ Src w' p a len cap (n + 1) ∧ w.grownBy w' (some p) := by
  obtain ⟨⟨seed, hs0, hs1, hblk⟩, hcode, hlenb, _⟩ := hs
  have c0 : w.cell? ⟨p, 0, none⟩ = some (.slice a len cap) := by simp [World.cell?, hblk]
  have c1 : w.cell? ⟨p, 1, none⟩ = some (.int .i64 n) := by simp [World.cell?, hblk]
  have c2 : w.cell? ⟨p, 2, none⟩ = some (.int .i64 seed) := by simp [World.cell?, hblk]
  have f1 : w.frozen? ⟨p, 1, none⟩ = false := by simp [World.frozen?, hblk]
  have f2 : w.frozen? ⟨p, 2, none⟩ = false := by simp [World.frozen?, hblk]
  go_enter Tryd.func79, Tryd.ntmps79
  go_wp2
  go_quiet (fail)
  have hblk1 : ((w.setCell ⟨p, 1, none⟩ (.int .i64 ((n : Int) + 1))).drewN nq).heap[p]? = some (.cells #[.slice a len cap, .int .i64 ((n : Int) + 1), .int .i64 seed] 92 (0, 0)) := blk_set hblk
  have hg1 : w.grownBy ((w.setCell ⟨p, 1, none⟩ (.int .i64 ((n : Int) + 1))).drewN nq) (some p) := grown_drewN _ (grown_set (World.grownBy.refl _ _))
  have hplt := blk_lt hblk
  have hcode1 := hcode.grown hg1 (Nat.le_refl _) (by omega)
  generalize ((w.setCell ⟨p, 1, none⟩ (.int .i64 ((n : Int) + 1))).drewN nq) = w1 at hblk1 hg1 hcode1 ⊢
  clear hcode c0 c1 c2 f1 f2
  have c0 : w1.cell? ⟨p, 0, none⟩ = some (.slice a len cap) := by simp [World.cell?, hblk1]
  have c1 : w1.cell? ⟨p, 1, none⟩ = some (.int .i64 ((n : Int) + 1)) := by simp [World.cell?, hblk1]
  have c2 : w1.cell? ⟨p, 2, none⟩ = some (.int .i64 seed) := by simp [World.cell?, hblk1]
  have f2 : w1.frozen? ⟨p, 2, none⟩ = false := by simp [World.frozen?, hblk1]
  have HB : Hid (w1.heap[p]? = some (.cells #[.slice a len cap, .int .i64 ((n : Int) + 1), .int .i64 seed] 92 (0, 0))) := hblk1
  have HC : Hid (CodeAt w1 p a len) := hcode1
  have HG : Hid (w.grownBy w1 (some p)) := hg1
  clear hblk hblk1 hcode1 hg1
  by_cases hl : n + 1 ≤ len
  · rcases HC.out with h | ⟨b, off, rfl, hb, hc⟩
    · omega
    obtain ⟨c, hc0, hc1, hc2⟩ := hc n (by omega)
    have hne : b ≠ p := by omega
    have hn1 : (n : Int) + 1 ≤ (len : Int) := by omega
    have hn2 : (n : Int) < (len : Int) := by omega
    have hn3 : (0 : Int) ≤ (n : Int) := by omega
    have k1 : IntKind.i64.wrap ((n : Int) + 1 - 1) = (n : Int) := by rw [IntKind.wrap_i64]; omega
    have k0 : IntKind.i64.wrap (n : Int) = (n : Int) := by rw [IntKind.wrap_i64]; omega
    have k2 : IntKind.i64.wrap (seed * 31) = seed * 31 := by rw [IntKind.wrap_i64]; omega
    have k3 : IntKind.i64.wrap c = c := by rw [IntKind.wrap_i64]; omega
    have k4 : IntKind.i64.wrap (seed * 31 + c) = seed * 31 + c := by rw [IntKind.wrap_i64]; omega
    have k5 : IntKind.i64.wrap (seed * 31 + c + 7) = seed * 31 + c + 7 := by rw [IntKind.wrap_i64]; omega
    have k6 : (seed * 31 + c + 7).tmod 2147483648 = (seed * 31 + c + 7) % 2147483648 := Int.tmod_eq_emod_of_nonneg (by omega)
    go_wp2
    go_region
    have g2 : w.grownBy ((w1.setCell ⟨p, 2, none⟩ (.int .i64 ((seed * 31 + c + 7) % 2147483648))).drew) (some p) := grown_drewN 1 (grown_set HG.out)
    have b2 : ((w1.setCell ⟨p, 2, none⟩ (.int .i64 ((seed * 31 + c + 7) % 2147483648))).drew).heap[p]? = some (.cells #[.slice (some ⟨b, off, none⟩) len cap, .int .i64 ((n : Int) + 1), .int .i64 ((seed * 31 + c + 7) % 2147483648)] 92 (0, 0)) := blk_set HB.out
    have d2 : CodeAt ((w1.setCell ⟨p, 2, none⟩ (.int .i64 ((seed * 31 + c + 7) % 2147483648))).drew) p (some ⟨b, off, none⟩) len := HC.out.grown (grown_drewN 1 (grown_set (World.grownBy.refl _ _))) (Nat.le_refl _) (by have := HG.out.size; omega)
    have e2 : ((w1.setCell ⟨p, 2, none⟩ (.int .i64 ((seed * 31 + c + 7) % 2147483648))).drew).cell? ⟨b, off + n, none⟩ = some (.int .u8 c) := (grown_drewN 1 (grown_set (World.grownBy.refl w1 (some p)))).cell hc2 (by simp; omega)
    have hsd : 0 ≤ (seed * 31 + c + 7) % 2147483648 ∧ (seed * 31 + c + 7) % 2147483648 < 2147483648 := by omega
    generalize ((w1.setCell ⟨p, 2, none⟩ (.int .i64 ((seed * 31 + c + 7) % 2147483648))).drew) = w2 at g2 b2 d2 e2 ⊢
    clear c0 c1 c2 f2 hc2 hc HB HC HG k2 k4 k5 k6
    generalize (seed * 31 + c + 7) % 2147483648 = seed' at hsd b2 ⊢
    have c0 : w2.cell? ⟨p, 0, none⟩ = some (.slice (some ⟨b, off, none⟩) len cap) := by simp [World.cell?, b2]
    have c1 : w2.cell? ⟨p, 1, none⟩ = some (.int .i64 ((n : Int) + 1)) := by simp [World.cell?, b2]
    have HB : Hid (w2.heap[p]? = some (.cells #[.slice (some ⟨b, off, none⟩) len cap, .int .i64 ((n : Int) + 1), .int .i64 seed'] 92 (0, 0))) := b2
    have HC : Hid (CodeAt w2 p (some ⟨b, off, none⟩) len) := d2
    have HG : Hid (w.grownBy w2 (some p)) := g2
    clear b2 d2 g2
    go_wp2
    go_region
    go_wp2
    go_ret
    exact ⟨⟨c, rfl, hc0, hc1⟩, ⟨⟨seed', hsd.1, hsd.2, HB.out⟩, HC.out, hlenb, by omega⟩, grown_drewN 1 HG.out⟩
  · by_cases h3 : 3000 < n + 1
    · go_wp2
      go_ret
      exact ⟨⟨0, rfl, by omega, by omega⟩, ⟨⟨seed, hs0, hs1, HB.out⟩, HC.out, hlenb, by omega⟩, HG.out⟩
    · go_wp2
      go_ret
      exact ⟨⟨_, rfl, by omega, by omega⟩, ⟨⟨_, by omega, by omega, blk_set HB.out⟩, HC.out.grown (grown_set (World.grownBy.refl _ _)) (Nat.le_refl _) (by have := HG.out.size; omega), hlenb, by omega⟩, grown_set HG.out⟩

theorem next_any (p : Nat) (a : Option Addr) (len cap n : Nat) (m : Int) (w : World) (hs : Src w p a len cap n) (hn : n + 3 ≤ 1000000000) :
    Calls Tryd.prog 57 #[.pointer (some ⟨p, 0, none⟩), .int .i64 m] w fun e w' => (∃ v : Int, e = .returned (.int .i64 v) ∧ 0 ≤ v ∧ (m ≤ 1 → v = 0) ∧ (2 ≤ m → v < m)) ∧ (∃ n', n' ≤ n + 3 ∧ Src w' p a len cap n') ∧ w.grownBy w' (some p) := by
  by_cases h1 : m ≤ 1
  · go_enter Tryd.func57, Tryd.ntmps57
    go_wp2
    go_ret
    exact ⟨⟨0, rfl, by omega, fun _ => rfl, by omega⟩, ⟨n, by omega, hs⟩, World.grownBy.refl _ _⟩
  · by_cases h2 : m ≤ 256
    · go_enter Tryd.func57, Tryd.ntmps57
      go_wp2_with (go_at_call 79; refine (byte_any _ _ _ _ _ _ hs (by omega)).mono ?_; rintro e w1 ⟨⟨v, rfl, hv0, hv1⟩, hs1, hg1⟩)
      go_ret
      exact ⟨⟨_, rfl, Int.emod_nonneg _ (by omega), by omega, fun _ => Int.emod_lt_of_pos _ (by omega)⟩, ⟨n + 1, by omega, hs1⟩, hg1⟩
    · go_enter Tryd.func57, Tryd.ntmps57
      go_wp2_with fail
      refine (byte_any _ _ _ _ _ _ hs (by omega)).mono ?_
      rintro e w1 ⟨⟨v1, rfl, hv0, hv1⟩, hs1, hg1⟩
      go_wp2_with fail
      refine (byte_any _ _ _ _ _ _ hs1 (by omega)).mono ?_
      rintro e w2 ⟨⟨v2, rfl, hv2, hv3⟩, hs2, hg2⟩
      go_wp2_with fail
      refine (byte_any _ _ _ _ _ _ hs2 (by omega)).mono ?_
      rintro e w3 ⟨⟨v3, rfl, hv4, hv5⟩, hs3, hg3⟩
      go_wp2
      go_ret
      exact ⟨⟨_, rfl, Int.emod_nonneg _ (by omega), by omega, fun _ => Int.emod_lt_of_pos _ (by omega)⟩, ⟨n + 1 + 1 + 1, by omega, hs3⟩, grown_then (grown_then hg1 hg2 (fun g hg => .inr hg)) hg3 (fun g hg => .inr hg)⟩

theorem Src.lt {w : World} {p : Nat} {a : Option Addr} {len cap n : Nat} (h : Src w p a len cap n) : p < w.heap.size := by
  obtain ⟨⟨seed, _, _, hb⟩, _⟩ := h
  exact blk_lt hb
/-- a source stays as it was while other blocks grow -/
theorem Src.kept {w w' : World} {p : Nat} {r : Option Nat} {a : Option Addr} {len cap n : Nat} (h : Src w p a len cap n) (hg : w.grownBy w' r) (hr : ∀ g, r = some g → p < g) : Src w' p a len cap n := by
  have hp := h.lt
  obtain ⟨⟨seed, h0, h1, hb⟩, hc, hl, hn⟩ := h
  refine ⟨⟨seed, h0, h1, ?_⟩, ?_, hl, hn⟩
  · rw [hg.block p hp (fun e => by have := hr p e.symm; omega)]; exact hb
  · rcases hc with h | ⟨b, off, rfl, hb, hc⟩
    · exact .inl h
    · refine .inr ⟨b, off, rfl, hb, fun i hi => ?_⟩
      obtain ⟨c, h0, h1, h2⟩ := hc i hi
      exact ⟨c, h0, h1, hg.cell h2 (fun e => by have := hr b e.symm; omega)⟩

/-- the relation of the loop of 'some' -/
structure SomeRel (w wr : World) (p : Nat) (a : Option Addr) (len cap n : Nat) (v : Value) (k : Nat) (xs : List Int) : Prop where
  lenx : xs.length = k
  bd : ∀ x ∈ xs, 0 ≤ x ∧ x ≤ 255
  own : wr.ownsRow w.heap.size 5 1 v k (xs.map (Value.int .u8))
  src : ∃ n', n' ≤ n + 3 * k ∧ Src wr p a len cap n'
  grown : w.grownBy wr (some p)

theorem SomeRel.step {w wr w1 w2 : World} {p : Nat} {a : Option Addr} {len cap n n1 : Nat} {v v2 : Value} {k : Nat} {xs : List Int} {x : Int} {o : Obj}
    (h : SomeRel w wr p a len cap n v k xs) (hp : p < w.heap.size) (hx : 0 ≤ x ∧ x ≤ 255) (hn1 : n1 ≤ n + 3 * k + 3) (hs1 : Src w1 p a len cap n1) (hg1 : wr.grownBy w1 (some p))
    (hown2 : w2.ownsRow w.heap.size 5 1 v2 (k + 1) (xs.map (Value.int .u8) ++ [.int .u8 x])) (hg2 : (w1.alloc o).grownBy w2 v.ownBlock) :
    SomeRel w w2 p a len cap n v2 (k + 1) (xs ++ [x]) := by
  have hlt : ∀ g, v.ownBlock = some g → w.heap.size ≤ g := fun g hg => (h.own.lt g hg).1
  have g12 : w1.grownBy w2 v.ownBlock := grown_then ((World.grownBy_alloc w1 o v.ownBlock)) hg2 (fun g hg => .inr hg)
  refine ⟨by simp [h.lenx], ?_, by simpa using hown2, ⟨n1, by omega, hs1.kept g12 (fun g hg => by have := hlt g hg; omega)⟩, ?_⟩
  · intro y hy
    rcases List.mem_append.1 hy with hy | hy
    · exact h.bd y hy
    · simp at hy; subst hy; exact hx
  · exact grown_then (grown_then h.grown hg1 (fun g hg => .inr hg)) g12 (fun g hg => .inl (hlt g hg))

theorem source_any (a : Option Addr) (len cap : Nat) (w : World) (hc : CodeAt w w.heap.size a len) (hl : len ≤ 1048576) :
    Calls Tryd.prog 26 #[.slice a len cap] w fun e w' => e = .returned (.pointer (some ⟨w.heap.size, 0, none⟩)) ∧ Src w' w.heap.size a len cap 0 ∧ w.grownBy w' none := by
  go_enter Tryd.func26, Tryd.ntmps26
  go_wp2
  go_ret
  refine ⟨rfl, ⟨⟨(len : Int) % 1000, by omega, by omega, heap_alloc_new _ _⟩, ?_, hl, by omega⟩, World.grownBy_alloc _ _ _⟩
  rcases hc with h | ⟨b, off, rfl, hb, hc⟩
  · exact .inl h
  · refine .inr ⟨b, off, rfl, hb, fun i hi => ?_⟩
    obtain ⟨c, h0, h1, h2⟩ := hc i hi
    exact ⟨c, h0, h1, (World.grownBy_alloc w _ none).cell h2 (by simp)⟩

set_option maxRecDepth 100000 in
theorem at_any (a : Option Addr) (len cap : Nat) (i : Int) (n : Int) (B : Nat) (w : World) (hc : CodeAt w B a len) (hl : len ≤ 1048576) (hi0 : 0 ≤ i) (hi : i ≤ 1000000) (hn : n ≤ 1000000000) :
    Calls Tryd.prog 12 #[.slice a len cap, .int .i64 i, .int .i64 n] w fun e w' => (∃ v : Int, e = .returned (.int .i64 v) ∧ 0 ≤ v ∧ (n ≤ 1 → v = 0) ∧ (2 ≤ n → v < n)) ∧ Below B w w' := by
  obtain ⟨i, rfl⟩ : ∃ j : Nat, i = (j : Int) := ⟨i.toNat, by omega⟩
  by_cases h1 : n ≤ 1
  · go_enter Tryd.func12, Tryd.ntmps12
    go_wp2
    go_ret
    exact ⟨⟨0, rfl, by omega, fun _ => rfl, by omega⟩, Below.refl _ _⟩
  · by_cases h0 : len = 0
    · subst h0
      go_enter Tryd.func12, Tryd.ntmps12
      go_wp2
      go_ret
      exact ⟨⟨_, rfl, Int.emod_nonneg _ (by omega), by omega, fun _ => Int.emod_lt_of_pos _ (by omega)⟩, Below.refl _ _⟩
    · rcases hc with h | ⟨b, off, rfl, hb, hc⟩
      · omega
      have hlp : (0 : Int) < (len : Int) := by omega
      have hlne : ((len : Int) == 0) = false := by simp; omega
      obtain ⟨q1, hq1⟩ : ∃ q : Nat, (i : Int) % (len : Int) = (q : Int) := ⟨i % len, by simp⟩
      obtain ⟨q2, hq2⟩ : ∃ q : Nat, ((i : Int) + 1) % (len : Int) = (q : Int) := ⟨(i + 1) % len, by simp⟩
      have hq1b : (q1 : Int) < (len : Int) := by rw [← hq1]; exact Int.emod_lt_of_pos _ hlp
      have hq2b : (q2 : Int) < (len : Int) := by rw [← hq2]; exact Int.emod_lt_of_pos _ hlp
      obtain ⟨c1, hc10, hc11, hc12⟩ := hc q1 (by omega)
      obtain ⟨c2, hc20, hc21, hc22⟩ := hc q2 (by omega)
      obtain ⟨q3, hq3⟩ : ∃ q : Nat, (i : Int) / (len : Int) = (q : Int) := ⟨i / len, by simp⟩
      have hq3b : (q3 : Int) ≤ 1000000 := by rw [← hq3]; exact Int.le_trans (Int.ediv_le_self _ (by omega)) (by omega)
      clear hc
      go_enter Tryd.func12, Tryd.ntmps12
      go_wp2
      go_region
      go_wp2
      go_ret
      exact ⟨⟨_, rfl, Int.emod_nonneg _ (by omega), by omega, fun _ => Int.emod_lt_of_pos _ (by omega)⟩, (Below.refl _ _).drew⟩
end Go.Proofs.YtneagomkohoceaaDoor
