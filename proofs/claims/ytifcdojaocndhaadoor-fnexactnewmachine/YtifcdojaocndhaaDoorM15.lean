/- What the specification's copy of a memory answers: the same memory in blocks of its own. -/
import Derived.Test.YtifcdojaocndhaaDoorM14
import Derived.Test.YtifcdojaocndhaaDoorM00
import Derived.WalkKit
import Derived.ProofKit
import Derived.Lib.Tables
import Derived.Laws.BitsAllLaws
import Derived.Test.YtifcdojaocndhaaDoorM03
import Derived.Test.YtifcdojaocndhaaDoorM02
namespace Go.Proofs.YtifcdojaocndhaaDoor
open Go.ChangeShapes Go.WideShapes Go.ChangeAt Go.RowKit
set_option linter.unusedVariables false

/-- while the rows of a memory are being copied: its boxes, its ROM's copy, the rows so far -/
def OwnSt (w wr : World) (N1 g1 : Nat) (A1 : Array Value) (vr u : Value) (M : Mem) (t : TypeId) (k : Nat) : Prop :=
  Blk wr w.heap.size A1 ∧ Blk wr (w.heap.size + 1) #[.slice none 0 0, .slice none 0 0, .int .i64 0, .int .i64 0, .bool false] ∧ RowO wr g1 vr M.rom ∧ Gath wr N1 g1 t u M.ram k ∧ Below w.heap.size w wr ∧ N1 ≤ wr.heap.size
theorem OwnSt.step {w wr w1 w2 : World} {N1 g1 g g2 c2 : Nat} {A1 : Array Value} {vr u v : Value} {M : Mem} {t : TypeId} {k : Nat} {V : Nat → Value}
    (h : OwnSt w wr N1 g1 A1 vr u M t k) (hn : w.heap.size + 1 < N1) (hg1 : g1 < N1) (hV : wr.ownsRow N1 t 1 u k ((List.range k).map V)) (hr : RowO w1 g v (M.ram.getD k [])) (hg : wr.heap.size ≤ g) (h1 : Below wr.heap.size wr w1)
    (ho : w2.ownsRow N1 t 1 (.slice (some ⟨g2, 0, none⟩) (k + 1) c2) (k + 1) ((List.range k).map V ++ [v])) (h2 : w1.grownBy w2 u.ownBlock) (hat : u.ownBlock = some g2 ∨ w1.heap.size ≤ g2) :
    OwnSt w w2 N1 g1 A1 vr (.slice (some ⟨g2, 0, none⟩) (k + 1) c2) M t (k + 1) := by
  obtain ⟨k1, k2, k3, k4, k5, k6⟩ := h
  have hu : ∀ b, u.ownBlock = some b → N1 ≤ b ∧ b < wr.heap.size := fun b hb => hV.lt b hb
  have hne : ∀ b, b < N1 → some b ≠ u.ownBlock := fun b hb e => by
    have := hu b e.symm
    omega
  refine ⟨(k1.below h1 (by omega)).grown h2 (hne _ (by omega)), (k2.below h1 (by omega)).grown h2 (hne _ (by omega)), ?_, k4.step (by omega) hV k6 hr hg h1 ho h2 hat, (k5.trans (h1.mono k5.size)).grown h2 (by have := k5.size; have := h1.size; omega) (fun b e => by have := hu b e; omega), by have := h1.size; have := h2.size; omega⟩
  exact k3.kept ((h2.block g1 (by have := h1.size; omega) (hne _ hg1)).trans (h1.block g1 (by omega)))
theorem OwnSt.start {w w1 : World} {g1 c1 p2 : Nat} {a2 : Option Addr} {x : Value} {M : Mem} (t : TypeId)
    (q0 : Blk w1 w.heap.size #[x, .slice a2 M.ram.length p2, .int .i64 M.page, .int .i64 M.screen, .bool M.locked]) (q1 : Blk w1 (w.heap.size + 1) #[.slice none 0 0, .slice none 0 0, .int .i64 0, .int .i64 0, .bool false]) (hro : RowO w1 g1 (.slice (some ⟨g1, 0, none⟩) M.rom.length c1) M.rom) (hB : Below w.heap.size w w1) (hg : w.heap.size + 1 + 1 ≤ g1) :
    OwnSt w ((w1.setCell ⟨w.heap.size, 0, none⟩ (.slice (some ⟨g1, 0, none⟩) M.rom.length c1)).alloc (.cells #[] t)) w1.heap.size g1 #[.slice (some ⟨g1, 0, none⟩) M.rom.length c1, .slice a2 M.ram.length p2, .int .i64 M.page, .int .i64 M.screen, .bool M.locked] (.slice (some ⟨g1, 0, none⟩) M.rom.length c1) (.slice (some ⟨w1.heap.size, 0, none⟩) 0 0) M t 0 := by
  have s0 := (q0.set 0 (.slice (some ⟨g1, 0, none⟩) M.rom.length c1)).alloc (.cells #[] t)
  simp at s0
  have s1 := (q1.other (p := ⟨w.heap.size, 0, none⟩) (by simp) (.slice (some ⟨g1, 0, none⟩) M.rom.length c1)).alloc (.cells #[] t)
  have s2 := Gath.start (w1.setCell ⟨w.heap.size, 0, none⟩ (.slice (some ⟨g1, 0, none⟩) M.rom.length c1)) t M.ram g1 (by rw [sizeSet]; exact hro.lt)
  have s3 := (hB.setCell (p := ⟨w.heap.size, 0, none⟩) (Nat.le_refl _) (.slice (some ⟨g1, 0, none⟩) M.rom.length c1)).alloc (by rw [sizeSet]; exact Nat.le_of_lt q0.lt) (.cells #[] t)
  have hlt := hro.lt
  rw [sizeSet] at s2
  refine ⟨s0, s1, hro.kept ?_, s2, s3, by rw [World.size_alloc, sizeSet]; omega⟩
  rw [Below.heap_alloc _ _ _ (by rw [sizeSet]; exact hlt), Below.heap_setCell _ _ _ _ (by simp; omega)]
theorem OwnSt.memO {w wr W' : World} {N1 g1 c1 : Nat} {A1 : Array Value} {u : Value} {M : Mem} {t : TypeId} (h : OwnSt w wr N1 g1 A1 (.slice (some ⟨g1, 0, none⟩) M.rom.length c1) u M t M.ram.length) (hr : 0 < M.ram.length) (hg : w.heap.size + 1 + 1 ≤ g1) (hg1 : g1 < N1)
    (hk : ∀ b, w.heap.size + 1 + 1 ≤ b → b < wr.heap.size → W'.heap[b]? = wr.heap[b]?) (hs : wr.heap.size ≤ W'.heap.size) :
    ∃ s c2, u = .slice (some ⟨s, 0, none⟩) M.ram.length c2 ∧ MemO W' w.heap.size W'.heap.size (memV (.slice (some ⟨g1, 0, none⟩) M.rom.length c1) u M.page M.screen M.locked) M := by
  obtain ⟨k1, k2, k3, k4, k5, k6⟩ := h
  obtain ⟨s, G, h1, h2, h3, h4, h5⟩ := (k4.done hr).kept hs (fun b hb1 hb2 => hk b (by omega) hb2)
  obtain ⟨c2, _, _, _, hv, _, _, _⟩ := id h1
  refine ⟨s, c2, hv, .inr ⟨_, _, g1, s, G, rfl, k3.kept (hk _ hg (by omega)), h1, by omega, by omega, fun i hi => by have := h3 i hi; omega, by omega, fun i hi => ⟨by have := h3 i hi; omega, h4 i hi⟩, h5⟩⟩
theorem infoI1 : (Tryd.prog.info? 3).map (fun i => (i.zero, i.size, i.bytes)) = some (some (.int .i64 0), 1, 8) := by kernel_rfl
theorem infoI2 : (Tryd.prog.info? 27).map (fun i => (i.zero, i.size, i.bytes)) = some (some (.slice none 0 0), 1, 24) := by kernel_rfl
end Go.Proofs.YtifcdojaocndhaaDoor

/- What the specification's write into a memory answers. -/
namespace Go.Proofs.YtifcdojaocndhaaDoor
open Go.ChangeShapes Go.WideShapes Go.ChangeAt Go.RowKit
set_option linter.unusedVariables false

/-- a memory behind a write -/
def pokeM (M : Mem) (a v : Int) : Mem := if a < 64 then M else { M with ram := M.ram.set (bankI M.page a).toNat ((M.ram.getD (bankI M.page a).toNat []).set (a % 64).toNat v) }
theorem bytes_set {zs : List Int} {n k : Nat} {v : Int} (h : bytesB zs n = true) (hv : inB v 0 255 = true) : bytesB (zs.set k v) n = true := by
  have hl := bytes_len h
  rw [bytes_all (fun i hi => ?_), List.length_set, hl]
  · simp
  · rw [List.length_set] at hi
    by_cases e : k = i
    · subst e
      rw [List.getD_eq_getElem?_getD, List.getElem?_set_self hi]
      exact hv
    · rw [List.getD_eq_getElem?_getD, List.getElem?_set_ne e, ← List.getD_eq_getElem?_getD]
      exact bytes_at h hi
theorem poke_ok {M : Mem} {a v : Int} (h : okM M = true) (hv : inB v 0 255 = true) : okM (pokeM M a v) = true := by
  obtain ⟨h1, h2, h3, h4, h5⟩ := ok_parts h
  unfold pokeM
  split
  · exact h
  · refine ok_all h1 (by rw [List.length_set]; exact h2) (in_yes h3.1 h3.2) h4 (fun i hi => ?_)
    by_cases e : (bankI M.page a).toNat = i
    · subst e
      rw [List.getD_eq_getElem?_getD, List.getElem?_set_self (by omega)]
      exact bytes_set (h5 _ (by omega)) hv
    · rw [List.getD_eq_getElem?_getD, List.getElem?_set_ne e, ← List.getD_eq_getElem?_getD]
      exact h5 i (by omega)
theorem rows_set {W : World} {g c j n2 : Nat} {x : Option Addr} {c2 : Nat} {V : Nat → Value} {zss : List (List Int)} {zs' : List Int} (hsp : ∀ i, i < zss.length → W.cell? ⟨g, i, none⟩ = some (if i = j then .slice x n2 c2 else V i))
    (hV : ∀ i, i < zss.length → i ≠ j → RowR W (V i) (zss.getD i [])) (hj : j < zss.length) (hr : RowR W (.slice x n2 c2) zs') : RowsR W (.slice (some ⟨g, 0, none⟩) zss.length c) (zss.set j zs') := by
  refine ⟨_, c, by rw [List.length_set], .inr ⟨g, 0, rfl, fun i hi => ?_⟩⟩
  rw [List.length_set] at hi
  refine ⟨_, by rw [Nat.zero_add]; exact hsp i hi, ?_⟩
  by_cases e : i = j
  · subst e
    rw [if_pos rfl, List.getD_eq_getElem?_getD, List.getElem?_set_self hi]
    exact hr
  · rw [if_neg e, List.getD_eq_getElem?_getD, List.getElem?_set_ne (fun h => e h.symm), ← List.getD_eq_getElem?_getD]
    exact hV i hi e
theorem news_of_rows {w : World} {b off : Nat} {V : Nat → Value} {n : Nat} (h : ∀ i, i < n → w.cell? ⟨b, off + i, none⟩ = some (V i)) :
    ∀ j u, ((List.range n).map V)[j]? = some u → w.cell? ((⟨b, off, none⟩ : Addr).add j) = some u := by
  intro j u hu
  have hj : j < n := by
    have := (List.getElem?_eq_some_iff.1 hu).1
    simpa using this
  rw [add_plain, h j hj, ← hu, List.getElem?_map, List.getElem?_range hj]
  rfl
theorem rows_fun {w : World} {a : Option Addr} {n cap : Nat} {zss : List (List Int)} (h : RowsR w (.slice a n cap) zss) (h0 : 0 < zss.length) :
    ∃ b off, ∃ (A : Nat → Option Addr) (C : Nat → Nat), a = some ⟨b, off, none⟩ ∧ b < w.heap.size ∧ ∀ i, i < zss.length → w.cell? ⟨b, off + i, none⟩ = some (.slice (A i) (zss.getD i []).length (C i)) ∧ RowR w (.slice (A i) (zss.getD i []).length (C i)) (zss.getD i []) := by
  rcases h.disj with h | ⟨b, off, h1, h2⟩
  · rw [h] at h0
    simp at h0
  · have h3 : ∀ i, i < zss.length → ∃ y : Option Addr × Nat, w.cell? ⟨b, off + i, none⟩ = some (.slice y.1 (zss.getD i []).length y.2) ∧ RowR w (.slice y.1 (zss.getD i []).length y.2) (zss.getD i []) := by
      intro i hi
      obtain ⟨u, k1, k2⟩ := h2 i hi
      obtain ⟨a', cap', rfl, _⟩ := id k2
      exact ⟨(a', cap'), k1, k2⟩
    obtain ⟨f, hf⟩ := Go.Deep.choose_lt h3
    exact ⟨b, off, fun i => (f i).1, fun i => (f i).2, h1, World.block_lt_of_cell? w _ (hf 0 h0).1, hf⟩
/-- what a write answers: the code, and the memory -/
def pokeC (M : Mem) (a v : Int) : Int := if askM M a = 0 then (if inB v 0 255 = true then 0 else 4) else askM M a
def pokeR (M : Mem) (a v : Int) : Mem := if pokeC M a v = 0 then pokeM M a v else mem0
end Go.Proofs.YtifcdojaocndhaaDoor

/- What impl.Parity and spec.Parity answer, and the functions that they call: both are the one test parB, in every world, which stays as it was. -/
namespace Go.Proofs.YtifcdojaocndhaaDoor
open Go.ChangeShapes Go.WideShapes Go.ChangeAt Go.RowKit
set_option linter.unusedVariables false

def prf : Nat → Nat → Bool
  | 0, _ => false
  | f + 1, n => (n % 2 == 1) != prf f (n / 2)
theorem prf_zero (f : Nat) : prf f 0 = false := by
  induction f with
  | zero => rfl
  | succ f ih => simp [prf, ih]
theorem i64_and1 (n : Nat) (h : n < 256) : bits .and .i64 (n : Int) 1 = ((n % 2 : Nat) : Int) := by
  show IntKind.i64.wrap ((BitVec.ofInt 64 (n : Int) &&& BitVec.ofInt 64 1).toNat : Nat) = _
  have h1 : (BitVec.ofInt 64 1).toNat = 1 := by decide
  rw [BitVec.toNat_and, BitVec.toNat_ofInt, h1, Nat.and_one_is_mod, IntKind.wrap_i64]
  omega
theorem pop8_par : ∀ v : Fin 256, (Lib.pop8 (v.val : Int) % 2 == 0) = !prf 8 v.val := by decide +kernel

theorem round_par {e : Bool} {f n : Nat} (h : 0 < n) (hn : n < 2 ^ f) (hn2 : n < 256) {B : Bool} (H : (e != prf f n) = B) :
    ∃ (f' n' : Nat) (e' : Bool), n' < 2 ^ f' ∧ n' < 256 ∧ Value.int .i64 ((n : Int) / 2) = .int .i64 n' ∧ Value.bool (!(e == (bits BinOp.and IntKind.i64 (n : Int) 1 == 1))) = .bool e' ∧ (e' != prf f' n') = B := by
  cases f with
  | zero => simp at hn; omega
  | succ f =>
    refine ⟨f, n / 2, _, by rw [Nat.pow_succ] at hn; omega, by omega, by simp, rfl, ?_⟩
    rw [← H, i64_and1 n hn2]
    simp only [prf]
    have : (((n % 2 : Nat) : Int) == 1) = (n % 2 == 1) := by rw [Bool.eq_iff_iff]; simp; omega
    rw [this]
    cases e <;> cases (n % 2 == 1) <;> cases prf f (n / 2) <;> rfl
theorem pop8_wrap : ∀ v : Fin 256, wrap64 (Lib.pop8 (v.val : Int)) = Lib.pop8 (v.val : Int) ∧ 0 ≤ Lib.pop8 (v.val : Int) ∧ Lib.pop8 (v.val : Int) ≤ 8 := by decide +kernel
def parB (v : Int) : Bool := decide (0 ≤ v ∧ v ≤ 255) && !prf 8 v.toNat
theorem parB_no {v : Int} (h : ¬ (0 ≤ v ∧ v ≤ 255)) : false = parB v := by unfold parB; rw [decide_eq_false h]; rfl
end Go.Proofs.YtifcdojaocndhaaDoor

/- What the specification's unit answers, part by part, as plain functions of natural numbers. -/
namespace Go.Proofs.YtifcdojaocndhaaDoor
open Go.ChangeShapes Go.WideShapes Go.ChangeAt Go.RowKit
set_option linter.unusedVariables false

def szN (v : Nat) : Nat := Nat.lor (Nat.land v 168) (Nat.mul 64 (btN (Nat.beq v 0)))
theorem szN_lt (v : Nat) (hv : v < 256) : szN v < 256 := by
  have h1 : Nat.land v 168 < 2 ^ 8 := Nat.and_lt_two_pow _ (by omega)
  have h2 : Nat.mul 64 (btN (Nat.beq v 0)) < 2 ^ 8 := by unfold btN; cases Nat.beq v 0 <;> decide
  exact Nat.or_lt_two_pow h1 h2
theorem sz_all : allB 256 (fun v => or (Nat.beq v 0) (decide (bits .or .i64 (bits .and .i64 (Int.ofNat v) 168) 0 = Int.ofNat (szN v)))) = true := by decide +kernel
theorem sz_end (v : Nat) (hv : v < 256) (h : v ≠ 0) : bits .or .i64 (bits .and .i64 (v : Int) 168) 0 = (szN v : Nat) := by
  have := allB_at sz_all v hv
  have h4 : Nat.beq v 0 = false := by cases v with | zero => omega | succ n => rfl
  rw [h4, Bool.false_or] at this
  exact of_decide_eq_true this

def szpN (v : Nat) : Nat := Nat.lor (szN v) (Nat.mul 4 (btN (!prf 8 v)))
theorem szpN_lt (v : Nat) (hv : v < 256) : szpN v < 256 := by
  have h2 : Nat.mul 4 (btN (!prf 8 v)) < 2 ^ 8 := by unfold btN; cases (!prf 8 v) <;> decide
  exact Nat.or_lt_two_pow (n := 8) (szN_lt v hv) h2
theorem szp_yes (v : Nat) (hv : v < 256) (h : prf 8 v = false) : bits .or .i64 ((szN v : Nat) : Int) 4 = (szpN v : Nat) := by
  have hl := szN_lt v hv
  have h2 : bits .or .i64 ((szN v : Nat) : Int) 4 = _ := bOr (szN v) 4 (by omega) (by omega)
  rw [h2]
  unfold szpN
  rw [h]
  rfl
theorem szp_no (v : Nat) (hv : v < 256) (h : prf 8 v = true) : bits .or .i64 ((szN v : Nat) : Int) 0 = (szpN v : Nat) := by
  have hl := szN_lt v hv
  have h2 : bits .or .i64 ((szN v : Nat) : Int) 0 = _ := bOr (szN v) 0 (by omega) (by omega)
  rw [h2]
  unfold szpN
  rw [h]
  rfl

theorem bit_spec (b : Bool) (w : World) : Calls Tryd.prog 151 #[.bool b] w fun e w' => e = .returned (.int .i64 (btN b)) ∧ w' = w := by
  cases b
  all_goals
    go_enter Tryd.func151, Tryd.ntmps151
    go_wp2
    go_ret
    exact ⟨rfl, rfl⟩

end Go.Proofs.YtifcdojaocndhaaDoor
