/- The taking of an interrupt, as plain numbers. -/
import Derived.Test.YtgpmpfikeindfaaGreatDoorV11
import Derived.Test.YtgpmpfikeindfaaGreatDoorV00
import Derived.Test.YtgpmpfikeindfaaGreatDoorV03
import Derived.Deep.Onto
namespace Go.Proofs.YtgpmpfikeindfaaGreatDoor
def intP (c : Cp) (M : Mem) : Mx := ⟨{ c with halt := false, iff := false }, M, [(1, c.pc, peekN M c.pc)]⟩
def intM (c : Cp) (M : Mem) : Mx := { (intP c M).push c.pc with c := { ((intP c M).push c.pc).c with pc := 56 } }
end Go.Proofs.YtgpmpfikeindfaaGreatDoor

/- Things that lie apart from one another in a world: each hangs on blocks of its own, so that what is written into one leaves the others as they are. -/
namespace Go.Proofs.YtgpmpfikeindfaaGreatDoor
open Go.ChangeShapes Go.WideShapes Go.ChangeAt Go.RowKit
set_option linter.unusedVariables false

/-- a thing: the blocks that it hangs on, and what is said of it -/
structure Thing where
  dom : Nat → Prop
  say : World → Prop
/-- the thing is as is said, whatever becomes of other blocks -/
structure Sits (W : World) (t : Thing) : Prop where
  now : t.say W
  lt : ∀ b, t.dom b → b < W.heap.size
  dep : ∀ W', (∀ b, t.dom b → W'.heap[b]? = W.heap[b]?) → t.say W'
theorem Sits.kept {W W' : World} {t : Thing} (h : Sits W t) (hs : W.heap.size ≤ W'.heap.size) (hk : ∀ b, t.dom b → W'.heap[b]? = W.heap[b]?) : Sits W' t :=
  ⟨h.dep W' hk, fun b hb => Nat.lt_of_lt_of_le (h.lt b hb) hs, fun W2 h2 => h.dep W2 (fun b hb => (h2 b hb).trans (hk b hb))⟩
theorem Sits.below {W W' : World} {t : Thing} (h : Sits W t) (hb : Below W.heap.size W W') : Sits W' t := h.kept hb.size (fun b hd => hb.block b (h.lt b hd))
/-- things that lie apart -/
structure Sts (W : World) (L : List Thing) : Prop where
  lies : ∀ t, t ∈ L → Sits W t
  apart : L.Pairwise (fun s t => ∀ b, s.dom b → ¬ t.dom b)
theorem Sts.nil (W : World) : Sts W [] := ⟨fun t h => (by cases h), List.Pairwise.nil⟩
theorem Sts.below {W W' : World} {L : List Thing} (h : Sts W L) (hb : Below W.heap.size W W') : Sts W' L := ⟨fun t ht => (h.lies t ht).below hb, h.apart⟩
theorem Sts.at {W : World} {L : List Thing} (h : Sts W L) (i : Nat) {t : Thing} (e : L[i]? = some t) : t.say W := (h.lies t (List.mem_of_getElem? e)).now
theorem Sts.has {W : World} {L : List Thing} (h : Sts W L) (i : Nat) {t : Thing} (e : L[i]? = some t) : Sits W t := h.lies t (List.mem_of_getElem? e)
/-- one more thing, in blocks that are new -/
theorem Sts.push {W W' : World} {L : List Thing} {t : Thing} (h : Sts W L) (hb : Below W.heap.size W W') (ht : Sits W' t) (hd : ∀ b, t.dom b → W.heap.size ≤ b) : Sts W' (t :: L) :=
  ⟨fun s hs => by
    rcases List.mem_cons.1 hs with rfl | hs
    · exact ht
    · exact (h.lies s hs).below hb, List.pairwise_cons.2 ⟨fun s hs b h1 h2 => by
      have := (h.lies s hs).lt b h2
      have := hd b h1
      omega, h.apart⟩⟩
/-- one more thing, apart from the others -/
theorem Sts.add {W : World} {L : List Thing} {t : Thing} (h : Sts W L) (ht : Sits W t) (hd : ∀ s, s ∈ L → ∀ b, t.dom b → ¬ s.dom b) : Sts W (t :: L) :=
  ⟨fun s hs => by
    rcases List.mem_cons.1 hs with rfl | hs
    · exact ht
    · exact h.lies s hs, List.pairwise_cons.2 ⟨hd, h.apart⟩⟩
/-- the i-th thing is written into: the others stay as they are -/
theorem Sts.turn {W W' : World} {L : List Thing} (h : Sts W L) (i : Nat) {t : Thing} {say' : World → Prop} (e : L[i]? = some t) (hs : W.heap.size ≤ W'.heap.size) (hk : ∀ b, b < W.heap.size → ¬ t.dom b → W'.heap[b]? = W.heap[b]?) (ht : Sits W' ⟨t.dom, say'⟩) : Sts W' (L.set i ⟨t.dom, say'⟩) := by
  have hi : i < L.length := by
    rcases Nat.lt_or_ge i L.length with h1 | h1
    · exact h1
    · rw [List.getElem?_eq_none h1] at e; cases e
  have hp := List.pairwise_iff_getElem.1 h.apart
  have ei : L[i] = t := by rw [List.getElem?_eq_getElem hi] at e; exact Option.some.inj e
  have dd : ∀ (j : Nat) (hj : j < L.length), ((L.set i ⟨t.dom, say'⟩)[j]'(by simpa using hj)).dom = L[j].dom := fun j hj => by
    by_cases e2 : i = j
    · subst e2
      rw [List.getElem_set_self, ei]
    · rw [List.getElem_set_ne e2]
  refine ⟨fun s hs' => ?_, List.pairwise_iff_getElem.2 (fun a b ha hb hab x => ?_)⟩
  · obtain ⟨j, hj, rfl⟩ := List.getElem_of_mem hs'
    rw [List.length_set] at hj
    by_cases e2 : i = j
    · subst e2
      rw [List.getElem_set_self]
      exact ht
    · rw [List.getElem_set_ne e2]
      have hl := h.lies L[j] (List.getElem_mem hj)
      refine hl.kept hs (fun b hb => hk b (hl.lt b hb) (fun htb => ?_))
      rcases Nat.lt_or_gt_of_ne e2 with h1 | h1
      · exact hp i j hi hj h1 b (by rw [ei]; exact htb) hb
      · exact hp j i hj hi h1 b hb (by rw [ei]; exact htb)
  · rw [List.length_set] at ha hb
    rw [dd a ha, dd b hb]
    exact hp a b ha hb hab x
/-- a box -/
abbrev tBox (b : Nat) (A : Array Value) : Thing := ⟨fun x => x = b, fun W => Blk W b A⟩
theorem sits_box {W : World} {b : Nat} {A : Array Value} (h : Blk W b A) : Sits W (tBox b A) :=
  ⟨h, fun x e => by cases e; exact h.lt, fun W' hk => by
    obtain ⟨t, h⟩ := h
    exact ⟨t, (hk b rfl).trans h⟩⟩
theorem Sts.box {W : World} {L : List Thing} (h : Sts W L) (A : Array Value) (t : TypeId) : Sts (W.alloc (.cells A t)) (tBox W.heap.size A :: L) :=
  h.push ((Below.refl _ _).alloc (Nat.le_refl _) _) (sits_box (Blk.new W A t)) (fun b e => by cases e; exact Nat.le_refl _)
/-- a memory in blocks of its own -/
abbrev tMem (lo hi : Nat) (v : Value) (M : Mem) : Thing := ⟨fun b => lo ≤ b ∧ b < hi, fun W => MemO W lo hi v M⟩
theorem sits_mem {W : World} {lo hi : Nat} {v : Value} {M : Mem} (h : MemO W lo hi v M) (hh : hi ≤ W.heap.size) : Sits W (tMem lo hi v M) :=
  ⟨h, fun b hb => Nat.lt_of_lt_of_le hb.2 hh, fun W' hk => h.kept (fun b h0 h1 => hk b ⟨h0, h1⟩)⟩
theorem Sts.mem {W W' : World} {L : List Thing} {v : Value} {M : Mem} (h : Sts W L) (hb : Below W.heap.size W W') (hm : MemO W' W.heap.size W'.heap.size v M) : Sts W' (tMem W.heap.size W'.heap.size v M :: L) :=
  h.push hb (sits_mem hm (Nat.le_refl _)) (fun b hb => hb.1)
theorem Sts.touch {W W' : World} {L : List Thing} (h : Sts W L) (i : Nat) {lo hi : Nat} {v : Value} {M M' : Mem} (e : L[i]? = some (tMem lo hi v M)) (ht : Touch lo hi W W') (hm : MemO W' lo hi v M') : Sts W' (L.set i (tMem lo hi v M')) := by
  have hl := h.has i e
  refine h.turn i e ht.size (fun b hb hn => ht.block b hb (by show b < lo ∨ hi ≤ b; have : ¬ (lo ≤ b ∧ b < hi) := hn; omega)) ⟨hm, fun b hb => ?_, fun W2 hk => hm.kept (fun b h0 h1 => hk b ⟨h0, h1⟩)⟩
  exact Nat.lt_of_lt_of_le (hl.lt b hb) ht.size
end Go.Proofs.YtgpmpfikeindfaaGreatDoor

/- What a call on a processor gives back, as it lies in a world. -/
namespace Go.Proofs.YtgpmpfikeindfaaGreatDoor
open Go.ChangeShapes Go.WideShapes Go.ChangeAt Go.RowKit
set_option linter.unusedVariables false
set_option linter.unusedSimpArgs false

/-- what is given back, as it lies in a world -/
structure Ans (w W : World) (x : Mx) (u cv : Value) : Prop where
  mem : ∃ lo hi, MemO W lo hi u x.m ∧ w.heap.size ≤ lo ∧ hi ≤ W.heap.size ∧ ∀ g, cv.ownBlock = some g → g < lo ∨ hi ≤ g
  own : W.ownsRow w.heap.size 42 3 cv x.cy.length (cyV x.cy)
  bel : Below w.heap.size w W
/-- nothing -/
def cp0 : Cp := ⟨0, 0, 0, 0, 0, 0, 0, 0, 0, 0, false, false, false⟩
def mx0 : Mx := ⟨cp0, mem0, []⟩
def intC (c : Cu) (M : Mem) : Int := if okC c && okM M then (if !c.iff || c.ei then 19 else 0) else 1
def intX (c : Cu) (M : Mem) : Mx := if okC c && okM M then (if !c.iff || c.ei then ⟨c.cp, M, []⟩ else intM c.cp M) else mx0
def stpC (c : Cu) (M : Mem) (n : Int) : Int := if okC c && okM M then (if inB n 0 255 then 0 else 4) else 1
def stpX (c : Cu) (M : Mem) (n : Int) : Mx := if okC c && okM M then (if inB n 0 255 then stepM c.cp M n.toNat else mx0) else mx0
/-- the answer is laid into blocks that were there before -/
theorem Ans.laid {w V W W' : World} {x : Mx} {u cv : Value} (h : Ans V W x u cv) (hw : w.heap.size ≤ V.heap.size) (hk : ∀ b, V.heap.size ≤ b → W'.heap[b]? = W.heap[b]?) (hs : W.heap.size ≤ W'.heap.size) (hB : Below w.heap.size w W') : Ans w W' x u cv := by
  obtain ⟨⟨lo, hi, h1, h2, h3, h4⟩, h5, h6⟩ := h
  refine ⟨⟨lo, hi, h1.kept (fun b hb _ => hk b (by omega)), by omega, by omega, h4⟩, ?_, hB⟩
  rcases h5.2 with ⟨rfl, e⟩ | ⟨g, cap, cur, rfl, hg, hc, hr⟩
  · exact ⟨h5.1, .inl ⟨rfl, e⟩⟩
  · exact ⟨h5.1, .inr ⟨g, cap, cur, rfl, by omega, (hk g hg).trans hc, hr⟩⟩
theorem Ans.of_out {w w1 w2 : World} {x : Mx} {vr vm cv u : Value} (h : Out w w1 x vr vm cv) (hm : MemO w2 w1.heap.size w2.heap.size u x.m) (hb : Below w1.heap.size w1 w2) : Ans w w2 x u cv :=
  ⟨⟨w1.heap.size, w2.heap.size, hm, h.bel.size, Nat.le_refl _, fun g hg => .inl (h.own.lt g hg).2⟩, own3_below h.own hb, h.bel.trans (hb.mono h.bel.size)⟩
theorem Ans.below {w W W' : World} {x : Mx} {u cv : Value} (h : Ans w W x u cv) (hb : Below W.heap.size W W') : Ans w W' x u cv := by
  obtain ⟨⟨lo, hi, h1, h2, h3, h4⟩, h5, h6⟩ := h
  exact ⟨⟨lo, hi, h1.below hb h3, h2, Nat.le_trans h3 hb.size, h4⟩, own3_below h5 hb, h6.trans (hb.mono h6.size)⟩
/-- nothing is given back -/
theorem Ans.none {w W : World} (c : Cp) (hb : Below w.heap.size w W) : Ans w W ⟨c, mem0, []⟩ (memV (.slice .none 0 0) (.slice .none 0 0) 0 0 false) (.slice .none 0 0) :=
  ⟨⟨W.heap.size, W.heap.size, MemO.zero _ _ _, hb.size, Nat.le_refl _, fun g hg => by cases hg⟩, World.ownsRow_nil _ _ _ _, hb⟩
theorem Ans.empty {w W : World} {b : Nat} (c : Cp) (hb : Below w.heap.size w W) (hq : W.heap[b]? = some (.cells #[] 42 (0, 0))) (hw : w.heap.size ≤ b) : Ans w W ⟨c, mem0, []⟩ (memV (.slice .none 0 0) (.slice .none 0 0) 0 0 false) (.slice (some ⟨b, 0, .none⟩) 0 0) :=
  ⟨⟨W.heap.size, W.heap.size, MemO.zero _ _ _, hb.size, Nat.le_refl _, fun g hg => .inl (by
    have : b = g := by simpa [Value.ownBlock] using hg
    subst this
    exact (Array.getElem?_eq_some_iff.1 hq).1)⟩, ⟨rfl, .inr ⟨b, 0, #[], rfl, hw, hq, Nat.le_refl _, Nat.zero_le _, rfl, rfl⟩⟩, hb⟩
/-- cycles in a block of their own -/
def CyO (W : World) (v : Value) (l : List (Nat × Nat × Nat)) : Prop := W.ownsRow 0 42 3 v l.length (cyV l)
abbrev tCyc (v : Value) (l : List (Nat × Nat × Nat)) : Thing := ⟨fun b => v.ownBlock = some b, fun W => CyO W v l⟩
theorem CyO.kept {W W' : World} {v : Value} {l : List (Nat × Nat × Nat)} (h : CyO W v l) (hk : ∀ b, v.ownBlock = some b → W'.heap[b]? = W.heap[b]?) : CyO W' v l := by
  rcases h.2 with ⟨rfl, e⟩ | ⟨g, cap, cur, rfl, hg, hc, hr⟩
  · exact ⟨h.1, .inl ⟨rfl, e⟩⟩
  · exact ⟨h.1, .inr ⟨g, cap, cur, rfl, hg, (hk g rfl).trans hc, hr⟩⟩
theorem sits_cyc {W : World} {v : Value} {l : List (Nat × Nat × Nat)} (h : CyO W v l) : Sits W (tCyc v l) :=
  ⟨h, fun b hb => (h.lt b hb).2, fun W' hk => h.kept hk⟩
theorem Ans.things {W0 W : World} {x : Mx} {u cv : Value} {L : List Thing} (h : Ans W0 W x u cv) (hS : Sts W0 L) : ∃ lo hi, Sts W (tCyc cv x.cy :: tMem lo hi u x.m :: L) := by
  obtain ⟨⟨lo, hi, h1, h2, h3, h4⟩, h5, h6⟩ := h
  refine ⟨lo, hi, (hS.push h6 (sits_mem h1 h3) (fun b hb => by have := hb.1; omega)).add (sits_cyc (h5.mono (Nat.zero_le _))) (fun s hs b hb hd => ?_)⟩
  have hlt := h5.lt b hb
  rcases List.mem_cons.1 hs with rfl | hs
  · have : lo ≤ b ∧ b < hi := hd
    have := h4 b hb
    omega
  · have := (hS.lies s hs).lt b hd
    omega
end Go.Proofs.YtgpmpfikeindfaaGreatDoor

/- Answers of two structs, laid down. -/
namespace Go.Proofs.YtgpmpfikeindfaaGreatDoor
open Go.ChangeShapes Go.WideShapes Go.ChangeAt Go.RowKit
set_option linter.unusedVariables false
set_option linter.unusedSimpArgs false

abbrev zCL : List Value := [.int .i64 0, .int .i64 0, .int .i64 0, .int .i64 0, .int .i64 0, .int .i64 0, .int .i64 0, .int .i64 0, .int .i64 0, .int .i64 0, .int .i64 0, .bool false, .bool false, .bool false]
abbrev zML : List Value := [.slice none 0 0, .slice none 0 0, .int .i64 0, .int .i64 0, .bool false]
theorem sets_heap (b : Nat) (l : List Value) : ∀ (W : World) (i k : Nat), k ≠ b → (sets W b i l).heap[k]? = W.heap[k]? := by
  induction l with
  | nil => exact fun _ _ _ _ => rfl
  | cons u t ih => exact fun W i k hk => (ih _ _ k hk).trans (Below.heap_setCell _ _ _ _ hk)
theorem sets_size (b : Nat) (l : List Value) : ∀ (W : World) (i : Nat), (sets W b i l).heap.size = W.heap.size := by
  induction l with
  | nil => exact fun _ _ => rfl
  | cons u t ih => exact fun W i => (ih _ _).trans (sizeSet _ _ _)
theorem sets_below (b : Nat) (l : List Value) : ∀ (w W : World) (n i : Nat), Below n w W → n ≤ b → Below n w (sets W b i l) := by
  induction l with
  | nil => exact fun _ _ _ _ h _ => h
  | cons u t ih => exact fun w W n i h hn => ih _ _ _ _ (h.setCell (p := ⟨b, i, none⟩) hn u) hn
/-- an answer of two structs is laid down -/
theorem fin_blk {w W : World} {b g : Nat} {A B : Array Value} (q1 : Blk W b A) (q2 : Blk W g B) (hbg : b ≠ g) (hB : Below w.heap.size w W) (lb : w.heap.size ≤ b) (lg : w.heap.size ≤ g) (L1 L2 : List Value) :
    (∀ i, (sets (sets W b 0 L1) g 0 L2).cell? ⟨b, i, none⟩ = (setsA 0 L1 A)[i]?) ∧ (∀ i, (sets (sets W b 0 L1) g 0 L2).cell? ⟨g, i, none⟩ = (setsA 0 L2 B)[i]?) ∧ (∀ k, k ≠ b → k ≠ g → (sets (sets W b 0 L1) g 0 L2).heap[k]? = W.heap[k]?) ∧ (sets (sets W b 0 L1) g 0 L2).heap.size = W.heap.size ∧ Below w.heap.size w (sets (sets W b 0 L1) g 0 L2) := by
  have g2 := sets_grown g L2 (sets W b 0 L1) 0
  have g1 := sets_grown b L1 W 0
  refine ⟨((sets_blk b L1 W 0 A q1).grown g2 (by simp [hbg])).cell, (sets_blk g L2 _ 0 B (q2.grown g1 (by simp; exact fun e => hbg e.symm))).cell, fun k h1 h2 => (sets_heap g L2 _ 0 k h2).trans (sets_heap b L1 W 0 k h1), by rw [sets_size, sets_size], sets_below _ _ _ _ _ _ (sets_below _ _ _ _ _ _ hB lb) lg⟩
theorem four_four {w : World} {A0 A1 A2 A3 : Array Value} {t0 t1 t2 t3 : TypeId} {V : World} (hV : (((w.alloc (.cells A0 t0)).alloc (.cells A1 t1)).alloc (.cells A2 t2)).alloc (.cells A3 t3) = V) :
    Blk V w.heap.size A0 ∧ Blk V (w.heap.size + 1) A1 ∧ Blk V (w.heap.size + 1 + 1) A2 ∧ Blk V (w.heap.size + 1 + 1 + 1) A3 ∧ Below w.heap.size w V ∧ V.heap.size = w.heap.size + 1 + 1 + 1 + 1 := by
  subst hV
  obtain ⟨h1, h2, h3⟩ := four_new w A0 A1 A2 A3 t0 t1 t2 t3
  exact ⟨(h3 _ _ (by simp)).1, (h3 _ _ (by simp)).1, (h3 _ _ (by simp)).1, (h3 _ _ (by simp)).1, h1, h2⟩
theorem zset1 : setsA 0 zCL zC = zC := rfl
theorem zset2 : setsA 0 zML zM = zM := rfl
theorem cp0_v : cpV cp0 = .agg zC := rfl
theorem Out.form {w W : World} {x : Mx} {vr vm cv : Value} (h : Out w W x vr vm cv) : ∃ e1 p1 e2 p2, vr = .slice e1 x.m.rom.length p1 ∧ vm = .slice e2 x.m.ram.length p2 := by
  obtain ⟨a1, p1, a2, p2, e, _, _⟩ := h.mem.form
  simp only [memV, Value.agg.injEq, Array.mk.injEq, List.cons.injEq] at e
  exact ⟨a1, p1, a2, p2, e.1, e.2.1⟩
/-- the specification's answer is laid down behind its copy of the memory -/
theorem lay_two {w w1 w2 : World} {x : Mx} {vr vm cv : Value} {b g : Nat} (hb : Below w.heap.size w w1) (q2 : Blk w1 b zC) (q3 : Blk w1 g zM) (hO : Out w1 w2 x vr vm cv) (hbg : b ≠ g) (lb : w.heap.size ≤ b) (lg : w.heap.size ≤ g) :
    ∀ V2, Below w2.heap.size w2 V2 → ∀ w3 u, MemO w3 V2.heap.size w3.heap.size u x.m → Below V2.heap.size V2 w3 → Blk w3 b zC ∧ Blk w3 g zM ∧ ∀ vr' vm', u = memV vr' vm' x.m.page x.m.screen x.m.locked →
      (∀ i, (sets (sets w3 b 0 (cpuL x.c)) g 0 (meL vr' vm' x.m)).cell? ⟨b, i, none⟩ = (cpA x.c)[i]?) ∧ (∀ i, (sets (sets w3 b 0 (cpuL x.c)) g 0 (meL vr' vm' x.m)).cell? ⟨g, i, none⟩ = (#[vr', vm', .int .i64 x.m.page, .int .i64 x.m.screen, .bool x.m.locked] : Array Value)[i]?) ∧ Ans w (sets (sets w3 b 0 (cpuL x.c)) g 0 (meL vr' vm' x.m)) x u cv := by
  intro V2 hV w3 u hm hb3
  have l2 := q2.lt
  have l3 := q3.lt
  have hz := hO.bel.size
  have hz2 := hV.size
  have hB : Below w1.heap.size w1 w3 := hO.bel.trans ((new_trans hV hb3).mono hz)
  have k2 := q2.below hB l2
  have k3 := q3.below hB l3
  refine ⟨k2, k3, fun vr' vm' e => ?_⟩
  obtain ⟨F1, F2, F3, F4, F5⟩ := fin_blk k2 k3 hbg (new_trans hb hB) lb lg (cpuL x.c) (meL vr' vm' x.m)
  rw [setsC] at F1
  rw [setsM] at F2
  refine ⟨F1, F2, ?_⟩
  have hA : Ans w1 w3 x u cv := ⟨⟨V2.heap.size, w3.heap.size, hm, by omega, Nat.le_refl _, fun y hy => .inl (by have := (hO.own.lt y hy).2; omega)⟩, own3_below hO.own (new_trans hV hb3), hB⟩
  exact hA.laid hb.size (fun y hy => F3 y (by omega) (by omega)) (by rw [F4]; exact Nat.le_refl _) F5
theorem ans_empty {w W' : World} {c : Cp} {M : Mem} {u : Value} {lo hi E : Nat} (hm : MemO W' lo hi u M) (h1 : w.heap.size ≤ lo) (h2 : hi ≤ W'.heap.size) (hE : W'.heap[E]? = some (.cells #[] 42 (0, 0))) (hE1 : w.heap.size ≤ E) (hE2 : E < lo ∨ hi ≤ E) (hB : Below w.heap.size w W') : Ans w W' ⟨c, M, []⟩ u (.slice (some ⟨E, 0, none⟩) 0 0) :=
  ⟨⟨lo, hi, hm, h1, h2, fun g hg => by
    have : E = g := by simpa [Value.ownBlock] using hg
    subst this
    exact hE2⟩, ⟨rfl, .inr ⟨E, 0, #[], rfl, hE1, hE, Nat.le_refl _, Nat.zero_le _, rfl, rfl⟩⟩, hB⟩
/-- a copy of the memory is laid down, with no cycles -/
theorem lay_own {w w1 : World} {c : Cp} {M : Mem} {b g : Nat} (hb : Below w.heap.size w w1) (q2 : Blk w1 b zC) (q3 : Blk w1 g zM) (hbg : b ≠ g) (lb : w.heap.size ≤ b) (lg : w.heap.size ≤ g) :
    ∀ V2, Below w1.heap.size w1 V2 → ∀ w3 u, MemO w3 V2.heap.size w3.heap.size u M → Below V2.heap.size V2 w3 → Blk w3 b zC ∧ Blk w3 g zM ∧ ∀ vr' vm', u = memV vr' vm' M.page M.screen M.locked → ∀ WF, sets (sets w3 b 0 (cpuL c)) g 0 (meL vr' vm' M) = WF →
      (∀ i, WF.cell? ⟨b, i, none⟩ = (cpA c)[i]?) ∧ (∀ i, WF.cell? ⟨g, i, none⟩ = (#[vr', vm', .int .i64 M.page, .int .i64 M.screen, .bool M.locked] : Array Value)[i]?) ∧ (∀ i, (WF.alloc (.cells #[] 42)).cell? ⟨b, i, none⟩ = (cpA c)[i]?) ∧ (∀ i, (WF.alloc (.cells #[] 42)).cell? ⟨g, i, none⟩ = (#[vr', vm', .int .i64 M.page, .int .i64 M.screen, .bool M.locked] : Array Value)[i]?) ∧ WF.heap.size = w3.heap.size ∧
      (V2.heap[w1.heap.size]? = some (.cells #[] 42 (0, 0)) → Ans w WF ⟨c, M, []⟩ u (.slice (some ⟨w1.heap.size, 0, none⟩) 0 0)) ∧ Ans w (WF.alloc (.cells #[] 42)) ⟨c, M, []⟩ u (.slice (some ⟨w3.heap.size, 0, none⟩) 0 0) ∧ Ans w WF ⟨c, M, []⟩ u (.slice none 0 0) := by
  intro V2 hV w3 u hm hb3
  have l2 := q2.lt
  have l3 := q3.lt
  have hz2 := hV.size
  have hz3 := hb3.size
  have hzw := hb.size
  have hB : Below w1.heap.size w1 w3 := new_trans hV hb3
  have k2 := q2.below hB l2
  have k3 := q3.below hB l3
  refine ⟨k2, k3, fun vr' vm' e WF hWF => ?_⟩
  obtain ⟨F1, F2, F3, F4, F5⟩ := fin_blk k2 k3 hbg (new_trans hb hB) lb lg (cpuL c) (meL vr' vm' M)
  rw [setsC] at F1
  rw [setsM] at F2
  rw [hWF] at F1 F2 F3 F4 F5
  have hm2 : MemO WF V2.heap.size w3.heap.size u M := hm.kept (fun y hy _ => F3 y (by omega) (by omega))
  refine ⟨F1, F2, fun i => (World.cell?_of_block (w := WF) (a := ⟨b, i, none⟩) (Below.heap_alloc WF _ b (by omega))).trans (F1 i), fun i => (World.cell?_of_block (w := WF) (a := ⟨g, i, none⟩) (Below.heap_alloc WF _ g (by omega))).trans (F2 i), F4, fun hE => ?_, ?_, ?_⟩
  · have hlt : w1.heap.size < V2.heap.size := (Array.getElem?_eq_some_iff.1 hE).1
    exact ans_empty hm2 (by omega) (by omega) ((F3 _ (by omega) (by omega)).trans ((hb3.block _ hlt).trans hE)) (by omega) (.inl hlt) F5
  · refine ans_empty (hm2.kept (fun y _ h2 => Below.heap_alloc WF _ y (by omega))) (by omega) (by rw [World.size_alloc]; omega) ?_ (by omega) (.inr (Nat.le_refl _)) (F5.alloc F5.size _)
    rw [← F4]
    exact heap_alloc_new WF _
  · exact ⟨⟨_, _, hm2, by omega, by omega, fun y hy => by cases hy⟩, World.ownsRow_nil _ _ _ _, F5⟩
end Go.Proofs.YtgpmpfikeindfaaGreatDoor

/- What a step keeps: all stay bytes, and the cycles tell what was written. -/
namespace Go.Proofs.YtgpmpfikeindfaaGreatDoor
set_option linter.unusedVariables false
set_option linter.unusedSimpArgs false

theorem lor8q {a b : Nat} (ha : a < 256) (hb : b < 256) : Nat.lor a b < 256 := Nat.or_lt_two_pow (n := 8) ha hb
theorem land8q (a : Nat) {b : Nat} (hb : b < 256) : Nat.land a b < 256 := Nat.and_lt_two_pow (n := 8) a hb
theorem xor8q {a b : Nat} (ha : a < 256) (hb : b < 256) : Nat.xor a b < 256 := Nat.xor_lt_two_pow (n := 8) ha hb
theorem btN_le1 (b : Bool) : btN b ≤ 1 := by cases b <;> decide
theorem mul_btq {k : Nat} (hk : k < 256) (b : Bool) : Nat.mul k (btN b) < 256 := by
  cases b
  · show k * 0 < 256; omega
  · show k * 1 < 256; omega
theorem addF_lq {a b c : Nat} (ha : a < 256) (hb : b < 256) (hc : c < 2) : addF a b c < 256 := by
  exact lor8q (lor8q (lor8q (szN_lt _ (addV_lt _ _ _)) (Nat.lt_of_le_of_lt (btN_le1 _) (by decide))) (mul_btq (by decide) _)) (mul_btq (by decide) _)
theorem subF_lq {a b c : Nat} (ha : a < 256) (hb : b < 256) (hc : c < 2) : subF a b c < 256 := by
  exact lor8q (lor8q (lor8q (lor8q (szN_lt _ (subV_lt _ _ _)) (by decide)) (Nat.lt_of_le_of_lt (btN_le1 _) (by decide))) (mul_btq (by decide) _)) (mul_btq (by decide) _)
theorem logV_lq {o a b : Nat} (ha : a < 256) (hb : b < 256) : logV o a b < 256 := by
  unfold logV
  cases Nat.beq o 0
  · cases Nat.beq o 1
    · exact lor8q ha hb
    · exact xor8q ha hb
  · exact land8q a hb
theorem logF_lq {o a b : Nat} (ha : a < 256) (hb : b < 256) : logF o a b < 256 := by
  unfold logF
  cases Nat.beq o 0
  · exact szpN_lt _ (logV_lq ha hb)
  · exact lor8q (szpN_lt _ (land8q a hb)) (by decide)
theorem incF_lq {a f : Nat} : incF a f < 256 := lor8q (lor8q (lor8q (land8q f (by decide)) (szN_lt _ (incV_lt a))) (mul_btq (by decide) _)) (mul_btq (by decide) _)
theorem decF_lq {a f : Nat} : decF a f < 256 := lor8q (lor8q (lor8q (lor8q (land8q f (by decide)) (szN_lt _ (decV_lt a))) (by decide)) (mul_btq (by decide) _)) (mul_btq (by decide) _)
theorem land1q (f : Nat) : Nat.land f 1 < 2 := Nat.and_lt_two_pow (n := 1) f (by decide)
theorem aluV_lq {o a b f : Nat} (ha : a < 256) (hb : b < 256) : aluV o a b f < 256 := by
  unfold aluV
  split
  · exact addV_lt _ _ _
  split
  · exact addV_lt _ _ _
  split
  · exact subV_lt _ _ _
  split
  · exact subV_lt _ _ _
  split
  · exact ha
  · exact logV_lq ha hb
theorem aluF_lq {o a b f : Nat} (ha : a < 256) (hb : b < 256) : aluF o a b f < 256 := by
  unfold aluF
  split
  · exact addF_lq ha hb (by decide)
  split
  · exact addF_lq ha hb (land1q f)
  split
  · exact subF_lq ha hb (by decide)
  split
  · exact subF_lq ha hb (land1q f)
  split
  · exact lor8q (land8q _ (by decide)) (land8q _ (by decide))
  · exact logF_lq ha hb
theorem turnV_lq {o a c : Nat} (ho : o < 8) (ha : a < 256) (hc : c < 2) : turnV o a c < 256 := by
  have h : ∀ o, o < 8 → ∀ a, a < 256 → ∀ c, c < 2 → Nat.ble (turnV o a c) 255 = true := by decide +kernel
  have := Nat.le_of_ble_eq_true (h o ho a ha c hc)
  omega
theorem turnF_lq {o a c : Nat} (ho : o < 8) (ha : a < 256) (hc : c < 2) : turnF o a c < 256 := by
  have h : ∀ o, o < 8 → ∀ a, a < 256 → ∀ c, c < 2 → Nat.ble (turnF o a c) 255 = true := by decide +kernel
  have := Nat.le_of_ble_eq_true (h o ho a ha c hc)
  omega
theorem tstF_lq {o a f : Nat} (ho : o < 8) (ha : a < 256) (hf : f < 256) : tstF o a f < 256 :=
  lor8q (lor8q (lor8q (lor8q (land8q f (by decide)) (by decide)) (land8q a (by decide))) (land8q _ (by decide))) (mul_btq (by decide) _)
theorem daaV_lq (a f : Nat) : daaV a f < 256 := by
  unfold daaV
  cases Nat.beq (Nat.land f 2) 0
  · exact land8q _ (by decide)
  · exact land8q _ (by decide)
theorem daaH_lq (a f : Nat) : daaH a f ≤ 1 := by
  unfold daaH
  cases Nat.beq (Nat.land f 2) 0
  · exact btN_le1 _
  · exact btN_le1 _
theorem daaF_lq (a f : Nat) : daaF a f < 256 := by
  have hH := daaH_lq a f
  refine lor8q (lor8q (lor8q (szpN_lt _ (daaV_lq a f)) (land8q f (by decide))) ?_) (by show 16 * daaH a f < 256; omega)
  unfold daaC
  cases (Nat.beq (Nat.land f 1) 1 || Nat.ble 154 a) <;> decide
theorem copyF_lq (f n b : Nat) : copyF f n b < 256 := by
  unfold copyF
  refine lor8q (lor8q (lor8q (land8q f (by decide)) (land8q n (by decide))) (land8q _ (by decide))) ?_
  split <;> decide
theorem put_okq {c : Cp} (h : c.ok) {v : Nat} (hv : v < 256) (r : Nat) : (c.put v r).ok := by
  obtain ⟨h0, h1, h2, h3, h4, h5, h6, h7, h8, h9⟩ := h
  unfold Cp.put
  split <;> simp only [Cp.ok] <;> omega
theorem put_iffq (c : Cp) (v r : Nat) : (c.put v r).iff = c.iff ∧ (c.put v r).ei = c.ei := by
  unfold Cp.put
  split <;> exact ⟨rfl, rfl⟩
/-- what the cycles say, done again -/
def again (M : Mem) (t : Nat × Nat × Nat) : Mem := if t.1 = 3 then pokeM M (t.2.1 : Int) (t.2.2 : Int) else M
def replay (M : Mem) (l : List (Nat × Nat × Nat)) : Mem := l.foldl again M
theorem replay_snoc (M : Mem) (l : List (Nat × Nat × Nat)) (t : Nat × Nat × Nat) : replay M (l ++ [t]) = again (replay M l) t := by simp [replay]
structure Inv (M0 : Mem) (t0 : Nat × Nat × Nat) (N : Nat) (x : Mx) : Prop where
  c : x.c.ok
  m : okM x.m = true
  ei : x.c.ei = true → x.c.iff = true
  cy : ∀ t, t ∈ x.cy → 1 ≤ t.1 ∧ t.1 ≤ 5 ∧ t.2.1 < 256 ∧ t.2.2 < 256
  len : x.cy.length ≤ N
  pre : ∃ r, x.cy = t0 :: r
  rep : replay M0 x.cy = x.m
theorem Inv.more {M0 : Mem} {t0 : Nat × Nat × Nat} {N N' : Nat} {x : Mx} (h : Inv M0 t0 N x) (hn : N ≤ N') : Inv M0 t0 N' x := ⟨h.c, h.m, h.ei, h.cy, Nat.le_trans h.len hn, h.pre, h.rep⟩
theorem Inv.note {M0 : Mem} {t0 : Nat × Nat × Nat} {N : Nat} {x : Mx} (h : Inv M0 t0 N x) (k a v : Nat) (h1 : 1 ≤ k) (h5 : k ≤ 5) (h3 : k ≠ 3) (ha : a < 256) (hv : v < 256) : Inv M0 t0 (N + 1) (x.note k a v) := by
  obtain ⟨r, hr⟩ := h.pre
  refine ⟨h.c, h.m, h.ei, fun t ht => ?_, ?_, ⟨r ++ [(k, a, v)], ?_⟩, ?_⟩
  · rcases List.mem_append.1 ht with ht | ht
    · exact h.cy t ht
    · simp at ht
      subst ht
      exact ⟨h1, h5, ha, hv⟩
  · show (x.cy ++ [_]).length ≤ _
    have := h.len
    simp
    omega
  · show x.cy ++ [_] = _
    rw [hr]; rfl
  · show replay M0 (x.cy ++ [_]) = x.m
    rw [replay_snoc, h.rep]
    unfold again
    rw [if_neg h3]
theorem Inv.read {M0 : Mem} {t0 : Nat × Nat × Nat} {N : Nat} {x : Mx} (h : Inv M0 t0 N x) (a : Nat) (ha : a < 256) : Inv M0 t0 (N + 1) (x.read a) := h.note 2 a _ (by decide) (by decide) (by decide) ha (peek_byte h.m ha).2
theorem Inv.write {M0 : Mem} {t0 : Nat × Nat × Nat} {N : Nat} {x : Mx} (h : Inv M0 t0 N x) (a v : Nat) (ha : a < 256) (hv : v < 256) : Inv M0 t0 (N + 1) (x.write a v) := by
  obtain ⟨r, hr⟩ := h.pre
  refine ⟨h.c, poke_ok h.m (in_yes (by omega) (by omega)), h.ei, fun t ht => ?_, ?_, ⟨r ++ [(3, a, v)], ?_⟩, ?_⟩
  · rcases List.mem_append.1 ht with ht | ht
    · exact h.cy t ht
    · simp at ht
      subst ht
      exact ⟨by show 1 ≤ 3; decide, by show 3 ≤ 5; decide, ha, hv⟩
  · show (x.cy ++ [_]).length ≤ _
    have := h.len
    simp
    omega
  · show x.cy ++ [_] = _
    rw [hr]; rfl
  · show replay M0 (x.cy ++ [_]) = _
    rw [replay_snoc, h.rep]
    rfl
theorem Inv.cpu {M0 : Mem} {t0 : Nat × Nat × Nat} {N : Nat} {x : Mx} (h : Inv M0 t0 N x) (c' : Cp) (hc : c'.ok) (he : c'.ei = true → c'.iff = true) : Inv M0 t0 N { x with c := c' } := ⟨hc, h.m, he, h.cy, h.len, h.pre, h.rep⟩
theorem Inv.getX {M0 : Mem} {t0 : Nat × Nat × Nat} {N : Nat} {x : Mx} (h : Inv M0 t0 N x) (r : Nat) : Inv M0 t0 (N + 1) (x.getX r) := by
  unfold Mx.getX
  split
  · exact h.read _ h.c.2.2.2.2.1
  · exact h.more (by omega)
theorem Inv.set {M0 : Mem} {t0 : Nat × Nat × Nat} {N : Nat} {x : Mx} (h : Inv M0 t0 N x) (r v : Nat) (hv : v < 256) : Inv M0 t0 (N + 1) (x.set r v) := by
  unfold Mx.set
  split
  · exact h.write _ _ h.c.2.2.2.2.1 hv
  · refine (h.cpu _ (put_okq h.c hv r) ?_).more (by omega)
    rw [(put_iffq _ _ _).1, (put_iffq _ _ _).2]
    exact h.ei
theorem Inv.push {M0 : Mem} {t0 : Nat × Nat × Nat} {N : Nat} {x : Mx} (h : Inv M0 t0 N x) (v : Nat) (hv : v < 256) : Inv M0 t0 (N + 1) (x.push v) := by
  obtain ⟨h0, h1, h2, h3, h4, h5, h6, h7, h8, h9⟩ := h.c
  have hs : (x.c.sp + 255) % 256 < 256 := Nat.mod_lt _ (by decide)
  exact (h.cpu { x.c with sp := (x.c.sp + 255) % 256 } ⟨h0, h1, h2, h3, h4, h5, h6, h7, hs, h9⟩ h.ei).write _ _ hs hv
theorem Inv.popX {M0 : Mem} {t0 : Nat × Nat × Nat} {N : Nat} {x : Mx} (h : Inv M0 t0 N x) : Inv M0 t0 (N + 1) x.popX := by
  obtain ⟨h0, h1, h2, h3, h4, h5, h6, h7, h8, h9⟩ := h.c
  have hs : (x.c.sp + 1) % 256 < 256 := Nat.mod_lt _ (by decide)
  exact (h.read x.c.sp h8).cpu { x.c with sp := (x.c.sp + 1) % 256 } ⟨h0, h1, h2, h3, h4, h5, h6, h7, hs, h9⟩ h.ei
theorem Inv.popV {M0 : Mem} {t0 : Nat × Nat × Nat} {N : Nat} {x : Mx} (h : Inv M0 t0 N x) : x.popV < 256 := (peek_byte h.m h.c.2.2.2.2.2.2.2.2.1).2
theorem Inv.alu {M0 : Mem} {t0 : Nat × Nat × Nat} {N : Nat} {x : Mx} (h : Inv M0 t0 N x) (o b : Nat) (hb : b < 256) : Inv M0 t0 N (x.alu o b) := by
  obtain ⟨h0, h1, h2, h3, h4, h5, h6, h7, h8, h9⟩ := h.c
  exact h.cpu _ ⟨h0, h1, h2, h3, h4, h5, aluV_lq h6 hb, aluF_lq h6 hb, h8, h9⟩ h.ei
theorem Inv.run {M0 : Mem} {t0 : Nat × Nat × Nat} {N : Nat} {x : Mx} (h : Inv M0 t0 N x) (n a b m : Nat) (hn : n < 256) (ha : a < 8) (hm : m < 256) (o : Nat) : Inv M0 t0 (N + 2) (x.run n a b m o) := by
  obtain ⟨h0, h1, h2, h3, h4, h5, h6, h7, h8, h9⟩ := h.c
  have gv : ∀ r, x.getV r < 256 := fun r => getV_lt h.m h.c r
  have gx : ∀ r f, f < 256 → Inv M0 t0 (N + 1) { x.getX r with c := { x.c with f := f } } := fun r f hf => (h.getX r).cpu _ ⟨h0, h1, h2, h3, h4, h5, h6, hf, h8, h9⟩ h.ei
  unfold Mx.run
  split
  · exact (h.getX b).set a _ (gv b)
  · exact (h.set a m hm).more (by omega)
  · exact ((h.read m hm).cpu { x.c with a := peekN x.m m } ⟨h0, h1, h2, h3, h4, h5, (peek_byte h.m hm).2, h7, h8, h9⟩ h.ei).more (by omega)
  · exact (h.write m x.c.a hm h6).more (by omega)
  · exact ((h.getX b).alu a _ (gv b)).more (by omega)
  · exact (h.alu a m hm).more (by omega)
  · exact (gx a _ incF_lq).set a _ (incV_lt _)
  · exact (gx a _ decF_lq).set a _ (decV_lt _)
  · exact (gx b _ (turnF_lq ha (gv b) (land1q _))).set b _ (turnV_lq ha (gv b) (land1q _))
  · exact (gx b _ (tstF_lq ha (gv b) h7)).more (by omega)
  · exact (h.cpu { x.c with a := daaV x.c.a x.c.f, f := daaF x.c.a x.c.f } ⟨h0, h1, h2, h3, h4, h5, daaV_lq _ _, daaF_lq _ _, h8, h9⟩ h.ei).more (by omega)
  · split
    · exact (h.cpu { x.c with pc := m } ⟨h0, h1, h2, h3, h4, h5, h6, h7, h8, hm⟩ h.ei).more (by omega)
    · exact h.more (by omega)
  · split
    · have hp := h.push x.c.pc h9
      obtain ⟨k0, k1, k2, k3, k4, k5, k6, k7, k8, k9⟩ := hp.c
      exact (hp.cpu { (x.push x.c.pc).c with pc := m } ⟨k0, k1, k2, k3, k4, k5, k6, k7, k8, hm⟩ hp.ei).more (by omega)
    · exact h.more (by omega)
  · split
    · have hp := h.popX
      obtain ⟨k0, k1, k2, k3, k4, k5, k6, k7, k8, k9⟩ := hp.c
      exact (hp.cpu { x.popX.c with pc := x.popV } ⟨k0, k1, k2, k3, k4, k5, k6, k7, k8, h.popV⟩ hp.ei).more (by omega)
    · exact h.more (by omega)
  · refine (h.push _ ?_).more (by omega)
    split
    · exact h7
    · exact reg_lt h.c a
  · have hp := h.popX
    obtain ⟨k0, k1, k2, k3, k4, k5, k6, k7, k8, k9⟩ := hp.c
    split
    · exact (hp.cpu { x.popX.c with f := x.popV } ⟨k0, k1, k2, k3, k4, k5, k6, h.popV, k8, k9⟩ hp.ei).more (by omega)
    · refine (hp.cpu _ (put_okq hp.c h.popV a) ?_).more (by omega)
      rw [(put_iffq _ _ _).1, (put_iffq _ _ _).2]
      exact hp.ei
  · exact ((h.note 4 m n (by decide) (by decide) (by decide) hm hn).cpu { x.c with a := n, f := Nat.lor (Nat.land x.c.f 1) (szpN n) } ⟨h0, h1, h2, h3, h4, h5, hn, lor8q (land8q _ (by decide)) (szpN_lt n hn), h8, h9⟩ h.ei).more (by omega)
  · exact (h.note 5 m x.c.a (by decide) (by decide) (by decide) hm h6).more (by omega)
  · exact (h.cpu { x.c with halt := true } h.c h.ei).more (by omega)
  · exact (h.cpu { x.c with iff := true, ei := true } h.c (fun _ => rfl)).more (by omega)
  · exact (h.cpu { x.c with iff := false, ei := false } h.c (fun e => e)).more (by omega)
  · have hb1 : (x.c.h + 1) % 256 < 256 := Nat.mod_lt _ (by decide)
    have hb2 : (x.c.d + 1) % 256 < 256 := Nat.mod_lt _ (by decide)
    have hb3 : (x.c.b + 255) % 256 < 256 := Nat.mod_lt _ (by decide)
    exact ((h.read x.c.h h4).write x.c.d _ h2 (peek_byte h.m h4).2).cpu _ ⟨hb3, h1, hb2, h3, hb1, h5, h6, copyF_lq _ _ _, h8, h9⟩ h.ei
  · exact h.more (by omega)
theorem stepP_inv {c : Cp} {M : Mem} (hc : c.ok) (hk : okM M = true) : Inv M (1, c.pc, peekN M c.pc) 1 (stepP c M) := by
  have hp : c.pc < 256 := hc.2.2.2.2.2.2.2.2.2
  refine ⟨hc, hk, (fun e => by cases e), fun t ht => ?_, Nat.le_refl _, ⟨[], rfl⟩, rfl⟩
  have ht : t ∈ [(1, c.pc, peekN M c.pc)] := ht
  simp at ht
  subst ht
  exact ⟨by show 1 ≤ 1; decide, by show 1 ≤ 5; decide, hp, (peek_byte hk hp).2⟩
theorem step_inv {c : Cp} {M : Mem} {n : Nat} (hc : c.ok) (hk : okM M = true) (hn : n < 256) : Inv M (1, c.pc, peekN M c.pc) 4 (stepM c M n) := by
  have h := stepP_inv hc hk
  unfold stepM
  split
  · exact h.more (by omega)
  · have hs1 : (c.pc + 1) % 256 < 256 := Nat.mod_lt _ (by decide)
    have hs2 : (c.pc + 2) % 256 < 256 := Nat.mod_lt _ (by decide)
    have hpc : c.pc < 256 := hc.2.2.2.2.2.2.2.2.2
    have b1 := (peek_byte hk hpc).2
    have b2 := (peek_byte hk hs1).2
    obtain ⟨h0, h1, h2, h3, h4, h5, h6, h7, h8, h9⟩ := hc
    have hq : Inv M (1, c.pc, peekN M c.pc) 2 (stepQ c M) := by
      unfold stepQ
      split
      · exact ((h.cpu { c with ei := false, pc := (c.pc + 1) % 256 } ⟨h0, h1, h2, h3, h4, h5, h6, h7, h8, hs1⟩ (fun e => by cases e)).read ((c.pc + 1) % 256) hs1).cpu { c with ei := false, pc := (c.pc + 2) % 256 } ⟨h0, h1, h2, h3, h4, h5, h6, h7, h8, hs2⟩ (fun e => by cases e)
      · exact (h.cpu { c with ei := false, pc := (c.pc + 1) % 256 } ⟨h0, h1, h2, h3, h4, h5, h6, h7, h8, hs1⟩ (fun e => by cases e)).more (by omega)
    have ka : (decA (peekN M c.pc)).toNat < 8 := by
      have : 0 ≤ decA (peekN M c.pc) ∧ decA (peekN M c.pc) < 8 := by unfold decA; split; omega; split <;> omega
      omega
    have km : (decN (peekN M c.pc) (peekN M ((c.pc + 1) % 256))).toNat < 256 := by
      have : 0 ≤ decN (peekN M c.pc) (peekN M ((c.pc + 1) % 256)) ∧ decN (peekN M c.pc) (peekN M ((c.pc + 1) % 256)) < 256 := by unfold decN; split; omega; split <;> omega
      omega
    exact hq.run n _ _ _ hn ka km _
end Go.Proofs.YtgpmpfikeindfaaGreatDoor
