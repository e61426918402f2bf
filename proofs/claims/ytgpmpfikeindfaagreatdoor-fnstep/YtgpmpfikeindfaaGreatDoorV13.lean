/- The taking of an interrupt, as plain numbers. -/
import Derived.Test.YtgpmpfikeindfaaGreatDoorV12
import Derived.Test.YtgpmpfikeindfaaGreatDoorV00
import Derived.Test.YtgpmpfikeindfaaGreatDoorV03
import Derived.Deep.Onto
namespace Go.Proofs.YtgpmpfikeindfaaGreatDoor
def intP (c : Cp) (M : Mem) : Mx := ⟨{ c with halt := false, iff := false }, M, [(1, c.pc, peekN M c.pc)]⟩
def intM (c : Cp) (M : Mem) : Mx := { (intP c M).push c.pc with c := { ((intP c M).push c.pc).c with pc := 56 } }
end Go.Proofs.YtgpmpfikeindfaaGreatDoor

/- Things that lie apart from one another in a world: each hangs on blocks of its own, so that what is written into one leaves the others as they are. -/
namespace Go.Proofs.YtgpmpfikeindfaaGreatDoor
open Go.ChangeShapes Go.WideShapes Go.ChangeAt Go.RowKit
set_option linter.unusedVariables false

/-- a thing: the blocks that it hangs on, and what is said of it -/
structure Thing where
  dom : Nat → Prop
  say : World → Prop
/-- the thing is as is said, whatever becomes of other blocks -/
structure Sits (W : World) (t : Thing) : Prop where
  now : t.say W
  lt : ∀ b, t.dom b → b < W.heap.size
  dep : ∀ W', (∀ b, t.dom b → W'.heap[b]? = W.heap[b]?) → t.say W'
theorem Sits.kept {W W' : World} {t : Thing} (h : Sits W t) (hs : W.heap.size ≤ W'.heap.size) (hk : ∀ b, t.dom b → W'.heap[b]? = W.heap[b]?) : Sits W' t :=
  ⟨h.dep W' hk, fun b hb => Nat.lt_of_lt_of_le (h.lt b hb) hs, fun W2 h2 => h.dep W2 (fun b hb => (h2 b hb).trans (hk b hb))⟩
theorem Sits.below {W W' : World} {t : Thing} (h : Sits W t) (hb : Below W.heap.size W W') : Sits W' t := h.kept hb.size (fun b hd => hb.block b (h.lt b hd))
/-- things that lie apart -/
structure Sts (W : World) (L : List Thing) : Prop where
  lies : ∀ t, t ∈ L → Sits W t
  apart : L.Pairwise (fun s t => ∀ b, s.dom b → ¬ t.dom b)
theorem Sts.nil (W : World) : Sts W [] := ⟨fun t h => (by cases h), List.Pairwise.nil⟩
theorem Sts.below {W W' : World} {L : List Thing} (h : Sts W L) (hb : Below W.heap.size W W') : Sts W' L := ⟨fun t ht => (h.lies t ht).below hb, h.apart⟩
theorem Sts.at {W : World} {L : List Thing} (h : Sts W L) (i : Nat) {t : Thing} (e : L[i]? = some t) : t.say W := (h.lies t (List.mem_of_getElem? e)).now
theorem Sts.has {W : World} {L : List Thing} (h : Sts W L) (i : Nat) {t : Thing} (e : L[i]? = some t) : Sits W t := h.lies t (List.mem_of_getElem? e)
/-- one more thing, in blocks that are new -/
theorem Sts.push {W W' : World} {L : List Thing} {t : Thing} (h : Sts W L) (hb : Below W.heap.size W W') (ht : Sits W' t) (hd : ∀ b, t.dom b → W.heap.size ≤ b) : Sts W' (t :: L) :=
  ⟨fun s hs => by
    rcases List.mem_cons.1 hs with rfl | hs
    · exact ht
    · exact (h.lies s hs).below hb, List.pairwise_cons.2 ⟨fun s hs b h1 h2 => by
      have := (h.lies s hs).lt b h2
      have := hd b h1
      omega, h.apart⟩⟩
/-- one more thing, apart from the others -/
theorem Sts.add {W : World} {L : List Thing} {t : Thing} (h : Sts W L) (ht : Sits W t) (hd : ∀ s, s ∈ L → ∀ b, t.dom b → ¬ s.dom b) : Sts W (t :: L) :=
  ⟨fun s hs => by
    rcases List.mem_cons.1 hs with rfl | hs
    · exact ht
    · exact h.lies s hs, List.pairwise_cons.2 ⟨hd, h.apart⟩⟩
/-- the i-th thing is written into: the others stay as they are -/
theorem Sts.turn {W W' : World} {L : List Thing} (h : Sts W L) (i : Nat) {t : Thing} {say' : World → Prop} (e : L[i]? = some t) (hs : W.heap.size ≤ W'.heap.size) (hk : ∀ b, b < W.heap.size → ¬ t.dom b → W'.heap[b]? = W.heap[b]?) (ht : Sits W' ⟨t.dom, say'⟩) : Sts W' (L.set i ⟨t.dom, say'⟩) := by
  have hi : i < L.length := by
    rcases Nat.lt_or_ge i L.length with h1 | h1
    · exact h1
    · rw [List.getElem?_eq_none h1] at e; cases e
  have hp := List.pairwise_iff_getElem.1 h.apart
  have ei : L[i] = t := by rw [List.getElem?_eq_getElem hi] at e; exact Option.some.inj e
  have dd : ∀ (j : Nat) (hj : j < L.length), ((L.set i ⟨t.dom, say'⟩)[j]'(by simpa using hj)).dom = L[j].dom := fun j hj => by
    by_cases e2 : i = j
    · subst e2
      rw [List.getElem_set_self, ei]
    · rw [List.getElem_set_ne e2]
  refine ⟨fun s hs' => ?_, List.pairwise_iff_getElem.2 (fun a b ha hb hab x => ?_)⟩
  · obtain ⟨j, hj, rfl⟩ := List.getElem_of_mem hs'
    rw [List.length_set] at hj
    by_cases e2 : i = j
    · subst e2
      rw [List.getElem_set_self]
      exact ht
    · rw [List.getElem_set_ne e2]
      have hl := h.lies L[j] (List.getElem_mem hj)
      refine hl.kept hs (fun b hb => hk b (hl.lt b hb) (fun htb => ?_))
      rcases Nat.lt_or_gt_of_ne e2 with h1 | h1
      · exact hp i j hi hj h1 b (by rw [ei]; exact htb) hb
      · exact hp j i hj hi h1 b hb (by rw [ei]; exact htb)
  · rw [List.length_set] at ha hb
    rw [dd a ha, dd b hb]
    exact hp a b ha hb hab x
/-- a box -/
abbrev tBox (b : Nat) (A : Array Value) : Thing := ⟨fun x => x = b, fun W => Blk W b A⟩
theorem sits_box {W : World} {b : Nat} {A : Array Value} (h : Blk W b A) : Sits W (tBox b A) :=
  ⟨h, fun x e => by cases e; exact h.lt, fun W' hk => by
    obtain ⟨t, h⟩ := h
    exact ⟨t, (hk b rfl).trans h⟩⟩
theorem Sts.box {W : World} {L : List Thing} (h : Sts W L) (A : Array Value) (t : TypeId) : Sts (W.alloc (.cells A t)) (tBox W.heap.size A :: L) :=
  h.push ((Below.refl _ _).alloc (Nat.le_refl _) _) (sits_box (Blk.new W A t)) (fun b e => by cases e; exact Nat.le_refl _)
/-- a memory in blocks of its own -/
abbrev tMem (lo hi : Nat) (v : Value) (M : Mem) : Thing := ⟨fun b => lo ≤ b ∧ b < hi, fun W => MemO W lo hi v M⟩
theorem sits_mem {W : World} {lo hi : Nat} {v : Value} {M : Mem} (h : MemO W lo hi v M) (hh : hi ≤ W.heap.size) : Sits W (tMem lo hi v M) :=
  ⟨h, fun b hb => Nat.lt_of_lt_of_le hb.2 hh, fun W' hk => h.kept (fun b h0 h1 => hk b ⟨h0, h1⟩)⟩
theorem Sts.mem {W W' : World} {L : List Thing} {v : Value} {M : Mem} (h : Sts W L) (hb : Below W.heap.size W W') (hm : MemO W' W.heap.size W'.heap.size v M) : Sts W' (tMem W.heap.size W'.heap.size v M :: L) :=
  h.push hb (sits_mem hm (Nat.le_refl _)) (fun b hb => hb.1)
theorem Sts.touch {W W' : World} {L : List Thing} (h : Sts W L) (i : Nat) {lo hi : Nat} {v : Value} {M M' : Mem} (e : L[i]? = some (tMem lo hi v M)) (ht : Touch lo hi W W') (hm : MemO W' lo hi v M') : Sts W' (L.set i (tMem lo hi v M')) := by
  have hl := h.has i e
  refine h.turn i e ht.size (fun b hb hn => ht.block b hb (by show b < lo ∨ hi ≤ b; have : ¬ (lo ≤ b ∧ b < hi) := hn; omega)) ⟨hm, fun b hb => ?_, fun W2 hk => hm.kept (fun b h0 h1 => hk b ⟨h0, h1⟩)⟩
  exact Nat.lt_of_lt_of_le (hl.lt b hb) ht.size
end Go.Proofs.YtgpmpfikeindfaaGreatDoor

/- What a call on a processor gives back, as it lies in a world. -/
namespace Go.Proofs.YtgpmpfikeindfaaGreatDoor
open Go.ChangeShapes Go.WideShapes Go.ChangeAt Go.RowKit
set_option linter.unusedVariables false
set_option linter.unusedSimpArgs false

/-- what is given back, as it lies in a world -/
structure Ans (w W : World) (x : Mx) (u cv : Value) : Prop where
  mem : ∃ lo hi, MemO W lo hi u x.m ∧ w.heap.size ≤ lo ∧ hi ≤ W.heap.size ∧ ∀ g, cv.ownBlock = some g → g < lo ∨ hi ≤ g
  own : W.ownsRow w.heap.size 42 3 cv x.cy.length (cyV x.cy)
  bel : Below w.heap.size w W
/-- nothing -/
def cp0 : Cp := ⟨0, 0, 0, 0, 0, 0, 0, 0, 0, 0, false, false, false⟩
def mx0 : Mx := ⟨cp0, mem0, []⟩
def intC (c : Cu) (M : Mem) : Int := if okC c && okM M then (if !c.iff || c.ei then 19 else 0) else 1
def intX (c : Cu) (M : Mem) : Mx := if okC c && okM M then (if !c.iff || c.ei then ⟨c.cp, M, []⟩ else intM c.cp M) else mx0
def stpC (c : Cu) (M : Mem) (n : Int) : Int := if okC c && okM M then (if inB n 0 255 then 0 else 4) else 1
def stpX (c : Cu) (M : Mem) (n : Int) : Mx := if okC c && okM M then (if inB n 0 255 then stepM c.cp M n.toNat else mx0) else mx0
/-- the answer is laid into blocks that were there before -/
theorem Ans.laid {w V W W' : World} {x : Mx} {u cv : Value} (h : Ans V W x u cv) (hw : w.heap.size ≤ V.heap.size) (hk : ∀ b, V.heap.size ≤ b → W'.heap[b]? = W.heap[b]?) (hs : W.heap.size ≤ W'.heap.size) (hB : Below w.heap.size w W') : Ans w W' x u cv := by
  obtain ⟨⟨lo, hi, h1, h2, h3, h4⟩, h5, h6⟩ := h
  refine ⟨⟨lo, hi, h1.kept (fun b hb _ => hk b (by omega)), by omega, by omega, h4⟩, ?_, hB⟩
  rcases h5.2 with ⟨rfl, e⟩ | ⟨g, cap, cur, rfl, hg, hc, hr⟩
  · exact ⟨h5.1, .inl ⟨rfl, e⟩⟩
  · exact ⟨h5.1, .inr ⟨g, cap, cur, rfl, by omega, (hk g hg).trans hc, hr⟩⟩
theorem Ans.of_out {w w1 w2 : World} {x : Mx} {vr vm cv u : Value} (h : Out w w1 x vr vm cv) (hm : MemO w2 w1.heap.size w2.heap.size u x.m) (hb : Below w1.heap.size w1 w2) : Ans w w2 x u cv :=
  ⟨⟨w1.heap.size, w2.heap.size, hm, h.bel.size, Nat.le_refl _, fun g hg => .inl (h.own.lt g hg).2⟩, own3_below h.own hb, h.bel.trans (hb.mono h.bel.size)⟩
theorem Ans.below {w W W' : World} {x : Mx} {u cv : Value} (h : Ans w W x u cv) (hb : Below W.heap.size W W') : Ans w W' x u cv := by
  obtain ⟨⟨lo, hi, h1, h2, h3, h4⟩, h5, h6⟩ := h
  exact ⟨⟨lo, hi, h1.below hb h3, h2, Nat.le_trans h3 hb.size, h4⟩, own3_below h5 hb, h6.trans (hb.mono h6.size)⟩
/-- nothing is given back -/
theorem Ans.none {w W : World} (c : Cp) (hb : Below w.heap.size w W) : Ans w W ⟨c, mem0, []⟩ (memV (.slice .none 0 0) (.slice .none 0 0) 0 0 false) (.slice .none 0 0) :=
  ⟨⟨W.heap.size, W.heap.size, MemO.zero _ _ _, hb.size, Nat.le_refl _, fun g hg => by cases hg⟩, World.ownsRow_nil _ _ _ _, hb⟩
theorem Ans.empty {w W : World} {b : Nat} (c : Cp) (hb : Below w.heap.size w W) (hq : W.heap[b]? = some (.cells #[] 42 (0, 0))) (hw : w.heap.size ≤ b) : Ans w W ⟨c, mem0, []⟩ (memV (.slice .none 0 0) (.slice .none 0 0) 0 0 false) (.slice (some ⟨b, 0, .none⟩) 0 0) :=
  ⟨⟨W.heap.size, W.heap.size, MemO.zero _ _ _, hb.size, Nat.le_refl _, fun g hg => .inl (by
    have : b = g := by simpa [Value.ownBlock] using hg
    subst this
    exact (Array.getElem?_eq_some_iff.1 hq).1)⟩, ⟨rfl, .inr ⟨b, 0, #[], rfl, hw, hq, Nat.le_refl _, Nat.zero_le _, rfl, rfl⟩⟩, hb⟩
/-- cycles in a block of their own -/
def CyO (W : World) (v : Value) (l : List (Nat × Nat × Nat)) : Prop := W.ownsRow 0 42 3 v l.length (cyV l)
abbrev tCyc (v : Value) (l : List (Nat × Nat × Nat)) : Thing := ⟨fun b => v.ownBlock = some b, fun W => CyO W v l⟩
theorem CyO.kept {W W' : World} {v : Value} {l : List (Nat × Nat × Nat)} (h : CyO W v l) (hk : ∀ b, v.ownBlock = some b → W'.heap[b]? = W.heap[b]?) : CyO W' v l := by
  rcases h.2 with ⟨rfl, e⟩ | ⟨g, cap, cur, rfl, hg, hc, hr⟩
  · exact ⟨h.1, .inl ⟨rfl, e⟩⟩
  · exact ⟨h.1, .inr ⟨g, cap, cur, rfl, hg, (hk g rfl).trans hc, hr⟩⟩
theorem sits_cyc {W : World} {v : Value} {l : List (Nat × Nat × Nat)} (h : CyO W v l) : Sits W (tCyc v l) :=
  ⟨h, fun b hb => (h.lt b hb).2, fun W' hk => h.kept hk⟩
theorem Ans.things {W0 W : World} {x : Mx} {u cv : Value} {L : List Thing} (h : Ans W0 W x u cv) (hS : Sts W0 L) : ∃ lo hi, Sts W (tCyc cv x.cy :: tMem lo hi u x.m :: L) := by
  obtain ⟨⟨lo, hi, h1, h2, h3, h4⟩, h5, h6⟩ := h
  refine ⟨lo, hi, (hS.push h6 (sits_mem h1 h3) (fun b hb => by have := hb.1; omega)).add (sits_cyc (h5.mono (Nat.zero_le _))) (fun s hs b hb hd => ?_)⟩
  have hlt := h5.lt b hb
  rcases List.mem_cons.1 hs with rfl | hs
  · have : lo ≤ b ∧ b < hi := hd
    have := h4 b hb
    omega
  · have := (hS.lies s hs).lt b hd
    omega
end Go.Proofs.YtgpmpfikeindfaaGreatDoor

/- Answers of two structs, laid down. -/
namespace Go.Proofs.YtgpmpfikeindfaaGreatDoor
open Go.ChangeShapes Go.WideShapes Go.ChangeAt Go.RowKit
set_option linter.unusedVariables false
set_option linter.unusedSimpArgs false

abbrev zCL : List Value := [.int .i64 0, .int .i64 0, .int .i64 0, .int .i64 0, .int .i64 0, .int .i64 0, .int .i64 0, .int .i64 0, .int .i64 0, .int .i64 0, .int .i64 0, .bool false, .bool false, .bool false]
abbrev zML : List Value := [.slice none 0 0, .slice none 0 0, .int .i64 0, .int .i64 0, .bool false]
theorem sets_heap (b : Nat) (l : List Value) : ∀ (W : World) (i k : Nat), k ≠ b → (sets W b i l).heap[k]? = W.heap[k]? := by
  induction l with
  | nil => exact fun _ _ _ _ => rfl
  | cons u t ih => exact fun W i k hk => (ih _ _ k hk).trans (Below.heap_setCell _ _ _ _ hk)
theorem sets_size (b : Nat) (l : List Value) : ∀ (W : World) (i : Nat), (sets W b i l).heap.size = W.heap.size := by
  induction l with
  | nil => exact fun _ _ => rfl
  | cons u t ih => exact fun W i => (ih _ _).trans (sizeSet _ _ _)
theorem sets_below (b : Nat) (l : List Value) : ∀ (w W : World) (n i : Nat), Below n w W → n ≤ b → Below n w (sets W b i l) := by
  induction l with
  | nil => exact fun _ _ _ _ h _ => h
  | cons u t ih => exact fun w W n i h hn => ih _ _ _ _ (h.setCell (p := ⟨b, i, none⟩) hn u) hn
/-- an answer of two structs is laid down -/
theorem fin_blk {w W : World} {b g : Nat} {A B : Array Value} (q1 : Blk W b A) (q2 : Blk W g B) (hbg : b ≠ g) (hB : Below w.heap.size w W) (lb : w.heap.size ≤ b) (lg : w.heap.size ≤ g) (L1 L2 : List Value) :
    (∀ i, (sets (sets W b 0 L1) g 0 L2).cell? ⟨b, i, none⟩ = (setsA 0 L1 A)[i]?) ∧ (∀ i, (sets (sets W b 0 L1) g 0 L2).cell? ⟨g, i, none⟩ = (setsA 0 L2 B)[i]?) ∧ (∀ k, k ≠ b → k ≠ g → (sets (sets W b 0 L1) g 0 L2).heap[k]? = W.heap[k]?) ∧ (sets (sets W b 0 L1) g 0 L2).heap.size = W.heap.size ∧ Below w.heap.size w (sets (sets W b 0 L1) g 0 L2) := by
  have g2 := sets_grown g L2 (sets W b 0 L1) 0
  have g1 := sets_grown b L1 W 0
  refine ⟨((sets_blk b L1 W 0 A q1).grown g2 (by simp [hbg])).cell, (sets_blk g L2 _ 0 B (q2.grown g1 (by simp; exact fun e => hbg e.symm))).cell, fun k h1 h2 => (sets_heap g L2 _ 0 k h2).trans (sets_heap b L1 W 0 k h1), by rw [sets_size, sets_size], sets_below _ _ _ _ _ _ (sets_below _ _ _ _ _ _ hB lb) lg⟩
theorem four_four {w : World} {A0 A1 A2 A3 : Array Value} {t0 t1 t2 t3 : TypeId} {V : World} (hV : (((w.alloc (.cells A0 t0)).alloc (.cells A1 t1)).alloc (.cells A2 t2)).alloc (.cells A3 t3) = V) :
    Blk V w.heap.size A0 ∧ Blk V (w.heap.size + 1) A1 ∧ Blk V (w.heap.size + 1 + 1) A2 ∧ Blk V (w.heap.size + 1 + 1 + 1) A3 ∧ Below w.heap.size w V ∧ V.heap.size = w.heap.size + 1 + 1 + 1 + 1 := by
  subst hV
  obtain ⟨h1, h2, h3⟩ := four_new w A0 A1 A2 A3 t0 t1 t2 t3
  exact ⟨(h3 _ _ (by simp)).1, (h3 _ _ (by simp)).1, (h3 _ _ (by simp)).1, (h3 _ _ (by simp)).1, h1, h2⟩
theorem zset1 : setsA 0 zCL zC = zC := rfl
theorem zset2 : setsA 0 zML zM = zM := rfl
theorem cp0_v : cpV cp0 = .agg zC := rfl
theorem Out.form {w W : World} {x : Mx} {vr vm cv : Value} (h : Out w W x vr vm cv) : ∃ e1 p1 e2 p2, vr = .slice e1 x.m.rom.length p1 ∧ vm = .slice e2 x.m.ram.length p2 := by
  obtain ⟨a1, p1, a2, p2, e, _, _⟩ := h.mem.form
  simp only [memV, Value.agg.injEq, Array.mk.injEq, List.cons.injEq] at e
  exact ⟨a1, p1, a2, p2, e.1, e.2.1⟩
/-- the specification's answer is laid down behind its copy of the memory -/
theorem lay_two {w w1 w2 : World} {x : Mx} {vr vm cv : Value} {b g : Nat} (hb : Below w.heap.size w w1) (q2 : Blk w1 b zC) (q3 : Blk w1 g zM) (hO : Out w1 w2 x vr vm cv) (hbg : b ≠ g) (lb : w.heap.size ≤ b) (lg : w.heap.size ≤ g) :
    ∀ V2, Below w2.heap.size w2 V2 → ∀ w3 u, MemO w3 V2.heap.size w3.heap.size u x.m → Below V2.heap.size V2 w3 → Blk w3 b zC ∧ Blk w3 g zM ∧ ∀ vr' vm', u = memV vr' vm' x.m.page x.m.screen x.m.locked →
      (∀ i, (sets (sets w3 b 0 (cpuL x.c)) g 0 (meL vr' vm' x.m)).cell? ⟨b, i, none⟩ = (cpA x.c)[i]?) ∧ (∀ i, (sets (sets w3 b 0 (cpuL x.c)) g 0 (meL vr' vm' x.m)).cell? ⟨g, i, none⟩ = (#[vr', vm', .int .i64 x.m.page, .int .i64 x.m.screen, .bool x.m.locked] : Array Value)[i]?) ∧ Ans w (sets (sets w3 b 0 (cpuL x.c)) g 0 (meL vr' vm' x.m)) x u cv := by
  intro V2 hV w3 u hm hb3
  have l2 := q2.lt
  have l3 := q3.lt
  have hz := hO.bel.size
  have hz2 := hV.size
  have hB : Below w1.heap.size w1 w3 := hO.bel.trans ((new_trans hV hb3).mono hz)
  have k2 := q2.below hB l2
  have k3 := q3.below hB l3
  refine ⟨k2, k3, fun vr' vm' e => ?_⟩
  obtain ⟨F1, F2, F3, F4, F5⟩ := fin_blk k2 k3 hbg (new_trans hb hB) lb lg (cpuL x.c) (meL vr' vm' x.m)
  rw [setsC] at F1
  rw [setsM] at F2
  refine ⟨F1, F2, ?_⟩
  have hA : Ans w1 w3 x u cv := ⟨⟨V2.heap.size, w3.heap.size, hm, by omega, Nat.le_refl _, fun y hy => .inl (by have := (hO.own.lt y hy).2; omega)⟩, own3_below hO.own (new_trans hV hb3), hB⟩
  exact hA.laid hb.size (fun y hy => F3 y (by omega) (by omega)) (by rw [F4]; exact Nat.le_refl _) F5
theorem ans_empty {w W' : World} {c : Cp} {M : Mem} {u : Value} {lo hi E : Nat} (hm : MemO W' lo hi u M) (h1 : w.heap.size ≤ lo) (h2 : hi ≤ W'.heap.size) (hE : W'.heap[E]? = some (.cells #[] 42 (0, 0))) (hE1 : w.heap.size ≤ E) (hE2 : E < lo ∨ hi ≤ E) (hB : Below w.heap.size w W') : Ans w W' ⟨c, M, []⟩ u (.slice (some ⟨E, 0, none⟩) 0 0) :=
  ⟨⟨lo, hi, hm, h1, h2, fun g hg => by
    have : E = g := by simpa [Value.ownBlock] using hg
    subst this
    exact hE2⟩, ⟨rfl, .inr ⟨E, 0, #[], rfl, hE1, hE, Nat.le_refl _, Nat.zero_le _, rfl, rfl⟩⟩, hB⟩
/-- a copy of the memory is laid down, with no cycles -/
theorem lay_own {w w1 : World} {c : Cp} {M : Mem} {b g : Nat} (hb : Below w.heap.size w w1) (q2 : Blk w1 b zC) (q3 : Blk w1 g zM) (hbg : b ≠ g) (lb : w.heap.size ≤ b) (lg : w.heap.size ≤ g) :
    ∀ V2, Below w1.heap.size w1 V2 → ∀ w3 u, MemO w3 V2.heap.size w3.heap.size u M → Below V2.heap.size V2 w3 → Blk w3 b zC ∧ Blk w3 g zM ∧ ∀ vr' vm', u = memV vr' vm' M.page M.screen M.locked → ∀ WF, sets (sets w3 b 0 (cpuL c)) g 0 (meL vr' vm' M) = WF →
      (∀ i, WF.cell? ⟨b, i, none⟩ = (cpA c)[i]?) ∧ (∀ i, WF.cell? ⟨g, i, none⟩ = (#[vr', vm', .int .i64 M.page, .int .i64 M.screen, .bool M.locked] : Array Value)[i]?) ∧ (∀ i, (WF.alloc (.cells #[] 42)).cell? ⟨b, i, none⟩ = (cpA c)[i]?) ∧ (∀ i, (WF.alloc (.cells #[] 42)).cell? ⟨g, i, none⟩ = (#[vr', vm', .int .i64 M.page, .int .i64 M.screen, .bool M.locked] : Array Value)[i]?) ∧ WF.heap.size = w3.heap.size ∧
      (V2.heap[w1.heap.size]? = some (.cells #[] 42 (0, 0)) → Ans w WF ⟨c, M, []⟩ u (.slice (some ⟨w1.heap.size, 0, none⟩) 0 0)) ∧ Ans w (WF.alloc (.cells #[] 42)) ⟨c, M, []⟩ u (.slice (some ⟨w3.heap.size, 0, none⟩) 0 0) ∧ Ans w WF ⟨c, M, []⟩ u (.slice none 0 0) := by
  intro V2 hV w3 u hm hb3
  have l2 := q2.lt
  have l3 := q3.lt
  have hz2 := hV.size
  have hz3 := hb3.size
  have hzw := hb.size
  have hB : Below w1.heap.size w1 w3 := new_trans hV hb3
  have k2 := q2.below hB l2
  have k3 := q3.below hB l3
  refine ⟨k2, k3, fun vr' vm' e WF hWF => ?_⟩
  obtain ⟨F1, F2, F3, F4, F5⟩ := fin_blk k2 k3 hbg (new_trans hb hB) lb lg (cpuL c) (meL vr' vm' M)
  rw [setsC] at F1
  rw [setsM] at F2
  rw [hWF] at F1 F2 F3 F4 F5
  have hm2 : MemO WF V2.heap.size w3.heap.size u M := hm.kept (fun y hy _ => F3 y (by omega) (by omega))
  refine ⟨F1, F2, fun i => (World.cell?_of_block (w := WF) (a := ⟨b, i, none⟩) (Below.heap_alloc WF _ b (by omega))).trans (F1 i), fun i => (World.cell?_of_block (w := WF) (a := ⟨g, i, none⟩) (Below.heap_alloc WF _ g (by omega))).trans (F2 i), F4, fun hE => ?_, ?_, ?_⟩
  · have hlt : w1.heap.size < V2.heap.size := (Array.getElem?_eq_some_iff.1 hE).1
    exact ans_empty hm2 (by omega) (by omega) ((F3 _ (by omega) (by omega)).trans ((hb3.block _ hlt).trans hE)) (by omega) (.inl hlt) F5
  · refine ans_empty (hm2.kept (fun y _ h2 => Below.heap_alloc WF _ y (by omega))) (by omega) (by rw [World.size_alloc]; omega) ?_ (by omega) (.inr (Nat.le_refl _)) (F5.alloc F5.size _)
    rw [← F4]
    exact heap_alloc_new WF _
  · exact ⟨⟨_, _, hm2, by omega, by omega, fun y hy => by cases hy⟩, World.ownsRow_nil _ _ _ _, F5⟩
end Go.Proofs.YtgpmpfikeindfaaGreatDoor
