/- A machine as a value, and as it lies in a box while the specification works on it. -/
import Derived.Test.YtifcdojaocndhaaDoorWaam
import Derived.Test.YtifcdojaocndhaaDoorM16
import Derived.Test.YtifcdojaocndhaaDoorM21
import Derived.Deep.MidRow
namespace Go.Proofs.YtifcdojaocndhaaDoor
open Go.ChangeShapes Go.WideShapes Go.ChangeAt Go.RowKit
set_option linter.unusedVariables false
set_option linter.unusedSimpArgs false

def mcA (x : Mc) (vr vm vd ve : Value) : Array Value := #[.int .i64 x.c.r0, .int .i64 x.c.r1, .int .i64 x.c.r2, .int .i64 x.c.r3, .int .i64 x.c.r4, .int .i64 x.c.r5, .int .i64 x.c.r6, .int .i64 x.c.r7, .int .i64 x.c.f, .int .i64 x.c.sp, .int .i64 x.c.pc, .bool x.c.iff, .bool x.c.ei, .bool x.c.halt,
  vr, vm, .int .i64 x.m.page, .int .i64 x.m.screen, .bool x.m.locked,
  .int .i64 x.p.k0, .int .i64 x.p.k1, .int .i64 x.p.k2, .int .i64 x.p.k3, .int .i64 x.p.k4, .int .i64 x.p.k5, .int .i64 x.p.k6, .int .i64 x.p.k7, .int .i64 x.p.joy, .int .i64 x.p.border, .bool x.p.mic, .bool x.p.beep,
  .int .i64 x.g.r0, .int .i64 x.g.r1, .int .i64 x.g.r2, .int .i64 x.g.r3, .int .i64 x.g.r4, .int .i64 x.g.r5, .int .i64 x.g.r6, .int .i64 x.g.r7, .int .i64 x.g.sel, .int .i64 x.g.c0, .int .i64 x.g.c1, .bool x.g.o0, .bool x.g.o1, .int .i64 x.g.noise, .int .i64 x.g.shift, .int .i64 x.g.env, .int .i64 x.g.ec,
  vd, .int .i64 x.d.index, .int .i64 x.d.left, .bool x.d.level, .bool x.d.plays,
  .int .i64 x.t, .int .i64 x.fr, .int .i64 x.pt, .string x.sv, ve]
abbrev mcV (x : Mc) (vr vm vd ve : Value) : Value := .agg (mcA x vr vm vd ve)
abbrev mcC (vr vm : Value) (M : Mem) : List Value := [vr, vm, .int .i64 M.page, .int .i64 M.screen, .bool M.locked]
abbrev dkL (vd : Value) (d : Dk) : List Value := [vd, .int .i64 d.index, .int .i64 d.left, .bool d.level, .bool d.plays]
theorem rng_of {W : World} {b : Nat} {A : Array Value} (h : Blk W b A) (X cs Y : List Value) (e : A.toList = X ++ cs ++ Y) : W.rangeAt b X.length cs := fun j v hv => by
  rw [h.cell, ← Array.getElem?_toList, e, List.append_assoc, List.getElem?_append_right (by omega), Nat.add_sub_cancel_left, List.getElem?_append_left (List.getElem?_eq_some_iff.1 hv).1]
  exact hv
section
variable {W : World} {b : Nat} {x : Mc} {vr vm vd ve : Value}
theorem mc_all (h : Blk W b (mcA x vr vm vd ve)) : W.rangeAt b 0 (mcA x vr vm vd ve).toList := rng_of h [] _ [] (by simp)
theorem mc_cpu (h : Blk W b (mcA x vr vm vd ve)) : W.rangeAt b 0 (cuA x.c).toList := rng_of h [] _ _ rfl
theorem mc_mem (h : Blk W b (mcA x vr vm vd ve)) : W.rangeAt b 14 (mcC vr vm x.m) := rng_of h (cuA x.c).toList _ ((poA x.p).toList ++ (sgA x.g).toList ++ dkL vd x.d ++ [.int .i64 x.t, .int .i64 x.fr, .int .i64 x.pt, .string x.sv, ve]) rfl
theorem mc_po (h : Blk W b (mcA x vr vm vd ve)) : W.rangeAt b 19 (poA x.p).toList := rng_of h ((cuA x.c).toList ++ mcC vr vm x.m) _ ((sgA x.g).toList ++ dkL vd x.d ++ [.int .i64 x.t, .int .i64 x.fr, .int .i64 x.pt, .string x.sv, ve]) rfl
theorem mc_sg (h : Blk W b (mcA x vr vm vd ve)) : W.rangeAt b 31 (sgA x.g).toList := rng_of h ((cuA x.c).toList ++ mcC vr vm x.m ++ (poA x.p).toList) _ (dkL vd x.d ++ [.int .i64 x.t, .int .i64 x.fr, .int .i64 x.pt, .string x.sv, ve]) rfl
theorem mc_dk (h : Blk W b (mcA x vr vm vd ve)) : W.rangeAt b 48 (dkL vd x.d) := rng_of h ((cuA x.c).toList ++ mcC vr vm x.m ++ (poA x.p).toList ++ (sgA x.g).toList) _ [.int .i64 x.t, .int .i64 x.fr, .int .i64 x.pt, .string x.sv, ve] rfl
theorem mc_end (h : Blk W b (mcA x vr vm vd ve)) : W.cell? ⟨b, 53, none⟩ = some (.int .i64 x.t) ∧ W.cell? ⟨b, 54, none⟩ = some (.int .i64 x.fr) ∧ W.cell? ⟨b, 55, none⟩ = some (.int .i64 x.pt) ∧ W.cell? ⟨b, 56, none⟩ = some (.string x.sv) ∧ W.cell? ⟨b, 57, none⟩ = some ve :=
  ⟨h.cell 53, h.cell 54, h.cell 55, h.cell 56, h.cell 57⟩
end
theorem szMc (x : Mc) (vr vm vd ve : Value) : (Tryd.prog.info? 41).map (·.size) = some (mcA x vr vm vd ve).toList.length := by
  show _ = some 58
  kernel_rfl
theorem szMcA (x : Mc) (vr vm vd ve : Value) : (Tryd.prog.info? 41).map (·.size) = some (mcA x vr vm vd ve).size := by
  show _ = some 58
  kernel_rfl
theorem szCu (c : Cu) : (Tryd.prog.info? 26).map (·.size) = some (cuA c).toList.length := by
  show _ = some 14
  kernel_rfl
theorem szMe (vr vm : Value) (M : Mem) : (Tryd.prog.info? 30).map (·.size) = some (mcC vr vm M).length := by
  show _ = some 5
  kernel_rfl
theorem szPo (p : Po) : (Tryd.prog.info? 32).map (·.size) = some (poA p).toList.length := by
  show _ = some 12
  kernel_rfl
theorem szSg (g : Sg) : (Tryd.prog.info? 36).map (·.size) = some (sgA g).toList.length := by
  show _ = some 17
  kernel_rfl
theorem szDk (vd : Value) (d : Dk) : (Tryd.prog.info? 38).map (·.size) = some (dkL vd d).length := by
  show _ = some 5
  kernel_rfl
/-- events, read wherever they lie -/
def EvR (w : World) (v : Value) (l : List Evt) : Prop :=
  ∃ a cap, v = .slice a l.length cap ∧ (l = [] ∨ ∃ g o, a = some ⟨g, o, none⟩ ∧ ∀ i, i < l.length → w.cell? ⟨g, o + i * 3, none⟩ = some (.int .i64 (l.getD i e0).t) ∧ w.cell? ⟨g, o + i * 3 + 1, none⟩ = some (.int .i64 (l.getD i e0).k) ∧ w.cell? ⟨g, o + i * 3 + 2, none⟩ = some (.int .i64 (l.getD i e0).v))
theorem EvR.mono {w w' : World} {v : Value} {l : List Evt} (h : EvR w v l) (hc : CLe w w') : EvR w' v l := by
  obtain ⟨a, cap, rfl, h⟩ := h
  refine ⟨a, cap, rfl, ?_⟩
  rcases h with h | ⟨g, o, rfl, h⟩
  · exact .inl h
  · exact .inr ⟨g, o, rfl, fun i hi => ⟨hc _ _ _ (h i hi).1, hc _ _ _ (h i hi).2.1, hc _ _ _ (h i hi).2.2⟩⟩
theorem EvR.nil (w : World) : EvR w (.slice none 0 0) [] := ⟨none, 0, rfl, .inl rfl⟩
theorem EvR.unveil {w : World} {p : Nat → Bool} {v : Value} {l : List Evt} (h : EvR (w.veil p) v l) : EvR w v l := h.mono (veil_le w p)
theorem veil_more {w : World} {p q : Nat → Bool} (h : ∀ b, q b = true → p b = true) : CLe (w.veil p) (w.veil q) := fun b i u hu => by
  rw [veil_cell] at hu ⊢
  cases hp : p b
  · rw [hp] at hu
    have : q b = false := by
      cases hq : q b
      · rfl
      · rw [h b hq] at hp; cases hp
    rw [this]
    exact hu
  · rw [hp] at hu; cases hu
/-- worlds that agree on all blocks that are not hidden -/
theorem veil_same {W W' : World} {p : Nat → Bool} (h : ∀ g, g < W.heap.size → p g = false → W'.heap[g]? = W.heap[g]?) : CLe (W.veil p) (W'.veil p) := fun b i u hu => by
  rw [veil_cell] at hu ⊢
  cases hp : p b
  · rw [hp] at hu
    have hlt := World.block_lt_of_cell? W _ hu
    rw [if_neg (by decide)]
    rw [if_neg (by decide)] at hu
    rw [World.cell?_of_block (w := W) (a := ⟨b, i, none⟩) (h b hlt hp)]
    exact hu
  · rw [hp] at hu; cases hu
/-- what lies in a world that was, with nothing hidden but what is new -/
theorem veil_new {w W : World} {p q : Nat → Bool} (hb : Below w.heap.size w W) (h : ∀ g, g < w.heap.size → q g = true → p g = true) : CLe (w.veil p) (W.veil q) := fun b i u hu => by
  rw [veil_cell] at hu ⊢
  cases hp : p b
  · rw [hp] at hu
    rw [if_neg (by decide)] at hu
    have hlt := World.block_lt_of_cell? w _ hu
    have : q b = false := by
      cases hq : q b
      · rfl
      · rw [h b hlt hq] at hp; cases hp
    rw [this, if_neg (by decide), hb.cell (p := ⟨b, i, none⟩) hlt]
    exact hu
  · rw [hp] at hu; cases hu
/-- a bank is longer than a machine's box, and of a box no four cells on end are slices: a memory that is right does not lie in one -/
def isSl : Value → Bool
  | .slice _ _ _ => true
  | _ => false
theorem mc_four (x : Mc) (vr vm vd ve : Value) : ∀ o, ∃ i, i < 4 ∧ ∀ u, (mcA x vr vm vd ve)[o + i]? = some u → isSl u = false := by
  intro o
  have key : ∀ k, (k ≤ 13 ∨ (16 ≤ k ∧ k ≤ 47) ∨ (49 ≤ k ∧ k ≤ 56) ∨ 58 ≤ k) → ∀ u, (mcA x vr vm vd ve)[k]? = some u → isSl u = false := by
    intro k hk u hu
    have hlt : k < 58 := (Array.getElem?_eq_some_iff.1 hu).1
    have : k = 0 ∨ k = 1 ∨ k = 2 ∨ k = 3 ∨ k = 4 ∨ k = 5 ∨ k = 6 ∨ k = 7 ∨ k = 8 ∨ k = 9 ∨ k = 10 ∨ k = 11 ∨ k = 12 ∨ k = 13 ∨ k = 16 ∨ k = 17 ∨ k = 18 ∨ k = 19 ∨ k = 20 ∨ k = 21 ∨ k = 22 ∨ k = 23 ∨ k = 24 ∨ k = 25 ∨ k = 26 ∨ k = 27 ∨ k = 28 ∨ k = 29 ∨ k = 30 ∨ k = 31 ∨ k = 32 ∨ k = 33 ∨ k = 34 ∨ k = 35 ∨ k = 36 ∨ k = 37 ∨ k = 38 ∨ k = 39 ∨ k = 40 ∨ k = 41 ∨ k = 42 ∨ k = 43 ∨ k = 44 ∨ k = 45 ∨ k = 46 ∨ k = 47 ∨ k = 49 ∨ k = 50 ∨ k = 51 ∨ k = 52 ∨ k = 53 ∨ k = 54 ∨ k = 55 ∨ k = 56 := by omega
    rcases this with rfl | rfl | rfl | rfl | rfl | rfl | rfl | rfl | rfl | rfl | rfl | rfl | rfl | rfl | rfl | rfl | rfl | rfl | rfl | rfl | rfl | rfl | rfl | rfl | rfl | rfl | rfl | rfl | rfl | rfl | rfl | rfl | rfl | rfl | rfl | rfl | rfl | rfl | rfl | rfl | rfl | rfl | rfl | rfl | rfl | rfl | rfl | rfl | rfl | rfl | rfl | rfl | rfl | rfl <;> (cases hu; rfl)
  by_cases h : o ≤ 13 ∨ (16 ≤ o ∧ o ≤ 47) ∨ (49 ≤ o ∧ o ≤ 56) ∨ 58 ≤ o
  · exact ⟨0, by omega, key o h⟩
  · exact ⟨2, by omega, key (o + 2) (by omega)⟩
theorem MemR.past {W W' : World} {b : Nat} {x : Mc} {vr vm vd ve v : Value} {M : Mem} (h : MemR W v M) (hk : okM M = true) (q : Blk W b (mcA x vr vm vd ve)) (k : ∀ g, g < W.heap.size → g ≠ b → W'.heap[g]? = W.heap[g]?) : MemR W' v M := by
  obtain ⟨k1, k2, k3, k4, k5⟩ := ok_parts hk
  have keep : ∀ g i u, g ≠ b → W.cell? ⟨g, i, none⟩ = some u → W'.cell? ⟨g, i, none⟩ = some u := fun g i u hg hu => by
    rw [World.cell?_of_block (w := W) (a := ⟨g, i, none⟩) (k g (World.block_lt_of_cell? W _ hu) hg)]
    exact hu
  have row : ∀ (u : Value) (zs : List Int), zs.length = 64 → RowR W u zs → RowR W' u zs := fun u zs hl hr => by
    obtain ⟨a, cap, rfl, hr⟩ := hr
    refine ⟨a, cap, rfl, ?_⟩
    rcases hr with hr | ⟨g, o, rfl, hr⟩
    · exact .inl hr
    · refine .inr ⟨g, o, rfl, fun i hi => keep g _ _ (fun e => ?_) (hr i hi)⟩
      subst e
      have h63 := hr 63 (by omega)
      rw [q.cell] at h63
      have : o + 63 < 58 := (Array.getElem?_eq_some_iff.1 h63).1
      omega
  obtain ⟨ur, um, rfl, h1, a, cap, rfl, h2⟩ := h
  refine ⟨ur, _, rfl, row ur M.rom (bytes_len k1) h1, a, cap, rfl, ?_⟩
  rcases h2 with h2 | ⟨g, o, rfl, h2⟩
  · exact .inl h2
  · have hg : g ≠ b := fun e => by
      subst e
      obtain ⟨i, hi, hn⟩ := mc_four x vr vm vd ve o
      obtain ⟨u, hu, a3, c3, rfl, _⟩ := h2 i (by omega)
      rw [q.cell] at hu
      have := hn _ hu
      cases this
    refine .inr ⟨g, o, rfl, fun i hi => ?_⟩
    obtain ⟨u, hu, hr⟩ := h2 i hi
    exact ⟨u, keep g _ _ hg hu, row u _ (bytes_len (k5 i hi)) hr⟩
/-- a machine that can be read in this world, its tape and its events nowhere where it is hidden -/
def MacR (p : Nat → Bool) (w : World) (v : Value) (x : Mc) : Prop :=
  ∃ vr vm vd ve, v = mcV x vr vm vd ve ∧ MemR w (memV vr vm x.m.page x.m.screen x.m.locked) x.m ∧ RowR (w.veil p) vd x.d.pulses ∧ EvR (w.veil p) ve x.ev
theorem MacR.below {p : Nat → Bool} {w w' : World} {v : Value} {x : Mc} (h : MacR p w v x) (hb : Below w.heap.size w w') : MacR p w' v x := by
  obtain ⟨vr, vm, vd, ve, e, h1, h2, h3⟩ := h
  exact ⟨vr, vm, vd, ve, e, h1.below hb, h2.mono (veil_below p hb), h3.mono (veil_below p hb)⟩
theorem MacR.less {p q : Nat → Bool} {w : World} {v : Value} {x : Mc} (h : MacR p w v x) (hq : ∀ b, q b = true → p b = true) : MacR q w v x := by
  obtain ⟨vr, vm, vd, ve, e, h1, h2, h3⟩ := h
  exact ⟨vr, vm, vd, ve, e, h1, h2.mono (veil_more hq), h3.mono (veil_more hq)⟩
/-- what is hidden while a function works on its own copy: besides, the copy's box and the answer's -/
def pb (p : Nat → Bool) (n : Nat) : Nat → Bool := fun y => p y || y == n || y == n + 1
theorem pb_old {p : Nat → Bool} {n y : Nat} (h : pb p n y = true) (hy : y < n) : p y = true := by
  unfold pb at h
  simp only [Bool.or_eq_true, beq_iff_eq] at h
  rcases h with (h | h) | h
  · exact h
  · omega
  · omega
theorem pb_lt {p : Nat → Bool} {n m : Nat} (hp : ∀ y, p y = true → y < n) (hm : n + 1 < m) : ∀ y, pb p n y = true → y < m := fun y h => by
  unfold pb at h
  simp only [Bool.or_eq_true, beq_iff_eq] at h
  rcases h with (h | h) | h
  · have := hp y h; omega
  · omega
  · omega
theorem pb_own (p : Nat → Bool) (n : Nat) : pb p n n = true ∧ pb p n (n + 1) = true := by unfold pb; simp
theorem pb_has {p : Nat → Bool} {n y : Nat} (h : p y = true) : pb p n y = true := by unfold pb; simp [h]
/-- the copy in its box -/
structure MSt (p : Nat → Bool) (w W : World) (x : Mc) (vr vm vd ve : Value) : Prop where
  q : Blk W w.heap.size (mcA x vr vm vd ve)
  m : MemR W (memV vr vm x.m.page x.m.screen x.m.locked) x.m
  d : RowR (W.veil (pb p w.heap.size)) vd x.d.pulses
  e : EvR (W.veil (pb p w.heap.size)) ve x.ev
  sz : w.heap.size + 1 < W.heap.size
  bel : Below w.heap.size w W
theorem MSt.below {p : Nat → Bool} {w W W' : World} {x : Mc} {vr vm vd ve : Value} (h : MSt p w W x vr vm vd ve) (hb : Below W.heap.size W W') : MSt p w W' x vr vm vd ve :=
  ⟨h.q.below hb h.q.lt, h.m.below hb, h.d.mono (veil_below _ hb), h.e.mono (veil_below _ hb), Nat.lt_of_lt_of_le h.sz hb.size, new_trans h.bel hb⟩
theorem MSt.start {p : Nat → Bool} {w : World} {x : Mc} {vr vm vd ve : Value} (hp : ∀ y, p y = true → y < w.heap.size) (hm : MemR w (memV vr vm x.m.page x.m.screen x.m.locked) x.m) (hd : RowR (w.veil p) vd x.d.pulses) (he : EvR (w.veil p) ve x.ev) (A : Array Value) (t t1 : TypeId) :
    MSt p w ((w.alloc (.cells (mcA x vr vm vd ve) t)).alloc (.cells A t1)) x vr vm vd ve ∧ Blk ((w.alloc (.cells (mcA x vr vm vd ve) t)).alloc (.cells A t1)) (w.heap.size + 1) A := by
  have q1 := Blk.new (w.alloc (.cells (mcA x vr vm vd ve) t)) A t1
  rw [World.size_alloc] at q1
  have hB : Below w.heap.size w ((w.alloc (.cells (mcA x vr vm vd ve) t)).alloc (.cells A t1)) := ((Below.refl _ _).alloc (Nat.le_refl _) _).alloc (by simp) _
  have hc : CLe (w.veil p) (((w.alloc (.cells (mcA x vr vm vd ve) t)).alloc (.cells A t1)).veil (pb p w.heap.size)) := veil_new hB (fun g hg h => pb_old h hg)
  exact ⟨⟨(Blk.new w _ t).alloc _, hm.below hB, hd.mono hc, he.mono hc, by simp, hB⟩, q1⟩
/-- the copy as a value -/
theorem MSt.mac {p : Nat → Bool} {w W : World} {x : Mc} {vr vm vd ve : Value} (h : MSt p w W x vr vm vd ve) : MacR (pb p w.heap.size) W (mcV x vr vm vd ve) x := ⟨vr, vm, vd, ve, rfl, h.m, h.d, h.e⟩
/-- only the copy's box turns -/
theorem MSt.turn {p : Nat → Bool} {w W W' : World} {x y : Mc} {vr vm vd ve ur um ud ue : Value} (h : MSt p w W x vr vm vd ve) (hk : okM y.m = true) (hq : Blk W' w.heap.size (mcA y ur um ud ue)) (hs : W'.heap.size = W.heap.size)
    (hb : Below w.heap.size w W') (hx : ∀ g, g ≠ w.heap.size → W'.heap[g]? = W.heap[g]?) (hm : MemR W (memV ur um y.m.page y.m.screen y.m.locked) y.m) (hd : RowR (W.veil (pb p w.heap.size)) ud y.d.pulses) (he : EvR (W.veil (pb p w.heap.size)) ue y.ev) : MSt p w W' y ur um ud ue := by
  have hc : CLe (W.veil (pb p w.heap.size)) (W'.veil (pb p w.heap.size)) := veil_same (fun g _ hg => hx g (fun e => by rw [e, (pb_own p w.heap.size).1] at hg; cases hg))
  exact ⟨hq, hm.past hk h.q (fun g _ hg => hx g hg), hd.mono hc, he.mono hc, by rw [hs]; exact h.sz, hb⟩
theorem lay_heap (b : Nat) (l : List Value) : ∀ (i : Nat) (W : World) {g : Nat}, g ≠ b → (W.setCells b i l).heap[g]? = W.heap[g]? := by
  induction l with
  | nil => exact fun _ _ _ _ => rfl
  | cons u t ih => exact fun i W g hg => (ih _ _ hg).trans (Below.heap_setCell _ _ _ _ hg)
theorem lay_size (b : Nat) (l : List Value) : ∀ (i : Nat) (W : World), (W.setCells b i l).heap.size = W.heap.size := by
  induction l with
  | nil => exact fun _ _ => rfl
  | cons u t ih => exact fun i W => (ih _ _).trans (sizeSet _ _ _)
/-- a part of the copy is set -/
theorem MSt.lay {p : Nat → Bool} {w W : World} {x y : Mc} {vr vm vd ve ur um ud ue : Value} (h : MSt p w W x vr vm vd ve) (o : Nat) (cs : List Value) (e : layB o cs (mcA x vr vm vd ve) = mcA y ur um ud ue) (hk : okM y.m = true)
    (hm : MemR W (memV ur um y.m.page y.m.screen y.m.locked) y.m) (hd : RowR (W.veil (pb p w.heap.size)) ud y.d.pulses) (he : EvR (W.veil (pb p w.heap.size)) ue y.ev) : MSt p w (W.setCells w.heap.size o cs) y ur um ud ue :=
  h.turn hk (by rw [← e]; exact lay_blk _ _ _ _ _ h.q) (lay_size _ _ _ _) (lay_below _ _ _ (Nat.le_refl _) h.bel) (fun g hg => lay_heap _ _ _ _ hg) hm hd he
theorem mc_there {W : World} {b : Nat} {A : Array Value} (h : Blk W b A) {o n : Nat} (hn : o + n ≤ A.size) : W.there b o n := fun j hj => by
  refine ⟨?_, h.frozen _⟩
  rw [h.cell, Array.getElem?_eq_getElem (by omega)]
  rfl
theorem mc_size (x : Mc) (vr vm vd ve : Value) : (mcA x vr vm vd ve).size = 58 := rfl
theorem mem_one {v : Value} {M : Mem} {W : World} (h : MemR W v M) : ∃ vr vm, v = memV vr vm M.page M.screen M.locked ∧ vr.oneCell' = true ∧ vm.oneCell' = true := by
  obtain ⟨a1, p1, a2, p2, e, _, _⟩ := h.form
  exact ⟨_, _, e, rfl, rfl⟩
theorem mc_one {x : Mc} {vr vm vd ve : Value} {p : Nat → Bool} {W : World} (h : MacR p W (mcV x vr vm vd ve) x) : (mcA x vr vm vd ve).all (·.oneCell') = true := by
  obtain ⟨ur, um, ud, ue, e, h1, ⟨a, c, hd, _⟩, a2, c2, he, _⟩ := h
  obtain ⟨a1, p1, a3, p3, e4, _, _⟩ := h1.form
  simp only [mcV, mcA, Value.agg.injEq, Array.mk.injEq, List.cons.injEq, memV, and_true, true_and] at e e4
  obtain ⟨rfl, rfl, rfl, rfl⟩ := e
  obtain ⟨rfl, rfl⟩ := e4
  subst hd he
  simp [mcA, Value.oneCell']
/-- the copy is the answer -/
theorem MSt.fin {p : Nat → Bool} {w W : World} {x z : Mc} {vr vm vd ve ur um ud ue : Value} (h : MSt p w W x vr vm vd ve) (hk : okM x.m = true) (hq : Blk W (w.heap.size + 1) (mcA z ur um ud ue)) :
    (∃ t, (W.setCells (w.heap.size + 1) 0 (mcA x vr vm vd ve).toList).heap[w.heap.size + 1]? = some (.cells (mcA x vr vm vd ve) t (0, 0))) ∧ MacR p (W.setCells (w.heap.size + 1) 0 (mcA x vr vm vd ve).toList) (mcV x vr vm vd ve) x ∧ Below w.heap.size w (W.setCells (w.heap.size + 1) 0 (mcA x vr vm vd ve).toList) := by
  have hb := lay_blk (w.heap.size + 1) (mcA x vr vm vd ve).toList W 0 _ hq
  have e : layB 0 (mcA x vr vm vd ve).toList (mcA z ur um ud ue) = mcA x vr vm vd ve := by
    unfold mcA
    simp only [layB, List.setIfInBounds_toArray, List.set_cons_zero, List.set_cons_succ, Nat.zero_add, Nat.reduceAdd]
  rw [e] at hb
  have hx : ∀ g, g ≠ w.heap.size + 1 → (W.setCells (w.heap.size + 1) 0 (mcA x vr vm vd ve).toList).heap[g]? = W.heap[g]? := fun g hg => lay_heap _ _ _ _ hg
  have hc : CLe (W.veil (pb p w.heap.size)) ((W.setCells (w.heap.size + 1) 0 (mcA x vr vm vd ve).toList).veil (pb p w.heap.size)) := veil_same (fun g _ hg => hx g (fun e => by rw [e, (pb_own p w.heap.size).2] at hg; cases hg))
  refine ⟨hb, MacR.less (p := pb p w.heap.size) ⟨vr, vm, vd, ve, rfl, h.m.past hk hq (fun g _ hg => hx g hg), h.d.mono hc, h.e.mono hc⟩ (fun b hb => pb_has hb), lay_below _ _ _ (Nat.le_succ _) h.bel⟩
end Go.Proofs.YtifcdojaocndhaaDoor
