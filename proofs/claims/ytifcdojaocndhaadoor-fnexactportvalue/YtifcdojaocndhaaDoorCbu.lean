/- The specification's machine, as it lies in a world while an instruction is done. -/
import Derived.Test.YtifcdojaocndhaaDoorU19
import Derived.Test.YtifcdojaocndhaaDoorU00
import Derived.Deep.AppendLies
import Derived.OwnWalk
namespace Go.Proofs.YtifcdojaocndhaaDoor
open Go.ChangeShapes Go.WideShapes Go.ChangeAt Go.RowKit
set_option linter.unusedVariables false
set_option linter.unusedSimpArgs false

abbrev macA (c : Cp) (vr vm : Value) (p s : Int) (l : Bool) (cv : Value) (n : Nat) : Array Value :=
  #[.int .i64 (c.b : Int), .int .i64 (c.c : Int), .int .i64 (c.d : Int), .int .i64 (c.e : Int), .int .i64 (c.h : Int), .int .i64 (c.l : Int), .int .i64 0, .int .i64 (c.a : Int), .int .i64 (c.f : Int), .int .i64 (c.sp : Int), .int .i64 (c.pc : Int), .bool c.iff, .bool c.ei, .bool c.halt,
    vr, vm, .int .i64 p, .int .i64 s, .bool l, cv, .int .i64 (n : Int)]
def cyV (l : List (Nat × Nat × Nat)) : List Value := l.flatMap fun x => [.int .i64 (x.1 : Int), .int .i64 (x.2.1 : Int), .int .i64 (x.2.2 : Int)]
theorem cyV_snoc (l : List (Nat × Nat × Nat)) (k a v : Nat) : cyV (l ++ [(k, a, v)]) = cyV l ++ [.int .i64 (k : Int), .int .i64 (a : Int), .int .i64 (v : Int)] := by simp [cyV]
theorem cyV_len (l : List (Nat × Nat × Nat)) : (cyV l).length = l.length * 3 := by
  induction l with
  | nil => rfl
  | cons x t ih => simp [cyV, List.flatMap_cons] at ih ⊢; omega
/-- the blocks that the machine writes into -/
def vl (k : List (Nat × Array Value)) (X : Nat) (cv : Value) : Nat → Bool := fun b => b == X || cv.ownBlock == some b || k.any (fun p => p.1 == b)
theorem vl_X (k : List (Nat × Array Value)) (X : Nat) (cv : Value) : vl k X cv X = true := by simp [vl]
theorem vl_own {k : List (Nat × Array Value)} {X g : Nat} {cv : Value} (h : cv.ownBlock = some g) : vl k X cv g = true := by simp [vl, h]
theorem vl_in {k : List (Nat × Array Value)} {X b : Nat} {cv : Value} {A : Array Value} (h : (b, A) ∈ k) : vl k X cv b = true := by
  have : k.any (fun p => p.1 == b) = true := List.any_eq_true.2 ⟨_, h, by simp⟩
  simp [vl, this]
theorem vl_no {k : List (Nat × Array Value)} {X b : Nat} {cv : Value} (h1 : b ≠ X) (h2 : cv.ownBlock ≠ some b) (h3 : ∀ A, (b, A) ∉ k) : vl k X cv b = false := by
  have : k.any (fun p => p.1 == b) = false := by
    rw [List.any_eq_false]
    intro p hp e
    have e2 : p.1 = b := by simpa using e
    exact h3 p.2 (by rw [← e2]; exact hp)
  simp [vl, h1, h2, this]
theorem vl_cases {k : List (Nat × Array Value)} {X b : Nat} {cv : Value} (h : vl k X cv b = true) : b = X ∨ cv.ownBlock = some b ∨ ∃ A, (b, A) ∈ k := by
  unfold vl at h
  simp only [Bool.or_eq_true, beq_iff_eq] at h
  rcases h with (h | h) | h
  · exact .inl h
  · exact .inr (.inl h)
  · obtain ⟨p, hp, e⟩ := List.any_eq_true.1 h
    have e2 : p.1 = b := by simpa using e
    exact .inr (.inr ⟨p.2, by rw [← e2]; exact hp⟩)
/-- the world at first, and blocks that must stay as they are -/
structure Bs extends World where
  k : List (Nat × Array Value)
structure NSt (w : Bs) (W : World) (X : Nat) (x : Mx) (n : Nat) (vr vm cv : Value) : Prop where
  blk : Blk W X (macA x.c vr vm x.m.page x.m.screen x.m.locked cv n)
  own : W.ownsRow w.heap.size 108 3 cv x.cy.length (cyV x.cy)
  mem : MemR (W.veil (vl w.k X cv)) (memV vr vm x.m.page x.m.screen x.m.locked) x.m
  ne : cv.ownBlock ≠ some X
  bel : Below w.heap.size w.toWorld W
  far : w.heap.size ≤ X
  keep : ∀ b A, (b, A) ∈ w.k → Blk W b A ∧ b ≠ X ∧ cv.ownBlock ≠ some b
theorem own3_below {W W' : World} {lo n : Nat} {e : TypeId} {v : Value} {xs : List Value} {z : Nat} (h : W.ownsRow lo e z v n xs) (hb : Below W.heap.size W W') : W'.ownsRow lo e z v n xs :=
  h.kept (row := none) ⟨hb.os, hb.tape, hb.output, hb.size, fun k hk _ => hb.block k hk⟩ (by cases v.ownBlock <;> simp)
theorem NSt.below {w : Bs} {W W' : World} {X : Nat} {x : Mx} {n : Nat} {vr vm cv : Value} (h : NSt w W X x n vr vm cv) (hb : Below W.heap.size W W') : NSt w W' X x n vr vm cv :=
  ⟨h.blk.below hb h.blk.lt, own3_below h.own hb, h.mem.veil_below hb, h.ne, h.bel.trans (hb.mono h.bel.size), h.far, fun b A hm => ⟨(h.keep b A hm).1.below hb (h.keep b A hm).1.lt, (h.keep b A hm).2⟩⟩
theorem set_grown (W : World) (b i : Nat) (u : Value) : W.grownBy (W.setCell ⟨b, i, none⟩ u) (some b) :=
  ⟨rfl, rfl, rfl, by simp [World.setCell], fun k hk hne => Below.heap_setCell _ _ _ _ (fun e => hne (by rw [e]))⟩
/-- what is hidden may turn -/
theorem cle_grown {W W' : World} {p q : Nat → Bool} {row : Option Nat} (hg : W.grownBy W' row) (hr : ∀ b, row = some b → p b = true) (hq : ∀ b, b < W.heap.size → q b = true → p b = true) : CLe (W.veil p) (W'.veil q) := fun b i u h => by
  rw [veil_cell] at h ⊢
  cases hp : p b
  · rw [hp] at h
    have hlt : b < W.heap.size := World.block_lt_of_cell? W _ h
    have hq' : q b = false := by
      cases hh : q b
      · rfl
      · rw [hq b hlt hh] at hp; cases hp
    rw [hq']
    have e : W'.heap[b]? = W.heap[b]? := hg.block b hlt (fun e => by rw [hr b e.symm] at hp; cases hp)
    show W'.cell? ⟨b, i, none⟩ = some u
    rw [World.cell?_of_block (w := W) (a := ⟨b, i, none⟩) e]
    exact h
  · rw [hp] at h; cases h
/-- a cell of the machine is set: a number of the processor -/
theorem NSt.put {w : Bs} {W : World} {X : Nat} {x : Mx} {n : Nat} {vr vm cv : Value} (h : NSt w W X x n vr vm cv) (i : Nat) (u : Value) (c' : Cp) (hc : (macA x.c vr vm x.m.page x.m.screen x.m.locked cv n).setIfInBounds i u = macA c' vr vm x.m.page x.m.screen x.m.locked cv n) : NSt w (W.setCell ⟨X, i, none⟩ u) X { x with c := c' } n vr vm cv := by
  have hg := set_grown W X i u
  refine ⟨?_, h.own.kept hg (.inr h.ne), h.mem.mono (cle_grown hg (fun b e => by cases e; exact vl_X _ _ _) (fun b _ hq => hq)), h.ne, h.bel.setCell (p := ⟨X, i, none⟩) h.far u, h.far, fun b A hm => ⟨(h.keep b A hm).1.other (h.keep b A hm).2.1 _, (h.keep b A hm).2⟩⟩
  have := h.blk.set i u
  rw [hc] at this
  exact this
/-- a cycle is noted: the slice has grown, and is stored -/
theorem NSt.noted {w : Bs} {W w2 : World} {X : Nat} {x : Mx} {n : Nat} {vr vm cv : Value} {g c k a v : Nat} {o : Obj} (h : NSt w W X x n vr vm cv)
    (ho : w2.ownsRow w.heap.size 108 3 (.slice (some ⟨g, 0, none⟩) (x.cy.length + 1) c) (x.cy.length + 1) (cyV x.cy ++ [.int .i64 (k : Int), .int .i64 (a : Int), .int .i64 (v : Int)])) (hg : (W.alloc o).grownBy w2 cv.ownBlock) (hat : cv.ownBlock = some g ∨ g = (W.alloc o).heap.size) :
    NSt w (w2.setCell ⟨X, 19, none⟩ (.slice (some ⟨g, 0, none⟩) (x.cy.length + 1) c)) X (x.note k a v) n vr vm (.slice (some ⟨g, 0, none⟩) (x.cy.length + 1) c) := by
  have hXl := h.blk.lt
  have hgX : g ≠ X := by
    rcases hat with e | e
    · intro e2; rw [e2] at e; exact h.ne e
    · rw [World.size_alloc] at e; omega
  have hbase := h.bel.size
  have hlo : ∀ b, cv.ownBlock = some b → w.heap.size ≤ b ∧ b < W.heap.size := fun b hb => h.own.lt b hb
  have hge : w.heap.size ≤ g := by
    rcases hat with e | e
    · exact (hlo g e).1
    · rw [World.size_alloc] at e; omega
  have hs2 := set_grown w2 X 19 (.slice (some ⟨g, 0, none⟩) (x.cy.length + 1) c)
  have hb1 : Below W.heap.size W (W.alloc o) := (Below.refl _ _).alloc (Nat.le_refl _) o
  have q2 : Blk w2 X (macA x.c vr vm x.m.page x.m.screen x.m.locked cv n) := (h.blk.alloc o).grown hg (fun e => h.ne e.symm)
  refine ⟨q2.set 19 _, ?_, ?_, by simpa [Value.ownBlock] using hgX, ((h.bel.alloc hbase o).grown hg (by simp; omega) (fun b hb => (hlo b hb).1)).setCell (p := ⟨X, 19, none⟩) h.far _, h.far, ?_⟩
  rotate_left
  rotate_left
  · intro b A hm
    obtain ⟨k1, k2, k3⟩ := h.keep b A hm
    have kl := k1.lt
    refine ⟨((k1.alloc o).grown hg (fun e => k3 e.symm)).other k2 _, k2, ?_⟩
    show (some g : Option Nat) ≠ some b
    intro e
    rcases hat with e2 | e2
    · exact k3 (by rw [e2]; exact e)
    · rw [World.size_alloc] at e2
      have : g = b := by simpa using e
      omega
  · have : (x.note k a v).cy = x.cy ++ [(k, a, v)] := rfl
    rw [this, cyV_snoc, List.length_append]
    exact ho.kept hs2 (.inr (by simpa [Value.ownBlock] using hgX))
  · have m1 : MemR ((W.alloc o).veil (vl w.k X cv)) (memV vr vm x.m.page x.m.screen x.m.locked) x.m := h.mem.veil_below hb1
    refine (m1.mono (cle_grown (q := vl w.k X (.slice (some ⟨g, 0, none⟩) (x.cy.length + 1) c)) hg (fun b e => vl_own e) (fun b hb hq => ?_))).mono (cle_grown hs2 (fun b e => by cases e; exact vl_X _ _ _) (fun b _ hq => hq))
    rcases vl_cases hq with rfl | hq | ⟨A, hA⟩
    · exact vl_X _ _ _
    · have hq : g = b := by simpa [Value.ownBlock] using hq
      subst hq
      rcases hat with e | e
      · exact vl_own e
      · omega
    · exact vl_in hA
/-- the memory is another one: its five cells are set -/
theorem NSt.poked {w : Bs} {W : World} {X : Nat} {x : Mx} {n : Nat} {vr vm cv vr' vm' : Value} {M' : Mem} (h : NSt w W X x n vr vm cv) (hm : MemR (W.veil (vl w.k X cv)) (memV vr' vm' M'.page M'.screen M'.locked) M') :
    NSt w (((((W.setCell ⟨X, 14, none⟩ vr').setCell ⟨X, 15, none⟩ vm').setCell ⟨X, 16, none⟩ (.int .i64 M'.page)).setCell ⟨X, 17, none⟩ (.int .i64 M'.screen)).setCell ⟨X, 18, none⟩ (.bool M'.locked)) X { x with m := M' } n vr' vm' cv := by
  have hX : ∀ (V : World) (i : Nat) (u : Value), CLe (V.veil (vl w.k X cv)) ((V.setCell ⟨X, i, none⟩ u).veil (vl w.k X cv)) := fun V i u => cle_grown (set_grown V X i u) (fun b e => by cases e; exact vl_X _ _ _) (fun b _ hq => hq)
  have hO : ∀ (V : World) (i : Nat) (u : Value), V.ownsRow w.heap.size 108 3 cv x.cy.length (cyV x.cy) → (V.setCell ⟨X, i, none⟩ u).ownsRow w.heap.size 108 3 cv x.cy.length (cyV x.cy) := fun V i u ho => ho.kept (set_grown V X i u) (.inr h.ne)
  refine ⟨((((h.blk.set 14 vr').set 15 vm').set 16 _).set 17 _).set 18 _, hO _ _ _ (hO _ _ _ (hO _ _ _ (hO _ _ _ (hO _ _ _ h.own)))), ((((hm.mono (hX _ _ _)).mono (hX _ _ _)).mono (hX _ _ _)).mono (hX _ _ _)).mono (hX _ _ _), h.ne, ?_, h.far, fun b A hm => ⟨(((((h.keep b A hm).1.other (h.keep b A hm).2.1 _).other (h.keep b A hm).2.1 _).other (h.keep b A hm).2.1 _).other (h.keep b A hm).2.1 _).other (h.keep b A hm).2.1 _, (h.keep b A hm).2⟩⟩
  exact ((((h.bel.setCell (p := ⟨X, 14, none⟩) h.far _).setCell (p := ⟨X, 15, none⟩) h.far _).setCell (p := ⟨X, 16, none⟩) h.far _).setCell (p := ⟨X, 17, none⟩) h.far _).setCell (p := ⟨X, 18, none⟩) h.far _
/-- one more block stays as it is -/
theorem NSt.more {w : Bs} {W : World} {X : Nat} {x : Mx} {n : Nat} {vr vm cv : Value} (h : NSt w W X x n vr vm cv) {b : Nat} {A : Array Value} (hb : Blk W b A) (hx : b ≠ X) (hc : cv.ownBlock ≠ some b) (hm : MemR (W.veil (vl ((b, A) :: w.k) X cv)) (memV vr vm x.m.page x.m.screen x.m.locked) x.m) : NSt { w with k := (b, A) :: w.k } W X x n vr vm cv :=
  ⟨h.blk, h.own, hm, h.ne, h.bel, h.far, fun b' A' hm => by
    rcases List.mem_cons.1 hm with e | e
    · cases e; exact ⟨hb, hx, hc⟩
    · exact h.keep _ _ e⟩
/-- a thing is made, and stays as it is from then on -/
theorem NSt.made {w : Bs} {W W' : World} {X : Nat} {x : Mx} {n : Nat} {vr vm cv : Value} (h : NSt w W X x n vr vm cv) {A : Array Value} (hb : Below W.heap.size W W') (hq : Blk W' W.heap.size A) : NSt { w with k := (W.heap.size, A) :: w.k } W' X x n vr vm cv := by
  refine (h.below hb).more hq (by have := h.blk.lt; omega) (fun e => by have := (h.own.lt _ e).2; omega) (h.mem.mono (fun b i u hu => ?_))
  rw [veil_cell] at hu ⊢
  cases hp : vl w.k X cv b
  · rw [hp] at hu
    have hlt : b < W.heap.size := World.block_lt_of_cell? W _ hu
    have hn : vl ((W.heap.size, A) :: w.k) X cv b = false := by
      cases hh : vl ((W.heap.size, A) :: w.k) X cv b
      · rfl
      · rcases vl_cases hh with rfl | e | ⟨B, hB⟩
        · rw [vl_X] at hp; cases hp
        · rw [vl_own e] at hp; cases hp
        · rcases List.mem_cons.1 hB with e | e
          · cases e; omega
          · rw [vl_in e] at hp; cases hp
    rw [hn]
    show W'.cell? ⟨b, i, none⟩ = some u
    rw [World.cell?_of_block (w := W) (a := ⟨b, i, none⟩) (hb.block b hlt)]
    exact hu
  · rw [hp] at hu; cases hu
/-- a thing is boxed: it stays as it is -/
theorem NSt.boxed {w : Bs} {W : World} {X : Nat} {x : Mx} {n : Nat} {vr vm cv : Value} (h : NSt w W X x n vr vm cv) (A : Array Value) (t : TypeId) : NSt { w with k := (W.heap.size, A) :: w.k } (W.alloc (.cells A t)) X x n vr vm cv :=
  h.made ((Below.refl _ _).alloc (Nat.le_refl _) _) (Blk.new W A t)
theorem NSt.less {w : Bs} {W : World} {X : Nat} {x : Mx} {n : Nat} {vr vm cv : Value} {p : Nat × Array Value} (h : NSt { w with k := p :: w.k } W X x n vr vm cv) : NSt w W X x n vr vm cv := by
  refine ⟨h.blk, h.own, h.mem.mono (fun b i u hu => ?_), h.ne, h.bel, h.far, fun b' A' hm => h.keep _ _ (List.mem_cons_of_mem _ hm)⟩
  rw [veil_cell] at hu ⊢
  cases hp : vl (p :: w.k) X cv b
  · rw [hp] at hu
    have hn : vl w.k X cv b = false := by
      cases hh : vl w.k X cv b
      · rfl
      · rcases vl_cases hh with rfl | e | ⟨B, hB⟩
        · rw [vl_X] at hp; cases hp
        · rw [vl_own e] at hp; cases hp
        · rw [vl_in (List.mem_cons_of_mem _ hB)] at hp; cases hp
    rw [hn]
    exact hu
  · rw [hp] at hu; cases hu
theorem NSt.kept {w : Bs} {W : World} {X : Nat} {x : Mx} {n : Nat} {vr vm cv : Value} {b : Nat} {A : Array Value} (h : NSt { w with k := (b, A) :: w.k } W X x n vr vm cv) : Blk W b A := (h.keep b A (List.mem_cons_self ..)).1
theorem NSt.drew {w : Bs} {W : World} {X : Nat} {x : Mx} {n : Nat} {vr vm cv : Value} (h : NSt w W X x n vr vm cv) : NSt w W.drew X x n vr vm cv := h.below ⟨rfl, rfl, rfl, Nat.le_refl _, fun _ _ => rfl⟩
end Go.Proofs.YtifcdojaocndhaaDoor
