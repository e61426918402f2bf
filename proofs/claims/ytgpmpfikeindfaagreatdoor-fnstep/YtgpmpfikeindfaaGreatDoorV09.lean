/- The specification's machine, as it lies in a world while an instruction is done. -/
import Derived.Test.YtgpmpfikeindfaaGreatDoorV08
import Derived.Test.YtgpmpfikeindfaaGreatDoorV00
import Derived.Deep.AppendLies
import Derived.OwnWalk
namespace Go.Proofs.YtgpmpfikeindfaaGreatDoor
open Go.ChangeShapes Go.WideShapes Go.ChangeAt Go.RowKit
set_option linter.unusedVariables false
set_option linter.unusedSimpArgs false

abbrev macA (c : Cp) (vr vm : Value) (p s : Int) (l : Bool) (cv : Value) (n : Nat) : Array Value :=
  #[.int .i64 (c.b : Int), .int .i64 (c.c : Int), .int .i64 (c.d : Int), .int .i64 (c.e : Int), .int .i64 (c.h : Int), .int .i64 (c.l : Int), .int .i64 0, .int .i64 (c.a : Int), .int .i64 (c.f : Int), .int .i64 (c.sp : Int), .int .i64 (c.pc : Int), .bool c.iff, .bool c.ei, .bool c.halt,
    vr, vm, .int .i64 p, .int .i64 s, .bool l, cv, .int .i64 (n : Int)]
def cyV (l : List (Nat × Nat × Nat)) : List Value := l.flatMap fun x => [.int .i64 (x.1 : Int), .int .i64 (x.2.1 : Int), .int .i64 (x.2.2 : Int)]
theorem cyV_snoc (l : List (Nat × Nat × Nat)) (k a v : Nat) : cyV (l ++ [(k, a, v)]) = cyV l ++ [.int .i64 (k : Int), .int .i64 (a : Int), .int .i64 (v : Int)] := by simp [cyV]
theorem cyV_len (l : List (Nat × Nat × Nat)) : (cyV l).length = l.length * 3 := by
  induction l with
  | nil => rfl
  | cons x t ih => simp [cyV, List.flatMap_cons] at ih ⊢; omega
/-- the blocks that the machine writes into -/
def vl (k : List (Nat × Array Value)) (X : Nat) (cv : Value) : Nat → Bool := fun b => b == X || cv.ownBlock == some b || k.any (fun p => p.1 == b)
theorem vl_X (k : List (Nat × Array Value)) (X : Nat) (cv : Value) : vl k X cv X = true := by simp [vl]
theorem vl_own {k : List (Nat × Array Value)} {X g : Nat} {cv : Value} (h : cv.ownBlock = some g) : vl k X cv g = true := by simp [vl, h]
theorem vl_in {k : List (Nat × Array Value)} {X b : Nat} {cv : Value} {A : Array Value} (h : (b, A) ∈ k) : vl k X cv b = true := by
  have : k.any (fun p => p.1 == b) = true := List.any_eq_true.2 ⟨_, h, by simp⟩
  simp [vl, this]
theorem vl_no {k : List (Nat × Array Value)} {X b : Nat} {cv : Value} (h1 : b ≠ X) (h2 : cv.ownBlock ≠ some b) (h3 : ∀ A, (b, A) ∉ k) : vl k X cv b = false := by
  have : k.any (fun p => p.1 == b) = false := by
    rw [List.any_eq_false]
    intro p hp e
    have e2 : p.1 = b := by simpa using e
    exact h3 p.2 (by rw [← e2]; exact hp)
  simp [vl, h1, h2, this]
theorem vl_cases {k : List (Nat × Array Value)} {X b : Nat} {cv : Value} (h : vl k X cv b = true) : b = X ∨ cv.ownBlock = some b ∨ ∃ A, (b, A) ∈ k := by
  unfold vl at h
  simp only [Bool.or_eq_true, beq_iff_eq] at h
  rcases h with (h | h) | h
  · exact .inl h
  · exact .inr (.inl h)
  · obtain ⟨p, hp, e⟩ := List.any_eq_true.1 h
    have e2 : p.1 = b := by simpa using e
    exact .inr (.inr ⟨p.2, by rw [← e2]; exact hp⟩)
/-- the world at first, and blocks that must stay as they are -/
structure Bs extends World where
  k : List (Nat × Array Value)
structure NSt (w : Bs) (W : World) (X : Nat) (x : Mx) (n : Nat) (vr vm cv : Value) : Prop where
  blk : Blk W X (macA x.c vr vm x.m.page x.m.screen x.m.locked cv n)
  own : W.ownsRow w.heap.size 42 3 cv x.cy.length (cyV x.cy)
  mem : MemR (W.veil (vl w.k X cv)) (memV vr vm x.m.page x.m.screen x.m.locked) x.m
  ne : cv.ownBlock ≠ some X
  bel : Below w.heap.size w.toWorld W
  far : w.heap.size ≤ X
  keep : ∀ b A, (b, A) ∈ w.k → Blk W b A ∧ b ≠ X ∧ cv.ownBlock ≠ some b
theorem own3_below {W W' : World} {lo n : Nat} {e : TypeId} {v : Value} {xs : List Value} {z : Nat} (h : W.ownsRow lo e z v n xs) (hb : Below W.heap.size W W') : W'.ownsRow lo e z v n xs :=
  h.kept (row := none) ⟨hb.os, hb.tape, hb.output, hb.size, fun k hk _ => hb.block k hk⟩ (by cases v.ownBlock <;> simp)
theorem NSt.below {w : Bs} {W W' : World} {X : Nat} {x : Mx} {n : Nat} {vr vm cv : Value} (h : NSt w W X x n vr vm cv) (hb : Below W.heap.size W W') : NSt w W' X x n vr vm cv :=
  ⟨h.blk.below hb h.blk.lt, own3_below h.own hb, h.mem.veil_below hb, h.ne, h.bel.trans (hb.mono h.bel.size), h.far, fun b A hm => ⟨(h.keep b A hm).1.below hb (h.keep b A hm).1.lt, (h.keep b A hm).2⟩⟩
theorem set_grown (W : World) (b i : Nat) (u : Value) : W.grownBy (W.setCell ⟨b, i, none⟩ u) (some b) :=
  ⟨rfl, rfl, rfl, by simp [World.setCell], fun k hk hne => Below.heap_setCell _ _ _ _ (fun e => hne (by rw [e]))⟩
/-- what is hidden may turn -/
theorem cle_grown {W W' : World} {p q : Nat → Bool} {row : Option Nat} (hg : W.grownBy W' row) (hr : ∀ b, row = some b → p b = true) (hq : ∀ b, b < W.heap.size → q b = true → p b = true) : CLe (W.veil p) (W'.veil q) := fun b i u h => by
  rw [veil_cell] at h ⊢
  cases hp : p b
  · rw [hp] at h
    have hlt : b < W.heap.size := World.block_lt_of_cell? W _ h
    have hq' : q b = false := by
      cases hh : q b
      · rfl
      · rw [hq b hlt hh] at hp; cases hp
    rw [hq']
    have e : W'.heap[b]? = W.heap[b]? := hg.block b hlt (fun e => by rw [hr b e.symm] at hp; cases hp)
    show W'.cell? ⟨b, i, none⟩ = some u
    rw [World.cell?_of_block (w := W) (a := ⟨b, i, none⟩) e]
    exact h
  · rw [hp] at h; cases h
/-- a cell of the machine is set: a number of the processor -/
theorem NSt.put {w : Bs} {W : World} {X : Nat} {x : Mx} {n : Nat} {vr vm cv : Value} (h : NSt w W X x n vr vm cv) (i : Nat) (u : Value) (c' : Cp) (hc : (macA x.c vr vm x.m.page x.m.screen x.m.locked cv n).setIfInBounds i u = macA c' vr vm x.m.page x.m.screen x.m.locked cv n) : NSt w (W.setCell ⟨X, i, none⟩ u) X { x with c := c' } n vr vm cv := by
  have hg := set_grown W X i u
  refine ⟨?_, h.own.kept hg (.inr h.ne), h.mem.mono (cle_grown hg (fun b e => by cases e; exact vl_X _ _ _) (fun b _ hq => hq)), h.ne, h.bel.setCell (p := ⟨X, i, none⟩) h.far u, h.far, fun b A hm => ⟨(h.keep b A hm).1.other (h.keep b A hm).2.1 _, (h.keep b A hm).2⟩⟩
  have := h.blk.set i u
  rw [hc] at this
  exact this
/-- a cycle is noted: the slice has grown, and is stored -/
theorem NSt.noted {w : Bs} {W w2 : World} {X : Nat} {x : Mx} {n : Nat} {vr vm cv : Value} {g c k a v : Nat} {o : Obj} (h : NSt w W X x n vr vm cv)
    (ho : w2.ownsRow w.heap.size 42 3 (.slice (some ⟨g, 0, none⟩) (x.cy.length + 1) c) (x.cy.length + 1) (cyV x.cy ++ [.int .i64 (k : Int), .int .i64 (a : Int), .int .i64 (v : Int)])) (hg : (W.alloc o).grownBy w2 cv.ownBlock) (hat : cv.ownBlock = some g ∨ g = (W.alloc o).heap.size) :
    NSt w (w2.setCell ⟨X, 19, none⟩ (.slice (some ⟨g, 0, none⟩) (x.cy.length + 1) c)) X (x.note k a v) n vr vm (.slice (some ⟨g, 0, none⟩) (x.cy.length + 1) c) := by
  have hXl := h.blk.lt
  have hgX : g ≠ X := by
    rcases hat with e | e
    · intro e2; rw [e2] at e; exact h.ne e
    · rw [World.size_alloc] at e; omega
  have hbase := h.bel.size
  have hlo : ∀ b, cv.ownBlock = some b → w.heap.size ≤ b ∧ b < W.heap.size := fun b hb => h.own.lt b hb
  have hge : w.heap.size ≤ g := by
    rcases hat with e | e
    · exact (hlo g e).1
    · rw [World.size_alloc] at e; omega
  have hs2 := set_grown w2 X 19 (.slice (some ⟨g, 0, none⟩) (x.cy.length + 1) c)
  have hb1 : Below W.heap.size W (W.alloc o) := (Below.refl _ _).alloc (Nat.le_refl _) o
  have q2 : Blk w2 X (macA x.c vr vm x.m.page x.m.screen x.m.locked cv n) := (h.blk.alloc o).grown hg (fun e => h.ne e.symm)
  refine ⟨q2.set 19 _, ?_, ?_, by simpa [Value.ownBlock] using hgX, ((h.bel.alloc hbase o).grown hg (by simp; omega) (fun b hb => (hlo b hb).1)).setCell (p := ⟨X, 19, none⟩) h.far _, h.far, ?_⟩
  rotate_left
  rotate_left
  · intro b A hm
    obtain ⟨k1, k2, k3⟩ := h.keep b A hm
    have kl := k1.lt
    refine ⟨((k1.alloc o).grown hg (fun e => k3 e.symm)).other k2 _, k2, ?_⟩
    show (some g : Option Nat) ≠ some b
    intro e
    rcases hat with e2 | e2
    · exact k3 (by rw [e2]; exact e)
    · rw [World.size_alloc] at e2
      have : g = b := by simpa using e
      omega
  · have : (x.note k a v).cy = x.cy ++ [(k, a, v)] := rfl
    rw [this, cyV_snoc, List.length_append]
    exact ho.kept hs2 (.inr (by simpa [Value.ownBlock] using hgX))
  · have m1 : MemR ((W.alloc o).veil (vl w.k X cv)) (memV vr vm x.m.page x.m.screen x.m.locked) x.m := h.mem.veil_below hb1
    refine (m1.mono (cle_grown (q := vl w.k X (.slice (some ⟨g, 0, none⟩) (x.cy.length + 1) c)) hg (fun b e => vl_own e) (fun b hb hq => ?_))).mono (cle_grown hs2 (fun b e => by cases e; exact vl_X _ _ _) (fun b _ hq => hq))
    rcases vl_cases hq with rfl | hq | ⟨A, hA⟩
    · exact vl_X _ _ _
    · have hq : g = b := by simpa [Value.ownBlock] using hq
      subst hq
      rcases hat with e | e
      · exact vl_own e
      · omega
    · exact vl_in hA
/-- the memory is another one: its five cells are set -/
theorem NSt.poked {w : Bs} {W : World} {X : Nat} {x : Mx} {n : Nat} {vr vm cv vr' vm' : Value} {M' : Mem} (h : NSt w W X x n vr vm cv) (hm : MemR (W.veil (vl w.k X cv)) (memV vr' vm' M'.page M'.screen M'.locked) M') :
    NSt w (((((W.setCell ⟨X, 14, none⟩ vr').setCell ⟨X, 15, none⟩ vm').setCell ⟨X, 16, none⟩ (.int .i64 M'.page)).setCell ⟨X, 17, none⟩ (.int .i64 M'.screen)).setCell ⟨X, 18, none⟩ (.bool M'.locked)) X { x with m := M' } n vr' vm' cv := by
  have hX : ∀ (V : World) (i : Nat) (u : Value), CLe (V.veil (vl w.k X cv)) ((V.setCell ⟨X, i, none⟩ u).veil (vl w.k X cv)) := fun V i u => cle_grown (set_grown V X i u) (fun b e => by cases e; exact vl_X _ _ _) (fun b _ hq => hq)
  have hO : ∀ (V : World) (i : Nat) (u : Value), V.ownsRow w.heap.size 42 3 cv x.cy.length (cyV x.cy) → (V.setCell ⟨X, i, none⟩ u).ownsRow w.heap.size 42 3 cv x.cy.length (cyV x.cy) := fun V i u ho => ho.kept (set_grown V X i u) (.inr h.ne)
  refine ⟨((((h.blk.set 14 vr').set 15 vm').set 16 _).set 17 _).set 18 _, hO _ _ _ (hO _ _ _ (hO _ _ _ (hO _ _ _ (hO _ _ _ h.own)))), ((((hm.mono (hX _ _ _)).mono (hX _ _ _)).mono (hX _ _ _)).mono (hX _ _ _)).mono (hX _ _ _), h.ne, ?_, h.far, fun b A hm => ⟨(((((h.keep b A hm).1.other (h.keep b A hm).2.1 _).other (h.keep b A hm).2.1 _).other (h.keep b A hm).2.1 _).other (h.keep b A hm).2.1 _).other (h.keep b A hm).2.1 _, (h.keep b A hm).2⟩⟩
  exact ((((h.bel.setCell (p := ⟨X, 14, none⟩) h.far _).setCell (p := ⟨X, 15, none⟩) h.far _).setCell (p := ⟨X, 16, none⟩) h.far _).setCell (p := ⟨X, 17, none⟩) h.far _).setCell (p := ⟨X, 18, none⟩) h.far _
/-- one more block stays as it is -/
theorem NSt.more {w : Bs} {W : World} {X : Nat} {x : Mx} {n : Nat} {vr vm cv : Value} (h : NSt w W X x n vr vm cv) {b : Nat} {A : Array Value} (hb : Blk W b A) (hx : b ≠ X) (hc : cv.ownBlock ≠ some b) (hm : MemR (W.veil (vl ((b, A) :: w.k) X cv)) (memV vr vm x.m.page x.m.screen x.m.locked) x.m) : NSt { w with k := (b, A) :: w.k } W X x n vr vm cv :=
  ⟨h.blk, h.own, hm, h.ne, h.bel, h.far, fun b' A' hm => by
    rcases List.mem_cons.1 hm with e | e
    · cases e; exact ⟨hb, hx, hc⟩
    · exact h.keep _ _ e⟩
/-- a thing is made, and stays as it is from then on -/
theorem NSt.made {w : Bs} {W W' : World} {X : Nat} {x : Mx} {n : Nat} {vr vm cv : Value} (h : NSt w W X x n vr vm cv) {A : Array Value} (hb : Below W.heap.size W W') (hq : Blk W' W.heap.size A) : NSt { w with k := (W.heap.size, A) :: w.k } W' X x n vr vm cv := by
  refine (h.below hb).more hq (by have := h.blk.lt; omega) (fun e => by have := (h.own.lt _ e).2; omega) (h.mem.mono (fun b i u hu => ?_))
  rw [veil_cell] at hu ⊢
  cases hp : vl w.k X cv b
  · rw [hp] at hu
    have hlt : b < W.heap.size := World.block_lt_of_cell? W _ hu
    have hn : vl ((W.heap.size, A) :: w.k) X cv b = false := by
      cases hh : vl ((W.heap.size, A) :: w.k) X cv b
      · rfl
      · rcases vl_cases hh with rfl | e | ⟨B, hB⟩
        · rw [vl_X] at hp; cases hp
        · rw [vl_own e] at hp; cases hp
        · rcases List.mem_cons.1 hB with e | e
          · cases e; omega
          · rw [vl_in e] at hp; cases hp
    rw [hn]
    show W'.cell? ⟨b, i, none⟩ = some u
    rw [World.cell?_of_block (w := W) (a := ⟨b, i, none⟩) (hb.block b hlt)]
    exact hu
  · rw [hp] at hu; cases hu
/-- a thing is boxed: it stays as it is -/
theorem NSt.boxed {w : Bs} {W : World} {X : Nat} {x : Mx} {n : Nat} {vr vm cv : Value} (h : NSt w W X x n vr vm cv) (A : Array Value) (t : TypeId) : NSt { w with k := (W.heap.size, A) :: w.k } (W.alloc (.cells A t)) X x n vr vm cv :=
  h.made ((Below.refl _ _).alloc (Nat.le_refl _) _) (Blk.new W A t)
theorem NSt.less {w : Bs} {W : World} {X : Nat} {x : Mx} {n : Nat} {vr vm cv : Value} {p : Nat × Array Value} (h : NSt { w with k := p :: w.k } W X x n vr vm cv) : NSt w W X x n vr vm cv := by
  refine ⟨h.blk, h.own, h.mem.mono (fun b i u hu => ?_), h.ne, h.bel, h.far, fun b' A' hm => h.keep _ _ (List.mem_cons_of_mem _ hm)⟩
  rw [veil_cell] at hu ⊢
  cases hp : vl (p :: w.k) X cv b
  · rw [hp] at hu
    have hn : vl w.k X cv b = false := by
      cases hh : vl w.k X cv b
      · rfl
      · rcases vl_cases hh with rfl | e | ⟨B, hB⟩
        · rw [vl_X] at hp; cases hp
        · rw [vl_own e] at hp; cases hp
        · rw [vl_in (List.mem_cons_of_mem _ hB)] at hp; cases hp
    rw [hn]
    exact hu
  · rw [hp] at hu; cases hu
theorem NSt.kept {w : Bs} {W : World} {X : Nat} {x : Mx} {n : Nat} {vr vm cv : Value} {b : Nat} {A : Array Value} (h : NSt { w with k := (b, A) :: w.k } W X x n vr vm cv) : Blk W b A := (h.keep b A (List.mem_cons_self ..)).1
theorem NSt.drew {w : Bs} {W : World} {X : Nat} {x : Mx} {n : Nat} {vr vm cv : Value} (h : NSt w W X x n vr vm cv) : NSt w W.drew X x n vr vm cv := h.below ⟨rfl, rfl, rfl, Nat.le_refl _, fun _ _ => rfl⟩
end Go.Proofs.YtgpmpfikeindfaaGreatDoor

/- What the machine's own calls do: note, read, write, push, pop. -/
namespace Go.Proofs.YtgpmpfikeindfaaGreatDoor
open Go.ChangeShapes Go.WideShapes Go.ChangeAt Go.RowKit
set_option linter.unusedVariables false
set_option linter.unusedSimpArgs false

theorem infoCy : (Tryz.prog.info? 42).map (fun i => (i.zero, i.size, i.bytes)) = some (some (.agg #[.int .i64 0, .int .i64 0, .int .i64 0]), 3, 24) := by kernel_rfl
set_option maxRecDepth 100000 in
theorem note_spec (k a v : Nat) (w : Bs) (W : World) (X : Nat) (x : Mx) (n : Nat) (vr vm cv : Value) (h : NSt w W X x n vr vm cv) (hl : x.cy.length ≤ 1000) :
    Calls Tryz.prog 48 #[.pointer (some ⟨X, 0, none⟩), .int .i64 (k : Int), .int .i64 (a : Int), .int .i64 (v : Int)] W fun e W' => e = .returned (.tuple #[]) ∧ ∃ cv', NSt w W' X (x.note k a v) n vr vm cv' := by
  obtain ⟨i0, hi0, hz0, hz1, hz2⟩ := info_parts infoCy
  have hst : Hid (∀ w2 g c o, w2.ownsRow w.heap.size 42 3 (.slice (some ⟨g, 0, none⟩) (x.cy.length + 1) c) (x.cy.length + 1) (cyV x.cy ++ [.int .i64 (k : Int), .int .i64 (a : Int), .int .i64 (v : Int)]) → (W.alloc o).grownBy w2 cv.ownBlock → (cv.ownBlock = some g ∨ g = (W.alloc o).heap.size) →
      NSt w (w2.setCell ⟨X, 19, none⟩ (.slice (some ⟨g, 0, none⟩) (x.cy.length + 1) c)) X (x.note k a v) n vr vm (.slice (some ⟨g, 0, none⟩) (x.cy.length + 1) c)) := fun w2 g c o h1 h2 h3 => h.noted h1 h2 h3
  have hq : Hid (∀ w2 o, (W.alloc o).grownBy w2 cv.ownBlock → Blk w2 X (macA x.c vr vm x.m.page x.m.screen x.m.locked cv n)) := fun w2 o hg => (h.blk.alloc o).grown hg (fun e => h.ne e.symm)
  have x0 := h.blk.cell
  have hX := h.blk.lt
  have hown := hid h.own
  have hbase := h.bel.size
  clear h
  generalize x.cy.length = m at *
  go_enter Tryz.func48, Tryz.ntmps48
  go_wp2_with (at_builtin; refine wpList_append_lies _ rfl _ _ 33 rfl w.heap.size 42 i0 _ 3 24 Tryz.underlying33 hi0 hz0 hz1 hz2 rfl (by omega) _ m (cyV x.cy) rfl (hown.out.alloc _) ⟨_, 0, none⟩ 1 1 [.int .i64 (k : Int), .int .i64 (a : Int), .int .i64 (v : Int)] rfl rfl (World.news_of_block (cs := #[.int .i64 (k : Int), .int .i64 (a : Int), .int .i64 (v : Int)]) (t := 42) (fr := (0, 0)) (heap_alloc_new _ _)) (by simp [Value.oneCell']) (by omega) (by unfold maxLen; omega) (by omega) (by simp; omega) _ rfl ?_; intro g2 c2 w2 ho hg hat hlt2; have hS := hid (hst.out _ _ _ _ ho hg hat); have q2 := hq.out _ _ hg; have x2 := q2.cell; have f2 := q2.frozen; have z2 := q2.lt; clear ho hg hat hlt2 hst hq hown x0)
  exact bodyPost_end (v := .tuple #[]) (by simp [results, Tryz.results48]) rfl ⟨rfl, _, hS.out⟩
end Go.Proofs.YtgpmpfikeindfaaGreatDoor

/- What the machine's own calls do: read, write, push, pop, get, set. -/
namespace Go.Proofs.YtgpmpfikeindfaaGreatDoor
open Go.ChangeShapes Go.WideShapes Go.ChangeAt Go.RowKit
set_option linter.unusedVariables false
set_option linter.unusedSimpArgs false

theorem peek_byte {M : Mem} (hk : okM M = true) {a : Nat} (ha : a < 256) : peekI M (a : Int) = (peekN M a : Int) ∧ peekN M a < 256 := by
  obtain ⟨hp1, hp2, hp3, _, hp5⟩ := ok_parts hk
  have hb : 0 ≤ peekI M (a : Int) ∧ peekI M (a : Int) ≤ 255 := by
    unfold peekI
    split
    · have h := bytes_at hp1 (i := ((a : Int)).toNat) (by rw [bytes_len hp1]; omega)
      simpa [inB] using h
    · have hbb := bank_bd hp3 (a := (a : Int)) (by omega)
      have h := bytes_at (hp5 (bankI M.page (a : Int)).toNat (by omega)) (i := ((a : Int) % 64).toNat) (by rw [bytes_len (hp5 (bankI M.page (a : Int)).toNat (by omega))]; omega)
      simpa [inB] using h
  unfold peekN
  omega
set_option maxRecDepth 100000 in
theorem read_spec (a : Nat) (w : Bs) (W : World) (X : Nat) (x : Mx) (n : Nat) (vr vm cv : Value) (h : NSt w W X x n vr vm cv) (hl : x.cy.length ≤ 1000) (hk : okM x.m = true) (ha : a < 256) :
    Calls Tryz.prog 50 #[.pointer (some ⟨X, 0, none⟩), .int .i64 (a : Int)] W fun e W' => e = .returned (.int .i64 (peekN x.m a : Int)) ∧ ∃ cv', NSt w W' X (x.read a) n vr vm cv' := by
  have hp := (peek_byte hk ha).1
  have hm := hid h.mem.unveil
  have hr : x.read a = x.note 2 a (peekN x.m a) := rfl
  rw [hr]
  obtain ⟨v, hv⟩ : ∃ v, peekN x.m a = v := ⟨_, rfl⟩
  rw [hv] at hp ⊢
  clear hr hv
  have x0 := h.blk.cell
  replace h := hid h
  go_enter Tryz.func50, Tryz.ntmps50
  go_wp2_with fail
  refine (peek0_spec _ x.m (a : Int) _ hm.out hk (by omega) (by omega)).mono ?_
  rintro e w1 ⟨rfl, hb⟩
  rw [hp]
  have h1 := hid (h.out.below hb)
  clear hb hm x0 h hp
  go_wp2_with fail
  refine (note_spec 2 a v w _ X x n vr vm cv h1.out hl).mono ?_
  rintro e w2 ⟨rfl, cv', h2⟩
  replace h2 := hid h2
  clear h1
  go_wp2
  go_ret
  exact ⟨rfl, cv', h2.out⟩
set_option maxRecDepth 100000 in
theorem write_spec (a v : Nat) (w : Bs) (W : World) (X : Nat) (x : Mx) (n : Nat) (vr vm cv : Value) (h : NSt w W X x n vr vm cv) (hl : x.cy.length ≤ 1000) (hk : okM x.m = true) (ha : a < 256) :
    Calls Tryz.prog 107 #[.pointer (some ⟨X, 0, none⟩), .int .i64 (a : Int), .int .i64 (v : Int)] W fun e W' => e = .returned (.tuple #[]) ∧ ∃ vr' vm' cv', NSt w W' X (x.write a v) n vr' vm' cv' := by
  have hX := h.blk.lt
  have hp : ∀ b, vl w.k X cv b = true → b < W.heap.size := fun b hb => by
    rcases vl_cases hb with rfl | hb | ⟨A, hA⟩
    · exact hX
    · exact (h.own.lt b hb).2
    · exact (h.keep b A hA).1.lt
  have hpo := hid (poke0_av (vl w.k X cv) _ x.m (a : Int) (v : Int) W hp h.mem hk (by omega) (by omega))
  have x0 := h.blk.cell
  replace h := hid h
  clear hp
  go_enter Tryz.func107, Tryz.ntmps107
  go_wp2_with fail
  refine hpo.out.mono ?_
  rintro e w1 ⟨u, rfl, hu, hb⟩
  obtain ⟨a1, p1, a2, p2, rfl, m1, m2⟩ := hu.form
  have h1 := h.out.below hb
  have h2 := hid (h1.poked hu)
  have x1 := h1.blk.cell
  have f1 := h1.blk.frozen
  have z1 := h1.blk.lt
  clear hb hpo x0 h h1 hu m1 m2
  have hM : ({ x with m := pokeM x.m (a : Int) (v : Int) } : Mx).note 3 a v = x.write a v := rfl
  generalize hMM : pokeM x.m (a : Int) (v : Int) = M' at *
  go_wp2_with fail
  refine (note_spec 3 a v w _ X _ n _ _ cv h2.out hl).mono ?_
  rintro e w2 ⟨rfl, cv', h3⟩
  rw [hM] at h3
  replace h3 := hid h3
  clear h2
  go_wp2
  exact bodyPost_end (v := .tuple #[]) (by simp [results, Tryz.results107]) rfl ⟨rfl, _, _, cv', h3.out⟩
theorem and255 (s : Nat) (h : s < 600) : bits .and .i64 (s : Int) 255 = ((s % 256 : Nat) : Int) := by
  rw [show (255 : Int) = ((255 : Nat) : Int) from rfl, bAnd s 255 (by omega) (by omega)]
  exact congrArg _ (Nat.and_two_pow_sub_one_eq_mod s 8)
theorem and255m (s : Nat) (h : s < 256) : bits .and .i64 ((s : Int) - 1) 255 = (((s + 255) % 256 : Nat) : Int) := by
  by_cases h0 : s = 0
  · subst h0
    decide
  · have e : (s : Int) - 1 = ((s - 1 : Nat) : Int) := by omega
    rw [e, and255 (s - 1) (by omega)]
    have : (s - 1) % 256 = (s + 255) % 256 := by omega
    rw [this]
set_option maxRecDepth 100000 in
theorem push_spec (v : Nat) (w : Bs) (W : World) (X : Nat) (x : Mx) (n : Nat) (vr vm cv : Value) (h : NSt w W X x n vr vm cv) (hl : x.cy.length ≤ 1000) (hk : okM x.m = true) (hs : x.c.sp < 256) :
    Calls Tryz.prog 115 #[.pointer (some ⟨X, 0, none⟩), .int .i64 (v : Int)] W fun e W' => e = .returned (.tuple #[]) ∧ ∃ vr' vm' cv', NSt w W' X (x.push v) n vr' vm' cv' := by
  have hp : x.push v = ({ x with c := { x.c with sp := (x.c.sp + 255) % 256 } } : Mx).write ((x.c.sp + 255) % 256) v := rfl
  rw [hp]
  clear hp
  have hq := and255m x.c.sp hs
  have hlt : (x.c.sp + 255) % 256 < 256 := Nat.mod_lt _ (by omega)
  generalize (x.c.sp + 255) % 256 = s at *
  have x0 := h.blk.cell
  have f0 := h.blk.frozen
  have z0 := h.blk.lt
  have h1 := hid (h.put 9 (.int .i64 (s : Int)) { x.c with sp := s } rfl)
  clear h
  go_enter Tryz.func115, Tryz.ntmps115
  go_wp2_with fail
  refine (write_spec s v w _ X _ n vr vm cv h1.out hl hk hlt).mono ?_
  rintro e w1 ⟨rfl, vr', vm', cv', h2⟩
  replace h2 := hid h2
  clear h1 x0 f0 z0
  go_wp2
  exact bodyPost_end (v := .tuple #[]) (by simp [results, Tryz.results115]) rfl ⟨rfl, _, _, _, h2.out⟩
set_option maxRecDepth 100000 in
theorem pop_spec (w : Bs) (W : World) (X : Nat) (x : Mx) (n : Nat) (vr vm cv : Value) (h : NSt w W X x n vr vm cv) (hl : x.cy.length ≤ 1000) (hk : okM x.m = true) (hs : x.c.sp < 256) :
    Calls Tryz.prog 116 #[.pointer (some ⟨X, 0, none⟩)] W fun e W' => e = .returned (.int .i64 (x.popV : Int)) ∧ ∃ cv', NSt w W' X x.popX n vr vm cv' := by
  have hp : x.popX = { x.read x.c.sp with c := { (x.read x.c.sp).c with sp := (x.c.sp + 1) % 256 } } := rfl
  have hv : x.popV = peekN x.m x.c.sp := rfl
  rw [hp, hv]
  clear hp hv
  have hq := and255 (x.c.sp + 1) (by omega)
  have hlt : (x.c.sp + 1) % 256 < 256 := Nat.mod_lt _ (by omega)
  have hc : (x.read x.c.sp).c = x.c := rfl
  have x0 := h.blk.cell
  have hr := hid (read_spec x.c.sp w W X x n vr vm cv h hl hk hs)
  clear h
  obtain ⟨v, hv2⟩ : ∃ v, peekN x.m x.c.sp = v := ⟨_, rfl⟩
  rw [hv2] at hr ⊢
  clear hv2
  obtain ⟨s', hs'⟩ : ∃ s', (x.c.sp + 1) % 256 = s' := ⟨_, rfl⟩
  rw [hs'] at hq hlt ⊢
  push_cast at hq
  clear hs'
  go_enter Tryz.func116, Tryz.ntmps116
  go_wp2_with fail
  refine hr.out.mono ?_
  rintro e w1 ⟨rfl, cv', h1⟩
  have x1 := h1.blk.cell
  have f1 := h1.blk.frozen
  have z1 := h1.blk.lt
  have h2 := hid (h1.put 9 (.int .i64 (s' : Int)) { (x.read x.c.sp).c with sp := s' } rfl)
  rw [hc] at x1
  clear h1 hr x0
  go_wp2
  go_ret
  exact ⟨rfl, cv', h2.out⟩
set_option maxRecDepth 100000 in
theorem get_spec (r : Nat) (w : Bs) (W : World) (X : Nat) (x : Mx) (n : Nat) (vr vm cv : Value) (h : NSt w W X x n vr vm cv) (hl : x.cy.length ≤ 1000) (hk : okM x.m = true) (hh : x.c.h < 256) (hr : r < 8) :
    Calls Tryz.prog 106 #[.pointer (some ⟨X, 0, none⟩), .int .i64 (r : Int)] W fun e W' => e = .returned (.int .i64 (x.getV r : Int)) ∧ ∃ cv', NSt w W' X (x.getX r) n vr vm cv' := by
  have x0 := h.blk.cell
  by_cases h6 : r = 6
  · subst h6
    have e1 : x.getV 6 = peekN x.m x.c.h := rfl
    have e2 : x.getX 6 = x.read x.c.h := rfl
    rw [e1, e2]
    have hrd := hid (read_spec x.c.h w W X x n vr vm cv h hl hk hh)
    obtain ⟨v, hv2⟩ : ∃ v, peekN x.m x.c.h = v := ⟨_, rfl⟩
    rw [hv2] at hrd ⊢
    clear h e1 e2 hv2
    go_enter Tryz.func106, Tryz.ntmps106
    go_wp2_with fail
    refine hrd.out.mono ?_
    rintro e w1 ⟨rfl, cv', h1⟩
    replace h1 := hid h1
    clear hrd x0
    go_wp2
    go_ret
    exact ⟨rfl, cv', h1.out⟩
  · have e2 : x.getX r = x := by unfold Mx.getX; rw [if_neg h6]
    have e1 : x.getV r = x.c.reg r := by unfold Mx.getV; rw [if_neg h6]
    rw [e1, e2]
    replace h := hid h
    clear e1 e2
    have hr7 : r = 0 ∨ r = 1 ∨ r = 2 ∨ r = 3 ∨ r = 4 ∨ r = 5 ∨ r = 7 := by omega
    clear h6 hr
    rcases hr7 with rfl | rfl | rfl | rfl | rfl | rfl | rfl
    all_goals
      go_enter Tryz.func106, Tryz.ntmps106
      go_wp2
      go_ret
      exact ⟨rfl, cv, h.out⟩
set_option maxRecDepth 100000 in
theorem set_spec (r v : Nat) (w : Bs) (W : World) (X : Nat) (x : Mx) (n : Nat) (vr vm cv : Value) (h : NSt w W X x n vr vm cv) (hl : x.cy.length ≤ 1000) (hk : okM x.m = true) (hh : x.c.h < 256) (hr : r < 8) :
    Calls Tryz.prog 105 #[.pointer (some ⟨X, 0, none⟩), .int .i64 (r : Int), .int .i64 (v : Int)] W fun e W' => e = .returned (.tuple #[]) ∧ ∃ vr' vm' cv', NSt w W' X (x.set r v) n vr' vm' cv' := by
  have x0 := h.blk.cell
  by_cases h6 : r = 6
  · subst h6
    have e2 : x.set 6 v = x.write x.c.h v := rfl
    rw [e2]
    have hrd := hid (write_spec x.c.h v w W X x n vr vm cv h hl hk hh)
    clear h e2
    go_enter Tryz.func105, Tryz.ntmps105
    go_wp2_with fail
    refine hrd.out.mono ?_
    rintro e w1 ⟨rfl, vr', vm', cv', h1⟩
    replace h1 := hid h1
    clear hrd x0
    go_wp2
    exact bodyPost_ret (v := .tuple #[]) (by simp [results, Tryz.results105]) rfl ⟨rfl, _, _, _, h1.out⟩
  · have e2 : x.set r v = { x with c := x.c.put v r } := by unfold Mx.set; rw [if_neg h6]
    rw [e2]
    clear e2
    have f0 := h.blk.frozen
    have z0 := h.blk.lt
    have hp : Hid (∀ i c', (macA x.c vr vm x.m.page x.m.screen x.m.locked cv n).setIfInBounds i (.int .i64 (v : Int)) = macA c' vr vm x.m.page x.m.screen x.m.locked cv n → NSt w (W.setCell ⟨X, i, none⟩ (.int .i64 (v : Int))) X { x with c := c' } n vr vm cv) := fun i c' hc => h.put i _ c' hc
    clear h
    have hr7 : r = 0 ∨ r = 1 ∨ r = 2 ∨ r = 3 ∨ r = 4 ∨ r = 5 ∨ r = 7 := by omega
    clear h6 hr
    rcases hr7 with rfl | rfl | rfl | rfl | rfl | rfl | rfl
    all_goals
      go_enter Tryz.func105, Tryz.ntmps105
      go_wp2
      exact bodyPost_end (v := .tuple #[]) (by simp [results, Tryz.results105]) rfl ⟨rfl, _, _, _, hp.out _ _ rfl⟩
end Go.Proofs.YtgpmpfikeindfaaGreatDoor
