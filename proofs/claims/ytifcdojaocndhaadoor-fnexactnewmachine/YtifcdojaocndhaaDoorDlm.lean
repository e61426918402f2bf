/- What the exact laws' helpers over decks answer; things of a law that lie apart; a deck that comes in. -/
import Derived.Test.YtifcdojaocndhaaDoorM27
import Derived.Lib.SmallJoins
import Derived.Deep.Matrix
namespace Go.Proofs.YtifcdojaocndhaaDoor
open Go.ChangeShapes Go.WideShapes Go.ChangeAt Go.RowKit Go.Joins Go.Deep
set_option linter.unusedVariables false
set_option linter.unusedSimpArgs false

/-- the block that a slice's numbers lie in, if it has any -/
def rdom (v : Value) (b : Nat) : Prop := ∃ n cap, v = .slice (some ⟨b, 0, none⟩) (n + 1) cap
abbrev tRow (v : Value) (P : List Int) : Thing := ⟨rdom v, fun W => OwnI 0 W v P⟩
theorem OwnI.weak {base : Nat} {W : World} {v : Value} {P : List Int} (h : OwnI base W v P) : OwnI 0 W v P := by
  rcases h with h | ⟨g, _, h⟩
  · exact .inl h
  · exact .inr ⟨g, Nat.zero_le _, h⟩
theorem OwnI.dom {base : Nat} {W : World} {v : Value} {P : List Int} (h : OwnI base W v P) {b : Nat} (hb : rdom v b) : base ≤ b ∧ RowO W b v P := by
  obtain ⟨n, cap, rfl⟩ := hb
  rcases h with ⟨_, a, c, e⟩ | ⟨g, hg, h⟩
  · injection e with _ e2 _
    omega
  · obtain ⟨c, cs, t, e, h1, h2⟩ := id h
    injection e with e1 e2 e3
    injection e1 with e1
    injection e1 with e1 _ _
    subst e1
    exact ⟨hg, h⟩
theorem OwnI.kept {base : Nat} {W W' : World} {v : Value} {P : List Int} (h : OwnI base W v P) (hk : ∀ b, rdom v b → W'.heap[b]? = W.heap[b]?) : OwnI base W' v P := by
  rcases h with h | ⟨g, hg, h⟩
  · exact .inl h
  · by_cases h0 : 0 < P.length
    · obtain ⟨c, cs, t, e, _⟩ := id h
      exact .inr ⟨g, hg, h.kept (hk g ⟨P.length - 1, c, by rw [e]; congr 1; omega⟩)⟩
    · have : P = [] := List.length_eq_zero_iff.1 (by omega)
      subst this
      obtain ⟨c, cs, t, e, _⟩ := id h
      exact .inl ⟨rfl, _, c, e⟩
theorem sits_row {base : Nat} {W : World} {v : Value} {P : List Int} (h : OwnI base W v P) : Sits W (tRow v P) :=
  ⟨h.weak, fun b hb => (h.dom hb).2.lt, fun W' hk => h.weak.kept hk⟩
/-- things that lie apart, all of them made since w -/
structure StD (w W : World) (L : List Thing) : Prop where
  sts : Sts W L
  bel : Below w.heap.size w W
  far : ∀ t, t ∈ L → ∀ b, t.dom b → w.heap.size ≤ b
theorem StD.at {w W : World} {L : List Thing} (h : StD w W L) (i : Nat) {t : Thing} (e : L[i]? = some t) : t.say W := h.sts.at i e
theorem StD.below {w W W' : World} {L : List Thing} (h : StD w W L) (hb : Below W.heap.size W W') : StD w W' L := ⟨h.sts.below hb, new_trans h.bel hb, h.far⟩
theorem StD.nil (w : World) : StD w w [] := ⟨Sts.nil _, Below.refl _ _, fun t h => by cases h⟩
theorem StD.box {w W : World} {L : List Thing} (h : StD w W L) (A : Array Value) (t : TypeId) : StD w (W.alloc (.cells A t)) (tBox W.heap.size A :: L) :=
  ⟨h.sts.box A t, h.bel.alloc h.bel.size _, fun s hs b hd => by
    rcases List.mem_cons.1 hs with rfl | hs
    · have : b = W.heap.size := hd
      rw [this]; exact h.bel.size
    · exact h.far s hs b hd⟩
/-- an answer's row -/
theorem StD.row {w W W' : World} {L : List Thing} {v : Value} {P : List Int} (h : StD w W L) (hb : Below W.heap.size W W') (hr : OwnI W.heap.size W' v P) : StD w W' (tRow v P :: L) :=
  ⟨h.sts.push hb (sits_row hr) (fun b hd => (hr.dom hd).1), new_trans h.bel hb, fun s hs b hd => by
    rcases List.mem_cons.1 hs with rfl | hs
    · exact Nat.le_trans h.bel.size (hr.dom hd).1
    · exact h.far s hs b hd⟩
theorem StD.turn {w W W' : World} {L : List Thing} (h : StD w W L) (i : Nat) {t : Thing} {say' : World → Prop} (e : L[i]? = some t) (hs : W.heap.size ≤ W'.heap.size) (ho : W'.os = W.os ∧ W'.tape = W.tape ∧ W'.output = W.output) (hk : ∀ b, b < W.heap.size → ¬ t.dom b → W'.heap[b]? = W.heap[b]?) (ht : Sits W' ⟨t.dom, say'⟩) : StD w W' (L.set i ⟨t.dom, say'⟩) := by
  have hmem := List.mem_of_getElem? e
  refine ⟨h.sts.turn i e hs hk ht, ⟨ho.1.trans h.bel.os, ho.2.1.trans h.bel.tape, ho.2.2.trans h.bel.output, Nat.le_trans h.bel.size hs, fun k hk2 => ?_⟩, fun s hs2 b hd => ?_⟩
  · have hz := h.bel.size
    rw [hk k (by omega) (fun hd => by have := h.far t hmem k hd; omega)]
    exact h.bel.block k hk2
  · obtain ⟨j, hj, rfl⟩ := List.getElem_of_mem hs2
    rw [List.length_set] at hj
    by_cases e2 : i = j
    · subst e2
      rw [List.getElem_set_self] at hd
      exact h.far t hmem b hd
    · rw [List.getElem_set_ne e2] at hd
      exact h.far L[j] (List.getElem_mem hj) b hd
/-- all but a slice's numbers is as it was -/
structure Outs (v : Value) (w w' : World) : Prop where
  os : w'.os = w.os
  tape : w'.tape = w.tape
  output : w'.output = w.output
  size : w.heap.size ≤ w'.heap.size
  block : ∀ b, b < w.heap.size → ¬ rdom v b → w'.heap[b]? = w.heap[b]?
theorem StD.mark {w W W' : World} {L : List Thing} (h : StD w W L) (i : Nat) {v : Value} {P P' : List Int} (e : L[i]? = some (tRow v P)) (hm : OwnI 0 W' v P') (ho : Outs v W W') : StD w W' (L.set i (tRow v P')) :=
  h.turn i e ho.size ⟨ho.os, ho.tape, ho.output⟩ ho.block (sits_row hm)
theorem StD.own {w W : World} {L : List Thing} (h : StD w W L) (i : Nat) {v : Value} {P : List Int} (e : L[i]? = some (tRow v P)) : RowR W v P := OwnI.read (h.at i e)
theorem markT (v : Value) (zs : List Int) (w : World) (h : OwnI 0 w v zs) (hl : zs.length ≤ 1048576) :
    Calls Tryd.prog 88 #[v, .int .i64 1] w fun e w' => e = .returned (.int .i64 (1 + (zs.length : Int))) ∧ OwnI 0 w' v (markL 1 zs.length) ∧ Outs v w w' := by
  by_cases h0 : 0 < zs.length
  · rcases h with ⟨rfl, a, cap, rfl⟩ | ⟨g, hg, h⟩
    · exact absurd h0 (by simp)
    refine (markr v g 1 zs w h (by omega) (by omega) (by omega)).mono ?_
    rintro e w' ⟨rfl, hO, hG⟩
    refine ⟨rfl, .inr ⟨g, Nat.zero_le _, hO⟩, hG.os, hG.tape, hG.output, hG.size, fun b hb hn => ?_⟩
    obtain ⟨c, cs, t, e, _⟩ := id h
    refine hG.block b hb (fun e2 => hn ?_)
    cases e2
    exact ⟨zs.length - 1, c, by rw [e]; congr 1; omega⟩
  · obtain rfl : zs = [] := List.length_eq_zero_iff.1 (by omega)
    obtain ⟨a, cap, rfl⟩ : ∃ a cap, v = .slice a 0 cap := h.form
    refine (mark0V a cap w).mono ?_
    rintro e w' ⟨rfl, rfl⟩
    exact ⟨rfl, .inl ⟨rfl, a, cap, rfl⟩, rfl, rfl, rfl, Nat.le_refl _, fun _ _ _ => rfl⟩
theorem eqd_yes (v v' : Value) (d : Dk) (w : World) (h : RowR w v d.pulses) (h' : RowR w v' d.pulses) (hl : d.pulses.length ≤ 1048576) :
    Calls Tryd.prog 39 #[dkV v d, dkV v' d] w fun e w' => e = .returned (.bool true) ∧ Below w.heap.size w w' := by
  obtain ⟨P, ix, lf, lv, pl⟩ := d
  obtain ⟨a1, p1, rfl⟩ := h.formV
  obtain ⟨a2, p2, rfl⟩ := h'.formV
  have hB : Hid (∀ o o' n, Below w.heap.size w (((w.alloc o).alloc o').drewN n)) := fun o o' n => (((Below.refl _ _).alloc (Nat.le_refl _) _).alloc (by simp) _).trans (Below.drewN _ _ _)
  have k1 : Hid (∀ o o' n, RowR (((w.alloc o).alloc o').drewN n) _ P) := fun o o' n => h.below (hB.out o o' n)
  have k2 : Hid (∀ o o' n, RowR (((w.alloc o).alloc o').drewN n) _ P) := fun o o' n => h'.below (hB.out o o' n)
  replace hl : P.length ≤ 1048576 := hl
  clear h h'
  go_enter Tryd.func39, Tryd.ntmps39
  go_wp2_with fail
  refine (eqr_yes _ _ P _ (k1.out _ _ 0) (k2.out _ _ 0) (by omega)).mono ?_
  rintro e w1 ⟨rfl, n, rfl⟩
  go_wp2
  go_ret
  exact ⟨rfl, hB.out _ _ _⟩
theorem heldd (v : Value) (d : Dk) (n : Nat) (w : World) (h : RowR w v (markL 1 n)) (hl : n ≤ 1048576) :
    Calls Tryd.prog 47 #[dkV v d, .int .i64 1] w fun e w' => e = .returned (.int .i64 (1 + (n : Int))) ∧ Below w.heap.size w w' := by
  obtain ⟨P, ix, lf, lv, pl⟩ := d
  obtain ⟨a1, p1, e⟩ := h.formV
  subst e
  have hB : Hid (∀ o, Below w.heap.size w (w.alloc o)) := fun o => (Below.refl _ _).alloc (Nat.le_refl _) _
  have k1 : Hid (∀ o, RowR (w.alloc o) _ (markL 1 n)) := fun o => h.below (hB.out o)
  clear h
  generalize (markL 1 n).length = L1 at *
  go_enter Tryd.func47, Tryd.ntmps47
  go_wp2_with fail
  refine (heldr _ 1 n _ (k1.out _) (by omega) (by omega) (by omega)).mono ?_
  rintro e w1 ⟨rfl, rfl⟩
  go_wp2
  go_ret
  exact ⟨rfl, hB.out _⟩
theorem markd (v : Value) (d : Dk) (P : List Int) (w : World) (h : Sits w (tRow v P)) (hl : P.length ≤ 1048576) :
    Calls Tryd.prog 44 #[dkV v d, .int .i64 1] w fun e w' => e = .returned (.int .i64 (1 + (P.length : Int))) ∧ OwnI 0 w' v (markL 1 P.length) ∧ Outs v w w' := by
  obtain ⟨P', ix, lf, lv, pl⟩ := d
  obtain ⟨a1, p1, e⟩ := h.now.form
  subst e
  have hB : Hid (∀ o, Below w.heap.size w (w.alloc o)) := fun o => (Below.refl _ _).alloc (Nat.le_refl _) _
  have k1 : Hid (∀ o, OwnI 0 (w.alloc o) (.slice a1 P.length p1) P) := fun o => h.now.below (hB.out o)
  have hd : Hid (∀ b, rdom (.slice a1 P.length p1) b → b < w.heap.size) := h.lt
  have hE : Hid (∀ o w2, Outs (.slice a1 P.length p1) (w.alloc o) w2 → Outs (.slice a1 P.length p1) w w2) := fun o w2 ho =>
    ⟨ho.os, ho.tape, ho.output, by have := ho.size; simp at this; omega, fun b hb hn => (ho.block b (by simp; omega) hn).trans (Below.heap_alloc w o b hb)⟩
  clear h
  go_enter Tryd.func44, Tryd.ntmps44
  go_wp2_with fail
  refine (markT _ P _ (k1.out _) hl).mono ?_
  rintro e w1 ⟨rfl, h1, ho⟩
  have h2 := hid h1
  have ho2 := hid (hE.out _ _ ho)
  clear h1 ho hE
  go_wp2
  go_ret
  exact ⟨rfl, h2.out, ho2.out⟩
theorem szd (a : Option Addr) (cap : Nat) (d : Dk) (left : Int) (w : World) (h : d.pulses.length ≤ maxLen) (h0 : 0 ≤ left) (h1 : left ≤ 1048576) :
    Calls Tryd.prog 50 #[dkV (.slice a d.pulses.length cap) d, .int .i64 left] w fun e w' => ∃ R : Int, e = .returned (.int .i64 R) ∧ (R < 0 ∨ (0 ≤ R ∧ (d.pulses.length : Int) + R = left)) ∧ Below w.heap.size w w' := by
  obtain ⟨P, ix, lf, lv, pl⟩ := d
  have hB : Hid (∀ o, Below w.heap.size w (w.alloc o)) := fun o => (Below.refl _ _).alloc (Nat.le_refl _) _
  replace h : P.length ≤ maxLen := h
  unfold maxLen at h
  have hS : Hid (∀ W, Calls Tryd.prog 92 #[.slice a P.length cap, .int .i64 left] W fun e w' => e = .returned (.int .i64 (if left - (P.length : Int) < 0 then -1 else left - (P.length : Int))) ∧ w' = W) := fun W => by
    by_cases hlt : left - (P.length : Int) < 0
    · rw [if_pos hlt]
      go_enter Tryd.func92, Tryd.ntmps92
      go_wp2
      go_ret
      exact ⟨rfl, rfl⟩
    · rw [if_neg hlt]
      go_enter Tryd.func92, Tryd.ntmps92
      go_wp2
      go_ret
      exact ⟨rfl, rfl⟩
  by_cases hlt : left - (P.length : Int) < 0
  · rw [if_pos hlt] at hS
    go_enter Tryd.func50, Tryd.ntmps50
    go_wp2_with fail
    refine (hS.out _).mono ?_
    rintro e w1 ⟨rfl, rfl⟩
    go_wp2
    go_ret
    exact ⟨_, rfl, .inl (by omega), hB.out _⟩
  · rw [if_neg hlt] at hS
    obtain ⟨q, hq⟩ : ∃ q : Int, left - (P.length : Int) = q := ⟨_, rfl⟩
    rw [hq] at hS hlt
    have hq2 : Hid ((P.length : Int) + q = left) := by unfold Hid; omega
    clear hq
    go_enter Tryd.func50, Tryd.ntmps50
    go_wp2_with fail
    refine (hS.out _).mono ?_
    rintro e w1 ⟨rfl, rfl⟩
    go_wp2
    go_ret
    exact ⟨_, rfl, .inr ⟨by omega, hq2.out⟩, hB.out _⟩
set_option maxHeartbeats 1000000 in
set_option maxRecDepth 100000 in
theorem tod (a : Option Addr) (cap : Nat) (d : Dk) (w : World) (h : RowR w (.slice a d.pulses.length cap) d.pulses) (hl : d.pulses.length ≤ 1048576) :
    Calls Tryd.prog 59 #[dkV (.slice a d.pulses.length cap) d] w fun e w' => ∃ u, e = .returned (dkV u d) ∧ OwnI w.heap.size w' u d.pulses ∧ Below w.heap.size w w' := by
  obtain ⟨P, ix, lf, lv, pl⟩ := d
  replace hl : P.length ≤ 1048576 := hl
  have S0 := ((((StD.nil w).box #[.slice a P.length cap, .int .i64 ix, .int .i64 lf, .bool lv, .bool pl] 55).box dkZ 38).box dkZ 38)
  simp only [World.size_alloc] at S0
  replace h := hid h
  go_enter Tryd.func59, Tryd.ntmps59
  go_upto_region 2 with fail
  obtain ⟨V, hV⟩ : ∃ V, ((w.alloc (.cells #[.slice a P.length cap, .int .i64 ix, .int .i64 lf, .bool lv, .bool pl] 55)).alloc (.cells #[.slice none 0 0, .int .i64 0, .int .i64 0, .bool false, .bool false] 38)).alloc (.cells #[.slice none 0 0, .int .i64 0, .int .i64 0, .bool false, .bool false] 38) = V := ⟨_, rfl⟩
  rw [hV] at S0 ⊢
  clear hV
  have x0 := (S0.at 2 rfl).cell
  replace S0 := hid S0
  go_wp2_with fail
  refine (tor _ P _ (h.out.below S0.out.bel) (by omega)).mono ?_
  rintro e w1 ⟨u1, rfl, hO1, hb1⟩
  obtain ⟨c1, _, _, hv1, _, _⟩ := id hO1
  have hO1' : OwnI V.heap.size w1 u1 P := .inr ⟨_, Nat.le_refl _, hO1⟩
  have S1 := S0.out.row hb1 hO1'
  subst hv1
  clear x0 hO1 hb1 hO1' S0
  obtain ⟨gV, hgV⟩ : ∃ g, V.heap.size = g := ⟨_, rfl⟩
  rw [hgV] at S1 ⊢
  clear hgV
  obtain ⟨O, hO⟩ : ∃ O, w.heap.size = O := ⟨_, rfl⟩
  have hOh : Hid (w.heap.size = O) := hO
  rw [hO] at S1 ⊢
  clear hO
  have n1 : ¬ O = O + 1 := by omega
  have n2 : ¬ O = O + 1 + 1 := by omega
  have n3 : ¬ O + 1 + 1 = O + 1 := by omega
  have n4 : ¬ O + 1 = O := by omega
  have n5 : ¬ O + 1 + 1 = O := by omega
  have n6 : ¬ O + 1 = O + 1 + 1 := by omega
  have q0 := S1.at 3 rfl
  have q1 := S1.at 2 rfl
  have q2 := S1.at 1 rfl
  have hr1 : OwnI w.heap.size w1 (.slice (some ⟨gV, 0, none⟩) P.length c1) P := by
    rcases S1.at 0 rfl with h | ⟨g, _, h⟩
    · exact .inl h
    · by_cases h0 : 0 < P.length
      · obtain ⟨c, cs, t, e, _⟩ := id h
        have eg : gV = g := by simpa [Value.ownBlock] using congrArg Value.ownBlock e
        exact .inr ⟨g, by subst eg; exact S1.far _ (List.mem_cons_self ..) gV ⟨P.length - 1, c1, by congr 1; omega⟩, h⟩
      · have : P = [] := List.length_eq_zero_iff.1 (by omega)
        subst this
        exact .inl ⟨rfl, _, c1, rfl⟩
  have ng : ∀ b, rdom (.slice (some ⟨gV, 0, none⟩) P.length c1) b → b ≠ O + 1 ∧ b ≠ O + 1 + 1 := fun b hb => by
    have hap := List.pairwise_cons.1 S1.sts.apart
    refine ⟨fun e => hap.1 (tBox (O + 1) dkZ) (by simp) b hb e, fun e => hap.1 (tBox (O + 1 + 1) dkZ) (by simp) b hb e⟩
  have B := S1.bel
  replace hr1 := hid hr1
  replace ng := hid ng
  replace B := hid B
  replace q0 := hid q0
  replace q1 := hid q1
  replace q2 := hid q2
  clear S1
  have hl1 : Hid (w.heap.size ≤ O + 1 ∧ w.heap.size ≤ O + 1 + 1) := ⟨by have := hOh.out; omega, by have := hOh.out; omega⟩
  have x0 := q0.out.cell
  have x2 := q2.out.cell
  have f2 := q2.out.frozen
  have l2 := q2.out.lt
  have q0' := hid (q0.out.other (p := ⟨O + 1 + 1, 0, none⟩) n2 (.slice (some ⟨gV, 0, none⟩) P.length c1))
  have q1' := hid (q1.out.other (p := ⟨O + 1 + 1, 0, none⟩) n6 (.slice (some ⟨gV, 0, none⟩) P.length c1))
  have q2' := hid (q2.out.set 0 (.slice (some ⟨gV, 0, none⟩) P.length c1))
  have B' : Hid (Below w.heap.size w (w1.setCell ⟨O + 1 + 1, 0, none⟩ (.slice (some ⟨gV, 0, none⟩) P.length c1))) := B.out.setCell (p := ⟨O + 1 + 1, 0, none⟩) hl1.out.2 _
  have hr' : Hid (OwnI w.heap.size (w1.setCell ⟨O + 1 + 1, 0, none⟩ (.slice (some ⟨gV, 0, none⟩) P.length c1)) (.slice (some ⟨gV, 0, none⟩) P.length c1) P) := hr1.out.kept (fun b hb => Below.heap_setCell _ _ _ _ (ng.out b hb).2)
  clear q0 q1 q2 B hr1
  have q0 := q0'
  have q1 := q1'
  have q2 := q2'
  have B := B'
  have hr1 := hr'
  clear q0' q1' q2' B' hr'
  go_upto_region 3 with fail
  obtain ⟨V0, hV0⟩ : ∃ V, w1.setCell ⟨O + 1 + 1, 0, none⟩ (.slice (some ⟨gV, 0, none⟩) P.length c1) = V := ⟨_, rfl⟩
  rw [hV0] at q0 q1 q2 B hr1 ⊢
  clear hV0 x0 x2 f2 l2
  have x0 := q0.out.cell
  have x2 := q2.out.cell
  have f2 := q2.out.frozen
  have l2 := q2.out.lt
  have q0' := hid (q0.out.other (p := ⟨O + 1 + 1, 1, none⟩) n2 (.int .i64 ix))
  have q1' := hid (q1.out.other (p := ⟨O + 1 + 1, 1, none⟩) n6 (.int .i64 ix))
  have q2' := hid (q2.out.set 1 (.int .i64 ix))
  have B' : Hid (Below w.heap.size w (V0.setCell ⟨O + 1 + 1, 1, none⟩ (.int .i64 ix))) := B.out.setCell (p := ⟨O + 1 + 1, 1, none⟩) hl1.out.2 _
  have hr' : Hid (OwnI w.heap.size (V0.setCell ⟨O + 1 + 1, 1, none⟩ (.int .i64 ix)) (.slice (some ⟨gV, 0, none⟩) P.length c1) P) := hr1.out.kept (fun b hb => Below.heap_setCell _ _ _ _ (ng.out b hb).2)
  clear q0 q1 q2 B hr1
  have q0 := q0'
  have q1 := q1'
  have q2 := q2'
  have B := B'
  have hr1 := hr'
  clear q0' q1' q2' B' hr'
  go_upto_region 4 with fail
  obtain ⟨V1, hV1⟩ : ∃ V, V0.setCell ⟨O + 1 + 1, 1, none⟩ (.int .i64 ix) = V := ⟨_, rfl⟩
  rw [hV1] at q0 q1 q2 B hr1 ⊢
  clear hV1 x0 x2 f2 l2
  have x0 := q0.out.cell
  have x2 := q2.out.cell
  have f2 := q2.out.frozen
  have l2 := q2.out.lt
  have q0' := hid (q0.out.other (p := ⟨O + 1 + 1, 2, none⟩) n2 (.int .i64 lf))
  have q1' := hid (q1.out.other (p := ⟨O + 1 + 1, 2, none⟩) n6 (.int .i64 lf))
  have q2' := hid (q2.out.set 2 (.int .i64 lf))
  have B' : Hid (Below w.heap.size w (V1.setCell ⟨O + 1 + 1, 2, none⟩ (.int .i64 lf))) := B.out.setCell (p := ⟨O + 1 + 1, 2, none⟩) hl1.out.2 _
  have hr' : Hid (OwnI w.heap.size (V1.setCell ⟨O + 1 + 1, 2, none⟩ (.int .i64 lf)) (.slice (some ⟨gV, 0, none⟩) P.length c1) P) := hr1.out.kept (fun b hb => Below.heap_setCell _ _ _ _ (ng.out b hb).2)
  clear q0 q1 q2 B hr1
  have q0 := q0'
  have q1 := q1'
  have q2 := q2'
  have B := B'
  have hr1 := hr'
  clear q0' q1' q2' B' hr'
  go_upto_region 5 with fail
  obtain ⟨V2, hV2⟩ : ∃ V, V1.setCell ⟨O + 1 + 1, 2, none⟩ (.int .i64 lf) = V := ⟨_, rfl⟩
  rw [hV2] at q0 q1 q2 B hr1 ⊢
  clear hV2 x0 x2 f2 l2
  have x0 := q0.out.cell
  have x2 := q2.out.cell
  have f2 := q2.out.frozen
  have l2 := q2.out.lt
  have q0' := hid (q0.out.other (p := ⟨O + 1 + 1, 3, none⟩) n2 (.bool lv))
  have q1' := hid (q1.out.other (p := ⟨O + 1 + 1, 3, none⟩) n6 (.bool lv))
  have q2' := hid (q2.out.set 3 (.bool lv))
  have B' : Hid (Below w.heap.size w (V2.setCell ⟨O + 1 + 1, 3, none⟩ (.bool lv))) := B.out.setCell (p := ⟨O + 1 + 1, 3, none⟩) hl1.out.2 _
  have hr' : Hid (OwnI w.heap.size (V2.setCell ⟨O + 1 + 1, 3, none⟩ (.bool lv)) (.slice (some ⟨gV, 0, none⟩) P.length c1) P) := hr1.out.kept (fun b hb => Below.heap_setCell _ _ _ _ (ng.out b hb).2)
  clear q0 q1 q2 B hr1
  have q0 := q0'
  have q1 := q1'
  have q2 := q2'
  have B := B'
  have hr1 := hr'
  clear q0' q1' q2' B' hr'
  go_upto_region 6 with fail
  obtain ⟨V3, hV3⟩ : ∃ V, V2.setCell ⟨O + 1 + 1, 3, none⟩ (.bool lv) = V := ⟨_, rfl⟩
  rw [hV3] at q0 q1 q2 B hr1 ⊢
  clear hV3 x0 x2 f2 l2
  have x0 := q0.out.cell
  have x2 := q2.out.cell
  have f2 := q2.out.frozen
  have l2 := q2.out.lt
  have q0' := hid (q0.out.other (p := ⟨O + 1 + 1, 4, none⟩) n2 (.bool pl))
  have q1' := hid (q1.out.other (p := ⟨O + 1 + 1, 4, none⟩) n6 (.bool pl))
  have q2' := hid (q2.out.set 4 (.bool pl))
  have B' : Hid (Below w.heap.size w (V3.setCell ⟨O + 1 + 1, 4, none⟩ (.bool pl))) := B.out.setCell (p := ⟨O + 1 + 1, 4, none⟩) hl1.out.2 _
  have hr' : Hid (OwnI w.heap.size (V3.setCell ⟨O + 1 + 1, 4, none⟩ (.bool pl)) (.slice (some ⟨gV, 0, none⟩) P.length c1) P) := hr1.out.kept (fun b hb => Below.heap_setCell _ _ _ _ (ng.out b hb).2)
  clear q0 q1 q2 B hr1
  have q0 := q0'
  have q1 := q1'
  have q2 := q2'
  have B := B'
  have hr1 := hr'
  clear q0' q1' q2' B' hr'
  go_upto_region 7 with fail
  obtain ⟨V4, hV4⟩ : ∃ V, V3.setCell ⟨O + 1 + 1, 4, none⟩ (.bool pl) = V := ⟨_, rfl⟩
  rw [hV4] at q0 q1 q2 B hr1 ⊢
  clear hV4 x0 x2 f2 l2
  have x2 := q2.out.cell
  have x1 := q1.out.cell
  have f1 := q1.out.frozen
  have l1 := q1.out.lt
  have x8 := (lay5_blk q1.out rfl (.slice (some ⟨gV, 0, none⟩) P.length c1) ix lf lv pl).cell
  dsimp only [lay5] at x8
  replace x8 := hid x8
  have B8 := hid (lay5_below B.out hl1.out.1 (.slice (some ⟨gV, 0, none⟩) P.length c1) ix lf lv pl)
  have hr8 : Hid (OwnI w.heap.size (lay5 V4 (O + 1) (.slice (some ⟨gV, 0, none⟩) P.length c1) ix lf lv pl) (.slice (some ⟨gV, 0, none⟩) P.length c1) P) := hr1.out.kept (fun b hb => lay5_heap _ _ _ _ _ _ _ (ng.out b hb).1)
  dsimp only [lay5] at B8 hr8
  clear q0 q1 q2 B hr1
  go_wp2
  have x9 := x8.out
  exact bodyPost_ret (v := .agg #[.slice (some ⟨gV, 0, none⟩) P.length c1, .int .i64 ix, .int .i64 lf, .bool lv, .bool pl]) (by simp [results, Tryd.results59, go_sem, x9]; try rfl) rfl ⟨_, rfl, hr8.out, B8.out⟩
section
variable {H : Type} {enc : TypeId × Value → H} {P : Program} {w : World} {base : Nat} {spare : Nat → Bool} {held : Bool}
theorem trod_struct5D {t : TypeId} {f0 f1 f2 f3 f4 : Field} {fuel : Nat} {cs : List Value} {x : DataW H × List MemPlace} (ht : P.underlying t = some (.struct #[f0, f1, f2, f3, f4])) (h : DataW.trod enc P w base spare held fuel t cs = some x) :
    ∃ y0 y1 y2 y3 y4 n, x.1 = .agg [y0.1, y1.1, y2.1, y3.1, y4.1] ∧ cs.length = P.cellsOf t ∧ DataW.trod enc P w base spare held n f0.type ((cs.drop f0.offset).take (P.cellsOf f0.type)) = some y0 ∧
      DataW.trod enc P w base spare held n f1.type ((cs.drop f1.offset).take (P.cellsOf f1.type)) = some y1 ∧ DataW.trod enc P w base spare held n f2.type ((cs.drop f2.offset).take (P.cellsOf f2.type)) = some y2 ∧
      DataW.trod enc P w base spare held n f3.type ((cs.drop f3.offset).take (P.cellsOf f3.type)) = some y3 ∧ DataW.trod enc P w base spare held n f4.type ((cs.drop f4.offset).take (P.cellsOf f4.type)) = some y4 := by
  obtain ⟨xs, n, _, rfl, hl, hlen, hf⟩ := DataW.trod_struct ht h
  match xs, hlen with
  | [y0, y1, y2, y3, y4], _ => exact ⟨y0, y1, y2, y3, y4, n, by simp, hl, by simpa using hf 0 f0 rfl, by simpa using hf 1 f1 rfl, by simpa using hf 2 f2 rfl, by simpa using hf 3 f3 rfl, by simpa using hf 4 f4 rfl⟩
theorem open_agg5D {r : Reach} {b0 : Nat} {t : TypeId} {f0 f1 f2 f3 f4 : Field} {v : Value} {d : DataW H} {p : List MemPlace} (hs : P.underlying t = some (.struct #[f0, f1, f2, f3, f4])) (hone : oneCellFields P #[f0, f1, f2, f3, f4] = true) (hC : P.cellsOf t = 5)
    (hv : Value.okWide P w r b0 t v) (h : DataW.Trod enc P w base spare held t v d p) :
    ∃ (v0 v1 v2 v3 v4 : Value) (y0 y1 y2 y3 y4 : DataW H × List MemPlace) (n : Nat), v = .agg #[v0, v1, v2, v3, v4] ∧
      DataW.trod enc P w base spare held n f0.type [v0] = some y0 ∧ DataW.trod enc P w base spare held n f1.type [v1] = some y1 ∧ DataW.trod enc P w base spare held n f2.type [v2] = some y2 ∧ DataW.trod enc P w base spare held n f3.type [v3] = some y3 ∧ DataW.trod enc P w base spare held n f4.type [v4] = some y4 := by
  obtain ⟨cs, rfl, hsz⟩ := okWide_struct hs hv
  obtain ⟨c0, c1, c2, c3, c4, rfl⟩ := array5 (hsz.trans hC)
  obtain ⟨fuel, hf⟩ := h
  obtain ⟨y0, y1, y2, y3, y4, n, hx, _, h0, h1, h2, h3, h4⟩ := trod_struct5D hs hf
  obtain ⟨o0, k0⟩ := hone_of hone 0 f0 rfl
  obtain ⟨o1, k1⟩ := hone_of hone 1 f1 rfl
  obtain ⟨o2, k2⟩ := hone_of hone 2 f2 rfl
  obtain ⟨o3, k3⟩ := hone_of hone 3 f3 rfl
  obtain ⟨o4, k4⟩ := hone_of hone 4 f4 rfl
  exact ⟨c0, c1, c2, c3, c4, y0, y1, y2, y3, y4, n, rfl, by simpa [Value.cells, o0, k0] using h0, by simpa [Value.cells, o1, k1] using h1, by simpa [Value.cells, o2, k2] using h2, by simpa [Value.cells, o3, k3] using h3, by simpa [Value.cells, o4, k4] using h4⟩
end
set_option maxRecDepth 100000 in
theorem deck_in {H : Type} {enc : TypeId × Value → H} {W : World} {base b0 : Nat} {held : Bool} {r : Reach} {v : Value} {d : DataW H} {p : List MemPlace}
    (hv : Value.okWide Tryd.prog W r b0 55 v) (h : DataW.Trod enc Tryd.prog W base (fun _ => true) held 55 v d p) : ∃ a cap D, v = dkV (.slice a (List.length (Dk.pulses D)) cap) D ∧ RowR W (.slice a D.pulses.length cap) D.pulses ∧ D.pulses.length ≤ maxLen := by
  obtain ⟨v0, v1, v2, v3, v4, y0, y1, y2, y3, y4, n, rfl, h0, h1, h2, h3, h4⟩ := open_agg5D Tryd.underlying55 (by kernel_rfl) (by kernel_rfl) hv h
  obtain ⟨a, cap, zs, rfl, k0, l0, _⟩ := row_inV Tryd.underlying27 Tryd.underlying3 (by kernel_rfl) h0
  obtain ⟨ix, i1, _, _⟩ := DataW.trod_int Tryd.underlying3 h1
  obtain ⟨lf, i2, _, _⟩ := DataW.trod_int Tryd.underlying3 h2
  obtain ⟨lv, i3, _⟩ := DataW.trod_bool Tryd.underlying4 h3
  obtain ⟨pl, i4, _⟩ := DataW.trod_bool Tryd.underlying4 h4
  simp at i1 i2 i3 i4
  subst i1 i2 i3 i4
  exact ⟨a, cap, ⟨zs, ix, lf, lv, pl⟩, rfl, k0, l0⟩
end Go.Proofs.YtifcdojaocndhaaDoor
