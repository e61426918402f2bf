/- Expand: a round of its loop. -/
import Derived.Test.YtghcagibdcblnaaGreatDoorF31
import Derived.Test.YtghcagibdcblnaaGreatDoorF29
import Derived.Test.YtghcagibdcblnaaGreatDoorLrf
namespace Go.Proofs.YtghcagibdcblnaaGreatDoor
open Go.ChangeShapes Go.WideShapes Go.ChangeAt Go.RowKit Go.Shelf
attribute [local go_sem] Oper.semAt_some
set_option linter.unusedVariables false
set_option linter.unusedSimpArgs false

def ls_V (O X base : Nat) (oa : Option Addr) (len cap : Nat) (b : Int) (n m : Nat) (xs : List Value) (ns : List Int) : Nat → Nat × Value → Value := fun i e => match i with
  | 0 => .slice oa len cap
  | 1 => rnV b n
  | 2 => .slice (some ⟨e.1, 0, none⟩) m m
  | 3 => e.2
  | _ => undef
def ls_J (w1 : World) (O X base : Nat) (oa : Option Addr) (len cap : Nat) (b : Int) (n m : Nat) (xs : List Value) (ns : List Int) (f : Nat → Bool) (e : Nat × Value) (w : World) : Prop :=
  (f 3 = false → f 4 = false ∧ Below w1.heap.size w1 w ∧ (f 2 = true → RdB w1 w e.1 ns)) ∧ (f 3 = true → (f 0 = true ∧ f 1 = true ∧ f 2 = true) ∧ ∃ wa w2, Below w1.heap.size w1 wa ∧ wa.grownBy w2 (Value.ownBlock (.slice oa len cap)) ∧ w2.ownsRow base 5 1 e.2 (len + m) (xs ++ ns.map (Value.int .u8)) ∧ (e.2.ownBlock = Value.ownBlock (.slice oa len cap) ∨ e.2.ownBlock = some wa.heap.size) ∧ w = (bif f 4 then w2.setCell ⟨O, 0, none⟩ e.2 else w2)) ∧ (f 2 = true → f 1 = true)
def ls_o0 : Oper := ({ dst := some 30, op := Op.load 22 (Operand.tmp 6), type := 22, pos := "l12_rle.go:144", after := #[], guard := none } : Oper)
def ls_o1 : Oper := ({ dst := some 31, op := Op.load 126 (Operand.tmp 7), type := 126, pos := "l12_rle.go:144", after := #[], guard := none } : Oper)
def ls_o2 : Oper := ({ dst := some 32, op := Op.call { callee := Callee.value (Operand.func 92), args := #[Operand.tmp 31], argTypes := #[126] }, type := 22, pos := "l12_rle.go:144", after := #[{ on := 1, ground := Ground.data }], guard := none } : Oper)
def ls_o3 : Oper := ({ dst := some 33, op := Op.call { callee := Callee.builtin Builtin.append, args := #[Operand.tmp 30, Operand.tmp 32], argTypes := #[22, 22] }, type := 22, pos := "l12_rle.go:144", after := #[{ on := 0, ground := Ground.data }, { on := 2, ground := Ground.data }, { on := 2, ground := Ground.chain }], guard := none } : Oper)
def ls_o4 : Oper := ({ dst := none, op := Op.store 22 (Operand.tmp 6) (Operand.tmp 33), type := 0, pos := "l12_rle.go:144", after := #[{ on := 3, ground := Ground.data }, { on := 3, ground := Ground.chain }, { on := 0, ground := Ground.phase }, { on := 1, ground := Ground.phase }, { on := 2, ground := Ground.phase }, { on := 3, ground := Ground.phase }], guard := none } : Oper)
def ls_O : Array Oper := #[ls_o0, ls_o1, ls_o2, ls_o3, ls_o4]
theorem ls_no {s : Nat} (h : ([30, 31, 32, 33] : List Nat).contains s = false) : ∀ i, dstAt ls_O i ≠ some s := by
  intro i hi
  have hl : i < 5 := by
    rcases Nat.lt_or_ge i 5 with h1 | h1
    · exact h1
    · unfold dstAt at hi
      rw [Array.getElem?_eq_none (by exact h1)] at hi
      cases hi
  rcases (by omega : i = 0 ∨ i = 1 ∨ i = 2 ∨ i = 3 ∨ i = 4) with rfl | rfl | rfl | rfl | rfl
  all_goals first
    | (cases hi; simp at h)
    | cases hi
theorem ls_keep2 (O X base : Nat) (oa : Option Addr) (len cap : Nat) (b : Int) (n m : Nat) (xs : List Value) (ns : List Int) {f : Nat → Bool} (e : Nat × Value) (g : Nat) (hn : f 2 = false) (hm : f 3 = false) : ∀ j, f j = true → ls_V O X base oa len cap b n m xs ns j (g, e.2) = ls_V O X base oa len cap b n m xs ns j e := by
  intro j hj
  unfold ls_V
  split
  · rfl
  · rfl
  · rw [hn] at hj; cases hj
  · rfl
  · rfl
theorem ls_keep3 (O X base : Nat) (oa : Option Addr) (len cap : Nat) (b : Int) (n m : Nat) (xs : List Value) (ns : List Int) {f : Nat → Bool} (e : Nat × Value) (v : Value) (hn : f 3 = false) : ∀ j, f j = true → ls_V O X base oa len cap b n m xs ns j (e.1, v) = ls_V O X base oa len cap b n m xs ns j e := by
  intro j hj
  unfold ls_V
  split
  · rfl
  · rfl
  · rfl
  · rw [hn] at hj; cases hj
  · rfl
set_option maxRecDepth 100000 in
set_option maxHeartbeats 2000000 in
theorem ls_s0 (A : Act) (w1 : World) (Q : Exit → Act → World → Prop) (O X base : Nat) (oa : Option Addr) (len cap : Nat) (b : Int) (n m : Nat) (xs : List Value) (ns : List Int) 
    (hbo : A.tmps.getD 6 undef = .pointer (some ⟨O, 0, none⟩)) (hbx : A.tmps.getD 7 undef = .pointer (some ⟨X, 0, none⟩)) (qO : Blk w1 O #[.slice oa len cap]) (qX : Blk w1 X (rnA b n)) (own : w1.ownsRow base 5 1 (.slice oa len cap) len xs) (hco : ∀ W, Below w1.heap.size w1 W → Calls Tryz.prog 92 #[rnV b n] W fun r w' => ∃ g, r = .returned (.slice (some ⟨g, 0, none⟩) m m) ∧ RdB W w' g ns) (hns : ns.length = m) (hOb : Value.ownBlock (.slice oa len cap) ≠ some O) (hbs : base ≤ w1.heap.size) (hlm : len + m ≤ 1000000)
    (f : Nat → Bool) (e : Nat × Value) (a : Act) (w : World) (hun : f 0 = false) (hdep : ∀ d ∈ ls_o0.after, Region.binds .any d = true → f d.on = true) (hJ : ls_J w1 O X base oa len cap b n m xs ns f e w) (hFr : Fr ls_O A f (fun j => ls_V O X base oa len cap b n m xs ns j e) a)
    (K : Act → World → Prop) (hK : Hid (∀ v e' w', v = ls_V O X base oa len cap b n m xs ns 0 e' → (∀ j, f j = true → ls_V O X base oa len cap b n m xs ns j e' = ls_V O X base oa len cap b n m xs ns j e) → ls_J w1 O X base oa len cap b n m xs ns (fun j => j == 0 || f j) e' w' → K (a.put ls_o0.dst v) w')) :
    if Region.wanted ls_o0 (yielded ls_O a.tmps) = true then Oper.wp Tryz.prog ls_o0 a w K Q else K (a.put ls_o0.dst undef) w := by
  unfold ls_o0 at hdep hK ⊢
  have hK9 := hK
  obtain ⟨j0, j1, j2⟩ := hJ
  have f3 : f 3 = false := by
    cases h3 : f 3
    · rfl
    · have := (j1 h3).1
      rw [hun] at this
      simp at this
  obtain ⟨f4, hB, jr⟩ := j0 f3
  have v6 := (hFr.old 6 (ls_no (by decide))).trans hbo
  have xO := (qO.below hB qO.lt).cell
  replace hB := hid hB
  replace jr := hid jr
  replace j2 := hid j2
  replace qO := hid qO
  replace qX := hid qX
  replace own := hid own
  replace hco := hid hco
  replace f3 := hid f3
  replace f4 := hid f4
  clear hdep hFr hbo hbx j0 j1
  go_simp
  exact hK9.out _ e _ rfl (fun _ _ => rfl) ⟨fun _ => ⟨f4.out, hB.out, jr.out⟩, fun h => absurd (show f 3 = true from h) (by rw [f3.out]; exact fun h => (by cases h)), j2.out⟩
set_option maxRecDepth 100000 in
set_option maxHeartbeats 2000000 in
theorem ls_s1 (A : Act) (w1 : World) (Q : Exit → Act → World → Prop) (O X base : Nat) (oa : Option Addr) (len cap : Nat) (b : Int) (n m : Nat) (xs : List Value) (ns : List Int) 
    (hbo : A.tmps.getD 6 undef = .pointer (some ⟨O, 0, none⟩)) (hbx : A.tmps.getD 7 undef = .pointer (some ⟨X, 0, none⟩)) (qO : Blk w1 O #[.slice oa len cap]) (qX : Blk w1 X (rnA b n)) (own : w1.ownsRow base 5 1 (.slice oa len cap) len xs) (hco : ∀ W, Below w1.heap.size w1 W → Calls Tryz.prog 92 #[rnV b n] W fun r w' => ∃ g, r = .returned (.slice (some ⟨g, 0, none⟩) m m) ∧ RdB W w' g ns) (hns : ns.length = m) (hOb : Value.ownBlock (.slice oa len cap) ≠ some O) (hbs : base ≤ w1.heap.size) (hlm : len + m ≤ 1000000)
    (f : Nat → Bool) (e : Nat × Value) (a : Act) (w : World) (hun : f 1 = false) (hdep : ∀ d ∈ ls_o1.after, Region.binds .any d = true → f d.on = true) (hJ : ls_J w1 O X base oa len cap b n m xs ns f e w) (hFr : Fr ls_O A f (fun j => ls_V O X base oa len cap b n m xs ns j e) a)
    (K : Act → World → Prop) (hK : Hid (∀ v e' w', v = ls_V O X base oa len cap b n m xs ns 1 e' → (∀ j, f j = true → ls_V O X base oa len cap b n m xs ns j e' = ls_V O X base oa len cap b n m xs ns j e) → ls_J w1 O X base oa len cap b n m xs ns (fun j => j == 1 || f j) e' w' → K (a.put ls_o1.dst v) w')) :
    if Region.wanted ls_o1 (yielded ls_O a.tmps) = true then Oper.wp Tryz.prog ls_o1 a w K Q else K (a.put ls_o1.dst undef) w := by
  unfold ls_o1 at hdep hK ⊢
  have hK9 := hK
  obtain ⟨j0, j1, j2⟩ := hJ
  have f3 : f 3 = false := by
    cases h3 : f 3
    · rfl
    · have := (j1 h3).1
      rw [hun] at this
      simp at this
  obtain ⟨f4, hB, jr⟩ := j0 f3
  have v7 := (hFr.old 7 (ls_no (by decide))).trans hbx
  have xX := (qX.below hB qX.lt).cell
  replace hB := hid hB
  replace jr := hid jr
  replace j2 := hid j2
  replace qO := hid qO
  replace qX := hid qX
  replace own := hid own
  replace hco := hid hco
  replace f3 := hid f3
  replace f4 := hid f4
  clear hdep hFr hbo hbx j0 j1
  go_simp
  exact hK9.out _ e _ rfl (fun _ _ => rfl) ⟨fun _ => ⟨f4.out, hB.out, jr.out⟩, fun h => absurd (show f 3 = true from h) (by rw [f3.out]; exact fun h => (by cases h)), fun _ => rfl⟩
set_option maxRecDepth 100000 in
set_option maxHeartbeats 2000000 in
theorem ls_s2 (A : Act) (w1 : World) (Q : Exit → Act → World → Prop) (O X base : Nat) (oa : Option Addr) (len cap : Nat) (b : Int) (n m : Nat) (xs : List Value) (ns : List Int) 
    (hbo : A.tmps.getD 6 undef = .pointer (some ⟨O, 0, none⟩)) (hbx : A.tmps.getD 7 undef = .pointer (some ⟨X, 0, none⟩)) (qO : Blk w1 O #[.slice oa len cap]) (qX : Blk w1 X (rnA b n)) (own : w1.ownsRow base 5 1 (.slice oa len cap) len xs) (hco : ∀ W, Below w1.heap.size w1 W → Calls Tryz.prog 92 #[rnV b n] W fun r w' => ∃ g, r = .returned (.slice (some ⟨g, 0, none⟩) m m) ∧ RdB W w' g ns) (hns : ns.length = m) (hOb : Value.ownBlock (.slice oa len cap) ≠ some O) (hbs : base ≤ w1.heap.size) (hlm : len + m ≤ 1000000)
    (f : Nat → Bool) (e : Nat × Value) (a : Act) (w : World) (hun : f 2 = false) (hdep : ∀ d ∈ ls_o2.after, Region.binds .any d = true → f d.on = true) (hJ : ls_J w1 O X base oa len cap b n m xs ns f e w) (hFr : Fr ls_O A f (fun j => ls_V O X base oa len cap b n m xs ns j e) a)
    (K : Act → World → Prop) (hK : Hid (∀ v e' w', v = ls_V O X base oa len cap b n m xs ns 2 e' → (∀ j, f j = true → ls_V O X base oa len cap b n m xs ns j e' = ls_V O X base oa len cap b n m xs ns j e) → ls_J w1 O X base oa len cap b n m xs ns (fun j => j == 2 || f j) e' w' → K (a.put ls_o2.dst v) w')) :
    if Region.wanted ls_o2 (yielded ls_O a.tmps) = true then Oper.wp Tryz.prog ls_o2 a w K Q else K (a.put ls_o2.dst undef) w := by
  unfold ls_o2 at hdep hK ⊢
  have hK9 := hK
  obtain ⟨j0, j1, j2⟩ := hJ
  have f3 : f 3 = false := by
    cases h3 : f 3
    · rfl
    · have := (j1 h3).1
      rw [hun] at this
      simp at this
  obtain ⟨f4, hB, jr⟩ := j0 f3
  have k1 : f 1 = true := hdep { on := 1, ground := .data } (by simp) rfl
  have v31 : a.tmps.getD 31 undef = rnV b n := hFr.new 1 31 rfl k1
  replace k1 := hid k1
  replace hB := hid hB
  replace jr := hid jr
  replace j2 := hid j2
  replace qO := hid qO
  replace qX := hid qX
  replace own := hid own
  replace hco := hid hco
  replace f3 := hid f3
  replace f4 := hid f4
  clear hdep hFr hbo hbx j0 j1
  go_simp
  go_at_call 92
  refine (hco.out w hB.out).mono ?_
  rintro r w' ⟨g, rfl, hR⟩
  replace hR := hid hR
  go_simp
  exact hK9.out _ (g, e.2) _ rfl (ls_keep2 O X base oa len cap b n m xs ns e g hun f3.out) ⟨fun _ => ⟨f4.out, hB.out.trans (hR.out.bel.mono hB.out.size), fun _ => ⟨hB.out.trans (hR.out.bel.mono hB.out.size), Nat.le_trans hB.out.size hR.out.far, hR.out.holds⟩⟩, fun h => absurd (show f 3 = true from h) (by rw [f3.out]; exact fun h => (by cases h)), fun _ => k1.out⟩
set_option maxRecDepth 100000 in
set_option maxHeartbeats 2000000 in
theorem ls_s3 (A : Act) (w1 : World) (Q : Exit → Act → World → Prop) (O X base : Nat) (oa : Option Addr) (len cap : Nat) (b : Int) (n m : Nat) (xs : List Value) (ns : List Int) 
    (hbo : A.tmps.getD 6 undef = .pointer (some ⟨O, 0, none⟩)) (hbx : A.tmps.getD 7 undef = .pointer (some ⟨X, 0, none⟩)) (qO : Blk w1 O #[.slice oa len cap]) (qX : Blk w1 X (rnA b n)) (own : w1.ownsRow base 5 1 (.slice oa len cap) len xs) (hco : ∀ W, Below w1.heap.size w1 W → Calls Tryz.prog 92 #[rnV b n] W fun r w' => ∃ g, r = .returned (.slice (some ⟨g, 0, none⟩) m m) ∧ RdB W w' g ns) (hns : ns.length = m) (hOb : Value.ownBlock (.slice oa len cap) ≠ some O) (hbs : base ≤ w1.heap.size) (hlm : len + m ≤ 1000000)
    (f : Nat → Bool) (e : Nat × Value) (a : Act) (w : World) (hun : f 3 = false) (hdep : ∀ d ∈ ls_o3.after, Region.binds .any d = true → f d.on = true) (hJ : ls_J w1 O X base oa len cap b n m xs ns f e w) (hFr : Fr ls_O A f (fun j => ls_V O X base oa len cap b n m xs ns j e) a)
    (K : Act → World → Prop) (hK : Hid (∀ v e' w', v = ls_V O X base oa len cap b n m xs ns 3 e' → (∀ j, f j = true → ls_V O X base oa len cap b n m xs ns j e' = ls_V O X base oa len cap b n m xs ns j e) → ls_J w1 O X base oa len cap b n m xs ns (fun j => j == 3 || f j) e' w' → K (a.put ls_o3.dst v) w')) :
    if Region.wanted ls_o3 (yielded ls_O a.tmps) = true then Oper.wp Tryz.prog ls_o3 a w K Q else K (a.put ls_o3.dst undef) w := by
  unfold ls_o3 at hdep hK ⊢
  have hK9 := hK
  obtain ⟨j0, j1, j2⟩ := hJ
  obtain ⟨f4, hB, jr⟩ := j0 hun
  obtain ⟨i0, hi0, hz0, hz1, hz2⟩ := info_parts infoB
  have k0 : f 0 = true := hdep { on := 0, ground := .data } (by simp) rfl
  have v30 : a.tmps.getD 30 undef = .slice oa len cap := hFr.new 0 30 rfl k0
  have k2 : f 2 = true := hdep { on := 2, ground := .data } (by simp) rfl
  have v32 : a.tmps.getD 32 undef = .slice (some ⟨e.1, 0, none⟩) m m := hFr.new 2 32 rfl k2
  have hrd := jr k2
  have k1 := j2 k2
  have own9 := own_belowL own hB
  obtain ⟨v', w', hrun, ho9, hg9, _, hat9⟩ := run_append_own_at (P := Tryz.prog) w base 22 22 5 i0 _ 1 1 Tryz.underlying22 hi0 hz0 hz1 hz2 rfl (by omega) (.slice oa len cap) len xs own9 ⟨e.1, 0, none⟩ m m (ns.map (Value.int .u8)) (by rw [List.length_map]; omega) (fun j u hj => by
    rw [List.getElem?_map] at hj
    obtain ⟨x, hx, rfl⟩ := Option.map_eq_some_iff.1 hj
    rw [addr_plain, Nat.zero_add]
    exact hrd.holds j x hx) (fun u hu => by obtain ⟨x, _, rfl⟩ := List.mem_map.1 hu; rfl) (by unfold maxLen; omega) (by omega) (Nat.le_trans hbs hB.size)
  replace ho9 := hid ho9
  replace hg9 := hid hg9
  replace hat9 := hid hat9
  replace k0 := hid k0
  replace k1 := hid k1
  replace k2 := hid k2
  replace own9 := hid own9
  replace hrd := hid hrd
  replace hi0 := hid hi0
  replace hz0 := hid hz0
  have f3 : f 3 = false := hun
  rw [if_pos (show Region.wanted _ _ = true from rfl)]
  refine Lib.wp_append_run w _ _ 22 22 rfl (.slice oa len cap) (.slice (some ⟨e.1, 0, none⟩) m m) v30 v32 v' w' hrun ?_
  replace hB := hid hB
  replace jr := hid jr
  replace j2 := hid j2
  replace qO := hid qO
  replace qX := hid qX
  replace own := hid own
  replace hco := hid hco
  replace f3 := hid f3
  replace f4 := hid f4
  clear hdep hFr hbo hbx j0 j1
  exact hK9.out _ (e.1, v') _ rfl (ls_keep3 O X base oa len cap b n m xs ns e v' hun) ⟨fun h => (by cases h), fun _ => ⟨⟨k0.out, k1.out, k2.out⟩, w, w', hB.out, hg9.out, ho9.out, hat9.out, by show w' = (bif f 4 then _ else w'); rw [f4.out]; rfl⟩, j2.out⟩
set_option maxRecDepth 100000 in
set_option maxHeartbeats 2000000 in
theorem ls_s4 (A : Act) (w1 : World) (Q : Exit → Act → World → Prop) (O X base : Nat) (oa : Option Addr) (len cap : Nat) (b : Int) (n m : Nat) (xs : List Value) (ns : List Int) 
    (hbo : A.tmps.getD 6 undef = .pointer (some ⟨O, 0, none⟩)) (hbx : A.tmps.getD 7 undef = .pointer (some ⟨X, 0, none⟩)) (qO : Blk w1 O #[.slice oa len cap]) (qX : Blk w1 X (rnA b n)) (own : w1.ownsRow base 5 1 (.slice oa len cap) len xs) (hco : ∀ W, Below w1.heap.size w1 W → Calls Tryz.prog 92 #[rnV b n] W fun r w' => ∃ g, r = .returned (.slice (some ⟨g, 0, none⟩) m m) ∧ RdB W w' g ns) (hns : ns.length = m) (hOb : Value.ownBlock (.slice oa len cap) ≠ some O) (hbs : base ≤ w1.heap.size) (hlm : len + m ≤ 1000000)
    (f : Nat → Bool) (e : Nat × Value) (a : Act) (w : World) (hun : f 4 = false) (hdep : ∀ d ∈ ls_o4.after, Region.binds .any d = true → f d.on = true) (hJ : ls_J w1 O X base oa len cap b n m xs ns f e w) (hFr : Fr ls_O A f (fun j => ls_V O X base oa len cap b n m xs ns j e) a)
    (K : Act → World → Prop) (hK : Hid (∀ v e' w', v = ls_V O X base oa len cap b n m xs ns 4 e' → (∀ j, f j = true → ls_V O X base oa len cap b n m xs ns j e' = ls_V O X base oa len cap b n m xs ns j e) → ls_J w1 O X base oa len cap b n m xs ns (fun j => j == 4 || f j) e' w' → K (a.put ls_o4.dst v) w')) :
    if Region.wanted ls_o4 (yielded ls_O a.tmps) = true then Oper.wp Tryz.prog ls_o4 a w K Q else K (a.put ls_o4.dst undef) w := by
  unfold ls_o4 at hdep hK ⊢
  have hK9 := hK
  obtain ⟨j0, j1, j2⟩ := hJ
  have k3 : f 3 = true := hdep { on := 3, ground := .data } (by simp) rfl
  have v33 : a.tmps.getD 33 undef = e.2 := hFr.new 3 33 rfl k3
  have v6 := (hFr.old 6 (ls_no (by decide))).trans hbo
  obtain ⟨jd, wa, w2, hB, hg, how, hat, hw⟩ := j1 k3
  rw [hun] at hw
  replace hw : w = w2 := hw
  subst hw
  obtain ⟨g9, c9, he⟩ : ∃ g9 c9, e.2 = .slice g9 (len + m) c9 := ownsRow_form how
  have qO2 : Blk w O #[.slice oa len cap] := (qO.below hB qO.lt).grown hg (fun e => hOb e.symm)
  have xO := qO2.cell
  have yO := qO2.frozen
  have zO := qO2.lt
  have hJ9 : Hid (∃ wa w2, Below w1.heap.size w1 wa ∧ wa.grownBy w2 (Value.ownBlock (.slice oa len cap)) ∧ w2.ownsRow base 5 1 e.2 (len + m) (xs ++ ns.map (Value.int .u8)) ∧ (e.2.ownBlock = Value.ownBlock (.slice oa len cap) ∨ e.2.ownBlock = some wa.heap.size) ∧ w.setCell ⟨O, 0, none⟩ e.2 = w2.setCell ⟨O, 0, none⟩ e.2) := ⟨wa, w, hB, hg, how, hat, rfl⟩
  replace jd := hid jd
  replace j2 := hid j2
  replace k3 := hid k3
  replace qO := hid qO
  replace qX := hid qX
  replace own := hid own
  replace hco := hid hco
  replace hB := hid hB
  replace hg := hid hg
  replace how := hid how
  replace hat := hid hat
  replace qO2 := hid qO2
  rw [he] at v33
  replace he := hid he
  clear hdep hFr hbo hbx j0 j1
  go_simp
  rw [← he.out]
  exact hK9.out _ e _ rfl (fun _ _ => rfl) ⟨fun h => absurd k3.out (by rw [show f 3 = false from h]; exact fun h => (by cases h)), fun _ => ⟨jd.out, hJ9.out⟩, j2.out⟩
set_option maxRecDepth 100000 in
set_option maxHeartbeats 4000000 in
theorem ls_reg (lr nr : Nat) (A : Act) (w1 : World) (Q : Exit → Act → World → Prop) (O X base : Nat) (oa : Option Addr) (len cap : Nat) (b : Int) (n m : Nat) (xs : List Value) (ns : List Int) 
    (hbo : A.tmps.getD 6 undef = .pointer (some ⟨O, 0, none⟩)) (hbx : A.tmps.getD 7 undef = .pointer (some ⟨X, 0, none⟩)) (qO : Blk w1 O #[.slice oa len cap]) (qX : Blk w1 X (rnA b n)) (own : w1.ownsRow base 5 1 (.slice oa len cap) len xs) (hco : ∀ W, Below w1.heap.size w1 W → Calls Tryz.prog 92 #[rnV b n] W fun r w' => ∃ g, r = .returned (.slice (some ⟨g, 0, none⟩) m m) ∧ RdB W w' g ns) (hns : ns.length = m) (hOb : Value.ownBlock (.slice oa len cap) ≠ some O) (hbs : base ≤ w1.heap.size) (hlm : len + m ≤ 1000000) (hN : 34 ≤ A.tmps.size)
    (h : ∀ (w : World) (e : Nat × Value), (∃ wa w2, Below w1.heap.size w1 wa ∧ wa.grownBy w2 (Value.ownBlock (.slice oa len cap)) ∧ w2.ownsRow base 5 1 e.2 (len + m) (xs ++ ns.map (Value.int .u8)) ∧ (e.2.ownBlock = Value.ownBlock (.slice oa len cap) ∨ e.2.ownBlock = some wa.heap.size) ∧ w = w2.setCell ⟨O, 0, none⟩ e.2) → Q .normal (putsA A [(30, .slice oa len cap), (31, rnV b n), (32, .slice (some ⟨e.1, 0, none⟩) m m), (33, e.2)]) w) :
    (Code.region 13 #[({ dst := some 30, op := Op.load 22 (Operand.tmp 6), type := 22, pos := "l12_rle.go:144", after := #[], guard := none } : Oper), ({ dst := some 31, op := Op.load 126 (Operand.tmp 7), type := 126, pos := "l12_rle.go:144", after := #[], guard := none } : Oper), ({ dst := some 32, op := Op.call { callee := Callee.value (Operand.func 92), args := #[Operand.tmp 31], argTypes := #[126] }, type := 22, pos := "l12_rle.go:144", after := #[{ on := 1, ground := Ground.data }], guard := none } : Oper), ({ dst := some 33, op := Op.call { callee := Callee.builtin Builtin.append, args := #[Operand.tmp 30, Operand.tmp 32], argTypes := #[22, 22] }, type := 22, pos := "l12_rle.go:144", after := #[{ on := 0, ground := Ground.data }, { on := 2, ground := Ground.data }, { on := 2, ground := Ground.chain }], guard := none } : Oper), ({ dst := none, op := Op.store 22 (Operand.tmp 6) (Operand.tmp 33), type := 0, pos := "l12_rle.go:144", after := #[{ on := 3, ground := Ground.data }, { on := 3, ground := Ground.chain }, { on := 0, ground := Ground.phase }, { on := 1, ground := Ground.phase }, { on := 2, ground := Ground.phase }, { on := 3, ground := Ground.phase }], guard := none } : Oper)] true).wpIn (Fence.wide.inRound lr) nr Tryz.prog Q A w1 := by
  show (Code.region 13 ls_O true).wpIn (Fence.wide.inRound lr) nr Tryz.prog Q A w1
  refine wp_region_slotsR (E := Nat × Value) (ls_V O X base oa len cap b n m xs ns) (ls_J w1 O X base oa len cap b n m xs ns) (by kernel_rfl) (by kernel_rfl) (by kernel_rfl) (by kernel_rfl) (fun i s hi => ?_) ?_ (0, undef) ⟨fun _ => ⟨rfl, (Below.refl _ _).drew, fun h => (by cases h)⟩, fun h => (by cases h), fun h => (by cases h)⟩ ?_
  · cases hc : ([30, 31, 32, 33] : List Nat).contains s
    · exact absurd hi (ls_no hc i)
    · have : s ∈ ([30, 31, 32, 33] : List Nat) := by simpa using hc
      simp only [List.mem_cons, List.not_mem_nil, or_false] at this
      omega
  · intro f e a w i o hi ho hun hdep hJ hFr K hK
    have hi8 : i < 5 := hi
    rcases (by omega : i = 0 ∨ i = 1 ∨ i = 2 ∨ i = 3 ∨ i = 4) with rfl | rfl | rfl | rfl | rfl
    · obtain rfl := Option.some.inj ho
      exact ls_s0 A w1 Q O X base oa len cap b n m xs ns hbo hbx qO qX own hco hns hOb hbs hlm f e a w hun hdep hJ hFr K hK
    · obtain rfl := Option.some.inj ho
      exact ls_s1 A w1 Q O X base oa len cap b n m xs ns hbo hbx qO qX own hco hns hOb hbs hlm f e a w hun hdep hJ hFr K hK
    · obtain rfl := Option.some.inj ho
      exact ls_s2 A w1 Q O X base oa len cap b n m xs ns hbo hbx qO qX own hco hns hOb hbs hlm f e a w hun hdep hJ hFr K hK
    · obtain rfl := Option.some.inj ho
      exact ls_s3 A w1 Q O X base oa len cap b n m xs ns hbo hbx qO qX own hco hns hOb hbs hlm f e a w hun hdep hJ hFr K hK
    · obtain rfl := Option.some.inj ho
      exact ls_s4 A w1 Q O X base oa len cap b n m xs ns hbo hbx qO qX own hco hns hOb hbs hlm f e a w hun hdep hJ hFr K hK
  · intro f e a w hall hJ hFr
    have := h w e (by
      obtain ⟨_, j1, _⟩ := hJ
      obtain ⟨_, wa, w2, hB, hg, how, hat, hw⟩ := j1 (hall 3 (by decide))
      rw [hall 4 (by decide)] at hw
      exact ⟨wa, w2, hB, hg, how, hat, hw⟩)
    rw [hFr.eq [(30, .slice oa len cap), (31, rnV b n), (32, .slice (some ⟨e.1, 0, none⟩) m m), (33, e.2)] (fun s hs => ?_) (fun i s hi => ?_)]
    · exact this
    · have hne : ∀ k ∈ ([30, 31, 32, 33] : List Nat), k ≠ s := by
        intro k hk e2
        subst e2
        simp only [List.mem_cons, List.not_mem_nil, or_false] at hk
        rcases hk with rfl | rfl | rfl | rfl
        · exact hs 0 rfl
        · exact hs 1 rfl
        · exact hs 2 rfl
        · exact hs 3 rfl
      simp only [lookA]
      simp [hne]
    · have hl : i < 5 := by
        rcases Nat.lt_or_ge i 5 with h1 | h1
        · exact h1
        · unfold dstAt at hi
          rw [Array.getElem?_eq_none (by exact h1)] at hi
          cases hi
      refine ⟨hall i hl, ?_⟩
      rcases (by omega : i = 0 ∨ i = 1 ∨ i = 2 ∨ i = 3 ∨ i = 4) with rfl | rfl | rfl | rfl | rfl
      all_goals first
        | (cases hi; rfl)
        | cases hi

abbrev lsAs : Code := Code.seq (.region 7 #[({ dst := some 7, op := Op.alloc 126, type := 0, pos := "l12_rle.go:137", after := #[], guard := none } : Oper), ({ dst := none, op := Op.store 126 (Operand.tmp 7) (Operand.tmp 17), type := 0, pos := "l12_rle.go:137", after := #[{ on := 0, ground := Ground.data }, { on := 0, ground := Ground.phase }], guard := none } : Oper)] false) (.region 8 #[({ dst := some 8, op := Op.assign (Operand.tmp 18), type := 75, pos := "l12_rle.go:137", after := #[], guard := none } : Oper)] false)
abbrev lsBd : Code := Code.block 1 (Code.seq (Code.seq (.region 9 #[({ dst := some 19, op := Op.move (Operand.tmp 8), type := 75, pos := "l12_rle.go:138", after := #[], guard := none } : Oper), ({ dst := some 20, op := Op.binOp BinOp.neq 75 (Operand.tmp 19) (Operand.const Value.nilIface) 75, type := 4, pos := "l12_rle.go:138", after := #[{ on := 0, ground := Ground.data }], guard := none } : Oper)] false) (.cond (.tmp 20) (Code.seq (.region 10 #[({ dst := some 21, op := Op.move (Operand.tmp 8), type := 75, pos := "l12_rle.go:139", after := #[], guard := none } : Oper), ({ dst := some 22, op := Op.call { callee := Callee.value (Operand.func 87), args := #[Operand.tmp 21], argTypes := #[75] }, type := 3, pos := "l12_rle.go:139", after := #[{ on := 0, ground := Ground.data }], guard := none } : Oper), ({ dst := none, op := Op.store 9 (Operand.tmp 4) (Operand.const (Value.string { data := #[] })), type := 0, pos := "l12_rle.go:139", after := #[{ on := 1, ground := Ground.chain }, { on := 0, ground := Ground.textOnly Departure.lateStores }, { on := 1, ground := Ground.textOnly Departure.lateStoresUnsure }], guard := none } : Oper), ({ dst := none, op := Op.store 3 (Operand.tmp 5) (Operand.tmp 22), type := 0, pos := "l12_rle.go:139", after := #[{ on := 1, ground := Ground.data }, { on := 2, ground := Ground.chain }, { on := 0, ground := Ground.phase }, { on := 1, ground := Ground.phase }, { on := 2, ground := Ground.phase }], guard := none } : Oper)] false) .ret) .skip)) (Code.seq (Code.seq (.region 11 #[({ dst := some 23, op := Op.load 22 (Operand.tmp 6), type := 22, pos := "l12_rle.go:141", after := #[], guard := none } : Oper), ({ dst := some 24, op := Op.call { callee := Callee.builtin Builtin.len, args := #[Operand.tmp 23], argTypes := #[22] }, type := 3, pos := "l12_rle.go:141", after := #[{ on := 0, ground := Ground.data }], guard := none } : Oper), ({ dst := some 25, op := Op.fieldAddr 126 (Operand.tmp 7) 1, type := 0, pos := "l12_rle.go:141", after := #[], guard := none } : Oper), ({ dst := some 26, op := Op.load 3 (Operand.tmp 25), type := 3, pos := "l12_rle.go:141", after := #[{ on := 2, ground := Ground.data }], guard := none } : Oper), ({ dst := some 27, op := Op.binOp BinOp.add 3 (Operand.tmp 24) (Operand.tmp 26) 3, type := 3, pos := "l12_rle.go:141", after := #[{ on := 1, ground := Ground.data }, { on := 3, ground := Ground.data }], guard := none } : Oper), ({ dst := some 28, op := Op.load 3 (Operand.tmp 3), type := 3, pos := "l12_rle.go:141", after := #[], guard := none } : Oper), ({ dst := some 29, op := Op.binOp BinOp.gtr 3 (Operand.tmp 27) (Operand.tmp 28) 3, type := 4, pos := "l12_rle.go:141", after := #[{ on := 4, ground := Ground.data }, { on := 5, ground := Ground.data }], guard := none } : Oper)] false) (.cond (.tmp 29) (Code.seq (.region 12 #[({ dst := none, op := Op.store 9 (Operand.tmp 4) (Operand.const (Value.string { data := #[] })), type := 0, pos := "l12_rle.go:142", after := #[], guard := none } : Oper), ({ dst := none, op := Op.store 3 (Operand.tmp 5) (Operand.const (Value.int IntKind.i64 8)), type := 0, pos := "l12_rle.go:142", after := #[{ on := 0, ground := Ground.chain }, { on := 0, ground := Ground.phase }], guard := none } : Oper)] false) .ret) .skip)) (.region 13 #[({ dst := some 30, op := Op.load 22 (Operand.tmp 6), type := 22, pos := "l12_rle.go:144", after := #[], guard := none } : Oper), ({ dst := some 31, op := Op.load 126 (Operand.tmp 7), type := 126, pos := "l12_rle.go:144", after := #[], guard := none } : Oper), ({ dst := some 32, op := Op.call { callee := Callee.value (Operand.func 92), args := #[Operand.tmp 31], argTypes := #[126] }, type := 22, pos := "l12_rle.go:144", after := #[{ on := 1, ground := Ground.data }], guard := none } : Oper), ({ dst := some 33, op := Op.call { callee := Callee.builtin Builtin.append, args := #[Operand.tmp 30, Operand.tmp 32], argTypes := #[22, 22] }, type := 22, pos := "l12_rle.go:144", after := #[{ on := 0, ground := Ground.data }, { on := 2, ground := Ground.data }, { on := 2, ground := Ground.chain }], guard := none } : Oper), ({ dst := none, op := Op.store 22 (Operand.tmp 6) (Operand.tmp 33), type := 0, pos := "l12_rle.go:144", after := #[{ on := 3, ground := Ground.data }, { on := 3, ground := Ground.chain }, { on := 0, ground := Ground.phase }, { on := 1, ground := Ground.phase }, { on := 2, ground := Ground.phase }, { on := 3, ground := Ground.phase }], guard := none } : Oper)] true)))
abbrev lsT (a0 a1 a2 a7 a8 a9 a10 a11 a12 a13 a14 a15 a16 a19 a20 a21 a22 a23 a24 a25 a26 a27 a28 a29 a30 a31 a32 a33 a34 a35 a36 a37 a38 a39 : Value) (NB RL RE O : Nat) (x y : Value) : Array Value := #[a0, a1, a2, .pointer (some ⟨NB, 0, none⟩), .pointer (some ⟨RL, 0, none⟩), .pointer (some ⟨RE, 0, none⟩), .pointer (some ⟨O, 0, none⟩), a7, a8, a9, a10, a11, a12, a13, a14, a15, a16, x, y, a19, a20, a21, a22, a23, a24, a25, a26, a27, a28, a29, a30, a31, a32, a33, a34, a35, a36, a37, a38, a39]
/-- the boxes of Expand: how many bytes, the two answers -/
structure Pe where
  NB : Nat
  RL : Nat
  RE : Nat
  N : Nat
def Pe.ks (q : Pe) : List (Nat × Array Value) := [(q.NB, #[.int .i64 (q.N : Int)]), (q.RL, #[.string ⟨#[]⟩]), (q.RE, #[.int .i64 0])]
/-- a round has left -/
structure Xg (p : Pg) (q : Pe) (W : World) (c : Int) : Prop where
  rl : Blk W q.RL #[.string ⟨#[]⟩]
  re : Blk W q.RE #[.int .i64 c]
  df : W.heap[p.DF]? = some (.deferred (some []))
  lp : W.heap[p.L]? = some (.loop { p.R with state := .done, pending := some .ret })
  bel : Below p.w.heap.size p.w W
/-- between two rounds -/
structure Se (p : Pg) (q : Pe) (e0 e1 e2 : Addr) (W : World) (cv : Value) (acc : List Int) : Prop where
  s : Sg p W cv acc
  k : p.ks = q.ks
  lr : q.RL ≠ q.RE
  er : Errs p.w e0 e1 e2
theorem Pe.mem (q : Pe) : (q.NB, #[Value.int .i64 (q.N : Int)]) ∈ q.ks ∧ (q.RL, #[Value.string ⟨#[]⟩]) ∈ q.ks ∧ (q.RE, #[Value.int .i64 0]) ∈ q.ks := by simp [Pe.ks]
section
variable {p : Pg} {q : Pe} {e0 e1 e2 : Addr} {W : World} {cv : Value} {acc : List Int}
theorem Se.nb (h : Se p q e0 e1 e2 W cv acc) : Blk W q.NB #[.int .i64 (q.N : Int)] := h.s.ks _ (by rw [h.k]; exact q.mem.1)
theorem Se.rl (h : Se p q e0 e1 e2 W cv acc) : Blk W q.RL #[.string ⟨#[]⟩] := h.s.ks _ (by rw [h.k]; exact q.mem.2.1)
theorem Se.re (h : Se p q e0 e1 e2 W cv acc) : Blk W q.RE #[.int .i64 0] := h.s.ks _ (by rw [h.k]; exact q.mem.2.2)
theorem Se.dN (h : Se p q e0 e1 e2 W cv acc) : q.NB ≠ p.O ∧ q.NB ≠ p.DF ∧ q.NB ≠ p.L := h.s.ndk _ (by rw [h.k]; exact q.mem.1)
theorem Se.dL (h : Se p q e0 e1 e2 W cv acc) : q.RL ≠ p.O ∧ q.RL ≠ p.DF ∧ q.RL ≠ p.L := h.s.ndk _ (by rw [h.k]; exact q.mem.2.1)
theorem Se.dE (h : Se p q e0 e1 e2 W cv acc) : q.RE ≠ p.O ∧ q.RE ≠ p.DF ∧ q.RE ≠ p.L := h.s.ndk _ (by rw [h.k]; exact q.mem.2.2)
theorem Se.fL (h : Se p q e0 e1 e2 W cv acc) : p.w.heap.size ≤ q.RL := h.s.far _ (p.mem.2.2.2 _ (by rw [h.k]; exact q.mem.2.1))
theorem Se.fE (h : Se p q e0 e1 e2 W cv acc) : p.w.heap.size ≤ q.RE := h.s.far _ (p.mem.2.2.2 _ (by rw [h.k]; exact q.mem.2.2))
end
/-- a round leaves -/
theorem xg_fin {p : Pg} {q : Pe} {e0 e1 e2 : Addr} {W Wb : World} {cv : Value} {acc : List Int} (h : Se p q e0 e1 e2 W cv acc) {o : Obj} (hWb : (W.alloc o).putObj p.L (.loop { p.R with state := .busy }) = Wb) (c : Int) :
    ∃ v W', (Instr.endRound p.L (some .ret)).run Tryz.prog ((Wb.setCell ⟨q.RL, 0, none⟩ (.string ⟨#[]⟩)).setCell ⟨q.RE, 0, none⟩ (.int .i64 c)) = .ok v W' ∧ v = .bool false ∧ Xg p q W' c := by
  obtain ⟨n1, n2, n3⟩ := h.s.nd
  have dL := h.dL
  have dE := h.dE
  have hlr := h.lr
  have hLlt : p.L < W.heap.size := (Array.getElem?_eq_some_iff.1 h.s.lp).1
  have hDlt := (Array.getElem?_eq_some_iff.1 h.s.df).1
  have kb : ∀ b, b < W.heap.size → b ≠ p.L → Wb.heap[b]? = W.heap[b]? := fun b hb hne => by rw [← hWb, World.putObj_heap_other (by omega)]; exact Below.heap_alloc _ _ _ hb
  have sb : Wb.heap.size = W.heap.size + 1 := by rw [← hWb]; simp [World.putObj]
  have lb : Wb.heap[p.L]? = some (.loop { p.R with state := .busy }) := by rw [← hWb]; exact World.putObj_heap_same (by simp; omega)
  have hWo : Wb.os = W.os ∧ Wb.tape = W.tape ∧ Wb.output = W.output := by rw [← hWb]; exact ⟨rfl, rfl, rfl⟩
  have qL : Blk Wb q.RL #[.string ⟨#[]⟩] := blk_sameG h.rl (kb _ h.rl.lt dL.2.2)
  have qE : Blk Wb q.RE #[.int .i64 0] := blk_sameG h.re (kb _ h.re.lt dE.2.2)
  obtain ⟨V, hV⟩ : ∃ V, (Wb.setCell ⟨q.RL, 0, none⟩ (.string ⟨#[]⟩)).setCell ⟨q.RE, 0, none⟩ (.int .i64 c) = V := ⟨_, rfl⟩
  have kV : ∀ b, b ≠ q.RL → b ≠ q.RE → V.heap[b]? = Wb.heap[b]? := fun b h1 h2 => by rw [← hV, Below.heap_setCell _ _ _ _ h2, Below.heap_setCell _ _ _ _ h1]
  have sV : V.heap.size = Wb.heap.size := by rw [← hV]; simp [World.setCell]
  have oV : V.os = W.os ∧ V.tape = W.tape ∧ V.output = W.output := by rw [← hV]; exact hWo
  have rL : Blk V q.RL #[.string ⟨#[]⟩] := by rw [← hV]; exact (qL.set 0 (.string ⟨#[]⟩)).other (p := ⟨q.RE, 0, none⟩) hlr _
  have rE : Blk V q.RE #[.int .i64 c] := by rw [← hV]; exact (qE.other (p := ⟨q.RL, 0, none⟩) (fun e => hlr e.symm) _).set 0 (.int .i64 c)
  have lV : V.heap[p.L]? = some (.loop { p.R with state := .busy }) := (kV _ (fun e => dL.2.2 e.symm) (fun e => dE.2.2 e.symm)).trans lb
  have her := run_endRound (P := Tryz.prog) (w := V) (some .ret) lV
  rw [hV]
  refine ⟨_, _, her, rfl, ?_⟩
  have po : ∀ b, b ≠ p.L → (V.putObj p.L (.loop { p.R with state := .done, pending := some .ret })).heap[b]? = V.heap[b]? := fun b hb => World.putObj_heap_other (by omega)
  have so : (V.putObj p.L (.loop { p.R with state := .done, pending := some .ret })).heap.size = V.heap.size := by simp [World.putObj]
  refine ⟨blk_sameG rL (po _ dL.2.2), blk_sameG rE (po _ dE.2.2), (po _ n3).trans ((kV _ (fun e => dL.2.1 e.symm) (fun e => dE.2.1 e.symm)).trans ((kb _ hDlt n3).trans h.s.df)), World.putObj_heap_same (by omega), ?_⟩
  have f1 := h.fL
  have f2 := h.fE
  have f3 := h.s.far _ p.mem.2.2.1
  have hbs := h.s.bel.size
  refine h.s.bel.trans ⟨oV.1, oV.2.1, oV.2.2, ?_, fun b hb => ?_⟩
  · show _ ≤ (V.putObj p.L (.loop { p.R with state := .done, pending := some .ret })).heap.size
    omega
  · exact (po b (by omega)).trans ((kV b (by omega) (by omega)).trans (kb b (by omega) (by omega)))
set_option maxRecDepth 100000 in
set_option maxHeartbeats 4000000 in
theorem ls_ok (p : Pg) (q : Pe) (e0 e1 e2 : Addr) (fn : FuncId) (a0 a1 a2 a7 a8 a9 a10 a11 a12 a13 a14 a15 a16 a19 a20 a21 a22 a23 a24 a25 a26 a27 a28 a29 a30 a31 a32 a33 a34 a35 a36 a37 a38 a39 x0 y0 : Value) (hR : p.R = { state := .ready, pending := none, fn := fn, tmps := lsT a0 a1 a2 a7 a8 a9 a10 a11 a12 a13 a14 a15 a16 a19 a20 a21 a22 a23 a24 a25 a26 a27 a28 a29 a30 a31 a32 a33 a34 a35 a36 a37 a38 a39 q.NB q.RL q.RE p.O x0 y0, params := #[17, 18], assign := lsAs, body := lsBd, defers := p.DF }) (hN : q.N ≤ 4096) (m : Nat) {W : World} {cv : Value} {acc : List Int} (b : Int) (n : Nat) (h : Se p q e0 e1 e2 W cv acc) (hn : n ≤ 255) (hle : acc.length + n ≤ q.N) : YieldAt Fence.wide m Tryz.prog p.L #[rnV b n, .nilIface] W fun e W' => e = .returned (.bool true) ∧ ∃ v', Se p q e0 e1 e2 W' v' (acc ++ List.replicate n b) ∧ Kp p.bs W cv W' v' := by
  refine YieldAt.any (k := 2) ?_
  obtain ⟨oa, ocap, hcv⟩ := h.s.form
  obtain ⟨m1, m2, m3, m4⟩ := p.mem
  have hLp := h.s.lp
  have hLlt : p.L < W.heap.size := (Array.getElem?_eq_some_iff.1 hLp).1
  have hy := run_yield (P := Tryz.prog) (args := #[rnV b n, .nilIface]) hLp (by rw [hR]; rfl)
  rw [hR] at hy
  have e : Array.foldl (fun (tmps : Array Value) (x : Tmp × Value) => match x with | (t, a) => tmps.setIfInBounds t a) (lsT a0 a1 a2 a7 a8 a9 a10 a11 a12 a13 a14 a15 a16 a19 a20 a21 a22 a23 a24 a25 a26 a27 a28 a29 a30 a31 a32 a33 a34 a35 a36 a37 a38 a39 q.NB q.RL q.RE p.O x0 y0) ((#[17, 18] : Array Tmp).zip #[rnV b n, .nilIface]) = lsT a0 a1 a2 a7 a8 a9 a10 a11 a12 a13 a14 a15 a16 a19 a20 a21 a22 a23 a24 a25 a26 a27 a28 a29 a30 a31 a32 a33 a34 a35 a36 a37 a38 a39 q.NB q.RL q.RE p.O (rnV b n) .nilIface := by simp
  dsimp only at hy
  rw [e] at hy
  clear e
  refine ⟨fn, _, lsAs, lsBd, hy, roundIn_of_wpIn (F := Fence.wide) trivial ?_⟩
  clear hy
  have w1L : (W.alloc (.cells (rnA b n) 126)).heap[p.L]? = some (.loop p.R) := (Below.heap_alloc _ _ _ hLlt).trans hLp
  have hbr := run_beginRound (P := Tryz.prog) w1L (by rw [hR])
  obtain ⟨Wb, hWb⟩ : ∃ Wb, (W.alloc (.cells (rnA b n) 126)).putObj p.L (.loop { p.R with state := .busy }) = Wb := ⟨_, rfl⟩
  rw [hWb] at hbr
  have kb : ∀ b, b < W.heap.size → b ≠ p.L → Wb.heap[b]? = W.heap[b]? := fun b hb hne => by rw [← hWb, World.putObj_heap_other (by omega)]; exact Below.heap_alloc _ _ _ hb
  have sb : Wb.heap.size = W.heap.size + 1 := by rw [← hWb]; simp [World.putObj]
  have qX : Blk Wb W.heap.size (rnA b n) := by
    refine blk_sameG (Blk.new W (rnA b n) 126) ?_
    rw [← hWb, World.putObj_heap_other (by omega)]
  have qO : Blk Wb p.O #[cv] := blk_sameG h.s.o (kb _ h.s.o.lt h.s.nd.2.1)
  have qN : Blk Wb q.NB #[.int .i64 (q.N : Int)] := blk_sameG h.nb (kb _ h.nb.lt h.dN.2.2)
  have qL : Blk Wb q.RL #[.string ⟨#[]⟩] := blk_sameG h.rl (kb _ h.rl.lt h.dL.2.2)
  have qE : Blk Wb q.RE #[.int .i64 0] := blk_sameG h.re (kb _ h.re.lt h.dE.2.2)
  have hfin : Hid (∀ (wa w2 : World) (v' : Value), Below Wb.heap.size Wb wa → wa.grownBy w2 cv.ownBlock → w2.ownsRow p.w.heap.size 5 1 v' (acc.length + n) (acc.map (Value.int .u8) ++ (List.replicate n b).map (Value.int .u8)) → (v'.ownBlock = cv.ownBlock ∨ v'.ownBlock = some wa.heap.size) → ∃ vv W', (Instr.endRound p.L none).run Tryz.prog (w2.setCell ⟨p.O, 0, none⟩ v') = .ok vv W' ∧ vv = .bool true ∧ Se p q e0 e1 e2 W' v' (acc ++ List.replicate n b) ∧ Kp p.bs W cv W' v') := fun wa w2 v' hB hg ho hat => by
    obtain ⟨vv, W', c1, c2, c3, c4⟩ := h.s.fin ⟨by rw [hR], by rw [hR]⟩ (List.replicate n b) hWb hB hg (by rw [List.length_replicate]; exact ho) hat
    exact ⟨vv, W', c1, c2, ⟨c3, h.k, h.lr, h.er⟩, c4⟩
  have own1 : Wb.ownsRow p.w.heap.size 5 1 cv acc.length (acc.map (Value.int .u8)) := own_sameV h.s.own (by omega) (fun g e => kb g (h.s.own.lt g e).2 (fun e2 => h.s.ne g e (e2 ▸ m3)))
  have hOb : cv.ownBlock ≠ some p.O := fun e => h.s.ne _ e m1
  have hco := hid (fun X (hX : Below Wb.heap.size Wb X) => unpacked_impl b n X hn)
  have hbase : p.w.heap.size ≤ Wb.heap.size := by have := h.s.bel.size; omega
  have x1 := qO.cell
  have l1 := qO.lt
  have x2 := qN.cell
  have l2 := qN.lt
  have x3 := qX.cell
  have l3 := qX.lt
  have hXn : Hid (Blk Wb W.heap.size (rnA b n)) := qX
  have hOn : Hid (Blk Wb p.O #[cv]) := qO
  replace hbr := hid hbr
  replace h := hid h
  replace hR := hid hR
  clear hLp w1L hWb kb sb hLlt m1 m2 m3 m4 qX qO qN qL qE
  obtain ⟨len, hl⟩ : ∃ k, acc.length = k := ⟨_, rfl⟩
  rw [hl] at hfin own1 hcv hle
  subst hcv
  clear hl
  have own2 := hid own1
  obtain ⟨s, hs⟩ : ∃ s : Nat, len + n = s := ⟨_, rfl⟩
  have hsI : (len : Int) + (n : Int) = (s : Int) := by omega
  have hsw : IntKind.i64.wrap (s : Int) = (s : Int) := by rw [IntKind.wrap_i64]; omega
  have hsN : ¬ (q.N : Int) < (s : Int) := by omega
  have hlm : len + n ≤ 1000000 := by omega
  clear hs own1
  dsimp only [lsAs, lsBd, lsT]
  gi_wp2
  refine ⟨_, hbr.out, ?_⟩
  gi_wp2
  refine ls_reg _ _ _ Wb _ p.O W.heap.size p.w.heap.size oa len ocap b n n (acc.map (Value.int .u8)) (List.replicate n b) rfl rfl hOn.out hXn.out own2.out (fun X hX => hco.out X hX) (by simp) hOb hbase hlm (by simp) ?_
  rintro w9 e9 ⟨wa, w2, hB, hg, ho, hat, rfl⟩
  obtain ⟨vv, W9, hend, hvv, hC⟩ := hfin.out wa w2 e9.2 hB hg ho hat
  simp only [putsA, Act.put, List.setIfInBounds_toArray, List.set_cons_zero, List.set_cons_succ]
  clear hfin hB hg ho hat hco
  exact ⟨vv, W9, hend, by rw [hvv], _, hC⟩
set_option maxRecDepth 100000 in
set_option maxHeartbeats 4000000 in
theorem ls_big (p : Pg) (q : Pe) (e0 e1 e2 : Addr) (fn : FuncId) (a0 a1 a2 a7 a8 a9 a10 a11 a12 a13 a14 a15 a16 a19 a20 a21 a22 a23 a24 a25 a26 a27 a28 a29 a30 a31 a32 a33 a34 a35 a36 a37 a38 a39 x0 y0 : Value) (hR : p.R = { state := .ready, pending := none, fn := fn, tmps := lsT a0 a1 a2 a7 a8 a9 a10 a11 a12 a13 a14 a15 a16 a19 a20 a21 a22 a23 a24 a25 a26 a27 a28 a29 a30 a31 a32 a33 a34 a35 a36 a37 a38 a39 q.NB q.RL q.RE p.O x0 y0, params := #[17, 18], assign := lsAs, body := lsBd, defers := p.DF }) (hN : q.N ≤ 4096) (m : Nat) {W : World} {cv : Value} {acc : List Int} (b : Int) (n : Nat) (h : Se p q e0 e1 e2 W cv acc) (hn : n ≤ 255) (hal : acc.length ≤ q.N) (hle : q.N < acc.length + n) : YieldAt Fence.wide m Tryz.prog p.L #[rnV b n, .nilIface] W fun e W' => e = .returned (.bool false) ∧ Xg p q W' 8 := by
  refine YieldAt.any (k := 2) ?_
  obtain ⟨oa, ocap, hcv⟩ := h.s.form
  have hLp := h.s.lp
  have hLlt : p.L < W.heap.size := (Array.getElem?_eq_some_iff.1 hLp).1
  have hy := run_yield (P := Tryz.prog) (args := #[rnV b n, .nilIface]) hLp (by rw [hR]; rfl)
  rw [hR] at hy
  have e : Array.foldl (fun (tmps : Array Value) (x : Tmp × Value) => match x with | (t, a) => tmps.setIfInBounds t a) (lsT a0 a1 a2 a7 a8 a9 a10 a11 a12 a13 a14 a15 a16 a19 a20 a21 a22 a23 a24 a25 a26 a27 a28 a29 a30 a31 a32 a33 a34 a35 a36 a37 a38 a39 q.NB q.RL q.RE p.O x0 y0) ((#[17, 18] : Array Tmp).zip #[rnV b n, .nilIface]) = lsT a0 a1 a2 a7 a8 a9 a10 a11 a12 a13 a14 a15 a16 a19 a20 a21 a22 a23 a24 a25 a26 a27 a28 a29 a30 a31 a32 a33 a34 a35 a36 a37 a38 a39 q.NB q.RL q.RE p.O (rnV b n) .nilIface := by simp
  dsimp only at hy
  rw [e] at hy
  clear e
  refine ⟨fn, _, lsAs, lsBd, hy, roundIn_of_wpIn (F := Fence.wide) trivial ?_⟩
  clear hy
  have w1L : (W.alloc (.cells (rnA b n) 126)).heap[p.L]? = some (.loop p.R) := (Below.heap_alloc _ _ _ hLlt).trans hLp
  have hbr := run_beginRound (P := Tryz.prog) w1L (by rw [hR])
  obtain ⟨Wb, hWb⟩ : ∃ Wb, (W.alloc (.cells (rnA b n) 126)).putObj p.L (.loop { p.R with state := .busy }) = Wb := ⟨_, rfl⟩
  rw [hWb] at hbr
  have kb : ∀ b, b < W.heap.size → b ≠ p.L → Wb.heap[b]? = W.heap[b]? := fun b hb hne => by rw [← hWb, World.putObj_heap_other (by omega)]; exact Below.heap_alloc _ _ _ hb
  have sb : Wb.heap.size = W.heap.size + 1 := by rw [← hWb]; simp [World.putObj]
  have qX : Blk Wb W.heap.size (rnA b n) := by
    refine blk_sameG (Blk.new W (rnA b n) 126) ?_
    rw [← hWb, World.putObj_heap_other (by omega)]
  have qO : Blk Wb p.O #[cv] := blk_sameG h.s.o (kb _ h.s.o.lt h.s.nd.2.1)
  have qN : Blk Wb q.NB #[.int .i64 (q.N : Int)] := blk_sameG h.nb (kb _ h.nb.lt h.dN.2.2)
  have qL : Blk Wb q.RL #[.string ⟨#[]⟩] := blk_sameG h.rl (kb _ h.rl.lt h.dL.2.2)
  have qE : Blk Wb q.RE #[.int .i64 0] := blk_sameG h.re (kb _ h.re.lt h.dE.2.2)
  have hfin := hid (xg_fin h hWb 8)
  have x1 := qO.cell
  have l1 := qO.lt
  have x2 := qN.cell
  have l2 := qN.lt
  have x3 := qX.cell
  have l3 := qX.lt
  have x4 := qL.cell
  have y4 := qL.frozen
  have l4 := qL.lt
  have x5 := qE.cell
  have y5 := qE.frozen
  have l5 := qE.lt
  have hne : ¬ q.RL = q.RE := h.lr
  have hne2 : ¬ q.RE = q.RL := fun e => h.lr e.symm
  replace hbr := hid hbr
  replace h := hid h
  replace hR := hid hR
  clear hLp w1L hWb kb sb hLlt qX qO qN qL qE
  obtain ⟨len, hl⟩ : ∃ k, acc.length = k := ⟨_, rfl⟩
  rw [hl] at hcv hle hal
  subst hcv
  clear hl
  obtain ⟨s, hs⟩ : ∃ s : Nat, len + n = s := ⟨_, rfl⟩
  have hsI : (len : Int) + (n : Int) = (s : Int) := by omega
  have hsw : IntKind.i64.wrap (s : Int) = (s : Int) := by rw [IntKind.wrap_i64]; omega
  have hsN : (q.N : Int) < (s : Int) := by omega
  clear hs
  dsimp only [lsAs, lsBd, lsT]
  gi_wp2
  refine ⟨_, hbr.out, ?_⟩
  gi_wp2
  obtain ⟨v, W9, hend, hvv, hC⟩ := hfin.out
  exact ⟨v, W9, hend, by rw [hvv], hC⟩
set_option maxRecDepth 100000 in
set_option maxHeartbeats 4000000 in
theorem ls_cut (p : Pg) (q : Pe) (e0 e1 e2 : Addr) (fn : FuncId) (a0 a1 a2 a7 a8 a9 a10 a11 a12 a13 a14 a15 a16 a19 a20 a21 a22 a23 a24 a25 a26 a27 a28 a29 a30 a31 a32 a33 a34 a35 a36 a37 a38 a39 x0 y0 : Value) (hR : p.R = { state := .ready, pending := none, fn := fn, tmps := lsT a0 a1 a2 a7 a8 a9 a10 a11 a12 a13 a14 a15 a16 a19 a20 a21 a22 a23 a24 a25 a26 a27 a28 a29 a30 a31 a32 a33 a34 a35 a36 a37 a38 a39 q.NB q.RL q.RE p.O x0 y0, params := #[17, 18], assign := lsAs, body := lsBd, defers := p.DF }) (m : Nat) {W : World} {cv : Value} {acc : List Int} (h : Se p q e0 e1 e2 W cv acc) : YieldAt Fence.wide m Tryz.prog p.L #[rn0, iX e2] W fun e W' => e = .returned (.bool false) ∧ Xg p q W' 9 := by
  refine YieldAt.any (k := 2) ?_
  obtain ⟨oa, ocap, hcv⟩ := h.s.form
  have hLp := h.s.lp
  have hLlt : p.L < W.heap.size := (Array.getElem?_eq_some_iff.1 hLp).1
  have hy := run_yield (P := Tryz.prog) (args := #[rn0, iX e2]) hLp (by rw [hR]; rfl)
  rw [hR] at hy
  have e : Array.foldl (fun (tmps : Array Value) (x : Tmp × Value) => match x with | (t, a) => tmps.setIfInBounds t a) (lsT a0 a1 a2 a7 a8 a9 a10 a11 a12 a13 a14 a15 a16 a19 a20 a21 a22 a23 a24 a25 a26 a27 a28 a29 a30 a31 a32 a33 a34 a35 a36 a37 a38 a39 q.NB q.RL q.RE p.O x0 y0) ((#[17, 18] : Array Tmp).zip #[rn0, iX e2]) = lsT a0 a1 a2 a7 a8 a9 a10 a11 a12 a13 a14 a15 a16 a19 a20 a21 a22 a23 a24 a25 a26 a27 a28 a29 a30 a31 a32 a33 a34 a35 a36 a37 a38 a39 q.NB q.RL q.RE p.O rn0 (iX e2) := by simp
  dsimp only at hy
  rw [e] at hy
  clear e
  refine ⟨fn, _, lsAs, lsBd, hy, roundIn_of_wpIn (F := Fence.wide) trivial ?_⟩
  clear hy
  have w1L : (W.alloc (.cells (#[.int .u8 0, .int .i64 0]) 126)).heap[p.L]? = some (.loop p.R) := (Below.heap_alloc _ _ _ hLlt).trans hLp
  have hbr := run_beginRound (P := Tryz.prog) w1L (by rw [hR])
  obtain ⟨Wb, hWb⟩ : ∃ Wb, (W.alloc (.cells (#[.int .u8 0, .int .i64 0]) 126)).putObj p.L (.loop { p.R with state := .busy }) = Wb := ⟨_, rfl⟩
  rw [hWb] at hbr
  have kb : ∀ b, b < W.heap.size → b ≠ p.L → Wb.heap[b]? = W.heap[b]? := fun b hb hne => by rw [← hWb, World.putObj_heap_other (by omega)]; exact Below.heap_alloc _ _ _ hb
  have sb : Wb.heap.size = W.heap.size + 1 := by rw [← hWb]; simp [World.putObj]
  have qX : Blk Wb W.heap.size (#[.int .u8 0, .int .i64 0]) := by
    refine blk_sameG (Blk.new W (#[.int .u8 0, .int .i64 0]) 126) ?_
    rw [← hWb, World.putObj_heap_other (by omega)]
  have qO : Blk Wb p.O #[cv] := blk_sameG h.s.o (kb _ h.s.o.lt h.s.nd.2.1)
  have qN : Blk Wb q.NB #[.int .i64 (q.N : Int)] := blk_sameG h.nb (kb _ h.nb.lt h.dN.2.2)
  have qL : Blk Wb q.RL #[.string ⟨#[]⟩] := blk_sameG h.rl (kb _ h.rl.lt h.dL.2.2)
  have qE : Blk Wb q.RE #[.int .i64 0] := blk_sameG h.re (kb _ h.re.lt h.dE.2.2)
  have hfin := hid (xg_fin h hWb 9)
  have hEb : Errs Wb e0 e1 e2 := by
    have f3 := h.s.far _ p.mem.2.2.1
    have hbs := h.s.bel.size
    refine h.er.below ⟨?_, ?_, ?_, by omega, fun b hb => (kb b (by omega) (by omega)).trans (h.s.bel.block b hb)⟩
    · rw [← hWb]; exact h.s.bel.os
    · rw [← hWb]; exact h.s.bel.tape
    · rw [← hWb]; exact h.s.bel.output
  have hTC : Hid (Calls Tryz.prog 87 #[iX e2] Wb fun e w' => e = .returned (.int .i64 9) ∧ w' = Wb) := takeCode_any e0 e1 e2 9 Wb hEb (by omega)
  have x4 := qL.cell
  have y4 := qL.frozen
  have l4 := qL.lt
  have x5 := qE.cell
  have y5 := qE.frozen
  have l5 := qE.lt
  have hne : ¬ q.RL = q.RE := h.lr
  have hne2 : ¬ q.RE = q.RL := fun e => h.lr e.symm
  replace hbr := hid hbr
  replace h := hid h
  replace hR := hid hR
  clear hLp w1L hWb kb sb hLlt qX qO qN qL qE hEb
  subst hcv
  dsimp only [lsAs, lsBd, lsT]
  gi_wp2
  refine ⟨_, hbr.out, ?_⟩
  gi_wp2_with (refine ⟨trivial, ?_⟩; gi_at_call 87; refine (CallsIn.inRound _ (callsIn_wide.2 hTC.out)).mono ?_; rintro e w' ⟨rfl, hww⟩; obtain rfl := hww.symm)
  obtain ⟨v, W9, hend, hvv, hC⟩ := hfin.out
  exact ⟨v, W9, hend, by rw [hvv], hC⟩
end Go.Proofs.YtghcagibdcblnaaGreatDoor
