/- A run that is packed goes behind what was gathered: Compress's round. -/
import Derived.Test.YtghcagibdcblnaaGreatDoorF26
import Derived.Test.YtghcagibdcblnaaGreatDoorF29
namespace Go.Proofs.YtghcagibdcblnaaGreatDoor
open Go.ChangeShapes Go.WideShapes Go.ChangeAt Go.RowKit Go.Shelf
set_option linter.unusedVariables false
set_option linter.unusedSimpArgs false

def lm_V (O X base : Nat) (oa : Option Addr) (len cap : Nat) (b : Int) (n m : Nat) (xs : List Value) (ns : List Int) : Nat → Nat × Value → Value := fun i e => match i with
  | 0 => .slice oa len cap
  | 1 => rnV b n
  | 2 => .slice (some ⟨e.1, 0, none⟩) m m
  | 3 => e.2
  | _ => undef
def lm_J (w1 : World) (O X base : Nat) (oa : Option Addr) (len cap : Nat) (b : Int) (n m : Nat) (xs : List Value) (ns : List Int) (f : Nat → Bool) (e : Nat × Value) (w : World) : Prop :=
  (f 3 = false → f 4 = false ∧ Below w1.heap.size w1 w ∧ (f 2 = true → RdB w1 w e.1 ns)) ∧ (f 3 = true → (f 0 = true ∧ f 1 = true ∧ f 2 = true) ∧ ∃ wa w2, Below w1.heap.size w1 wa ∧ wa.grownBy w2 (Value.ownBlock (.slice oa len cap)) ∧ w2.ownsRow base 5 1 e.2 (len + m) (xs ++ ns.map (Value.int .u8)) ∧ (e.2.ownBlock = Value.ownBlock (.slice oa len cap) ∨ e.2.ownBlock = some wa.heap.size) ∧ w = (bif f 4 then w2.setCell ⟨O, 0, none⟩ e.2 else w2)) ∧ (f 2 = true → f 1 = true)
def lm_o0 : Oper := ({ dst := some 15, op := Op.load 22 (Operand.tmp 4), type := 22, pos := "l12_rle.go:123", after := #[], guard := none } : Oper)
def lm_o1 : Oper := ({ dst := some 16, op := Op.load 126 (Operand.tmp 5), type := 126, pos := "l12_rle.go:123", after := #[], guard := none } : Oper)
def lm_o2 : Oper := ({ dst := some 17, op := Op.call { callee := Callee.value (Operand.func 84), args := #[Operand.tmp 16], argTypes := #[126] }, type := 22, pos := "l12_rle.go:123", after := #[{ on := 1, ground := Ground.data }], guard := none } : Oper)
def lm_o3 : Oper := ({ dst := some 18, op := Op.call { callee := Callee.builtin Builtin.append, args := #[Operand.tmp 15, Operand.tmp 17], argTypes := #[22, 22] }, type := 22, pos := "l12_rle.go:123", after := #[{ on := 0, ground := Ground.data }, { on := 2, ground := Ground.data }, { on := 2, ground := Ground.chain }], guard := none } : Oper)
def lm_o4 : Oper := ({ dst := none, op := Op.store 22 (Operand.tmp 4) (Operand.tmp 18), type := 0, pos := "l12_rle.go:123", after := #[{ on := 3, ground := Ground.data }, { on := 3, ground := Ground.chain }, { on := 0, ground := Ground.phase }, { on := 1, ground := Ground.phase }, { on := 2, ground := Ground.phase }, { on := 3, ground := Ground.phase }], guard := none } : Oper)
def lm_O : Array Oper := #[lm_o0, lm_o1, lm_o2, lm_o3, lm_o4]
theorem lm_no {s : Nat} (h : ([15, 16, 17, 18] : List Nat).contains s = false) : ∀ i, dstAt lm_O i ≠ some s := by
  intro i hi
  have hl : i < 5 := by
    rcases Nat.lt_or_ge i 5 with h1 | h1
    · exact h1
    · unfold dstAt at hi
      rw [Array.getElem?_eq_none (by exact h1)] at hi
      cases hi
  rcases (by omega : i = 0 ∨ i = 1 ∨ i = 2 ∨ i = 3 ∨ i = 4) with rfl | rfl | rfl | rfl | rfl
  all_goals first
    | (cases hi; simp at h)
    | cases hi
theorem lm_keep2 (O X base : Nat) (oa : Option Addr) (len cap : Nat) (b : Int) (n m : Nat) (xs : List Value) (ns : List Int) {f : Nat → Bool} (e : Nat × Value) (g : Nat) (hn : f 2 = false) (hm : f 3 = false) : ∀ j, f j = true → lm_V O X base oa len cap b n m xs ns j (g, e.2) = lm_V O X base oa len cap b n m xs ns j e := by
  intro j hj
  unfold lm_V
  split
  · rfl
  · rfl
  · rw [hn] at hj; cases hj
  · rfl
  · rfl
theorem lm_keep3 (O X base : Nat) (oa : Option Addr) (len cap : Nat) (b : Int) (n m : Nat) (xs : List Value) (ns : List Int) {f : Nat → Bool} (e : Nat × Value) (v : Value) (hn : f 3 = false) : ∀ j, f j = true → lm_V O X base oa len cap b n m xs ns j (e.1, v) = lm_V O X base oa len cap b n m xs ns j e := by
  intro j hj
  unfold lm_V
  split
  · rfl
  · rfl
  · rfl
  · rw [hn] at hj; cases hj
  · rfl
set_option maxRecDepth 100000 in
set_option maxHeartbeats 2000000 in
theorem lm_s0 (A : Act) (w1 : World) (Q : Exit → Act → World → Prop) (O X base : Nat) (oa : Option Addr) (len cap : Nat) (b : Int) (n m : Nat) (xs : List Value) (ns : List Int) 
    (hbo : A.tmps.getD 4 undef = .pointer (some ⟨O, 0, none⟩)) (hbx : A.tmps.getD 5 undef = .pointer (some ⟨X, 0, none⟩)) (qO : Blk w1 O #[.slice oa len cap]) (qX : Blk w1 X (rnA b n)) (own : w1.ownsRow base 5 1 (.slice oa len cap) len xs) (hco : ∀ W, Below w1.heap.size w1 W → Calls Tryz.prog 84 #[rnV b n] W fun r w' => ∃ g, r = .returned (.slice (some ⟨g, 0, none⟩) m m) ∧ RdB W w' g ns) (hns : ns.length = m) (hOb : Value.ownBlock (.slice oa len cap) ≠ some O) (hbs : base ≤ w1.heap.size) (hlm : len + m ≤ 1000000)
    (f : Nat → Bool) (e : Nat × Value) (a : Act) (w : World) (hun : f 0 = false) (hdep : ∀ d ∈ lm_o0.after, Region.binds .any d = true → f d.on = true) (hJ : lm_J w1 O X base oa len cap b n m xs ns f e w) (hFr : Fr lm_O A f (fun j => lm_V O X base oa len cap b n m xs ns j e) a)
    (K : Act → World → Prop) (hK : Hid (∀ v e' w', v = lm_V O X base oa len cap b n m xs ns 0 e' → (∀ j, f j = true → lm_V O X base oa len cap b n m xs ns j e' = lm_V O X base oa len cap b n m xs ns j e) → lm_J w1 O X base oa len cap b n m xs ns (fun j => j == 0 || f j) e' w' → K (a.put lm_o0.dst v) w')) :
    if Region.wanted lm_o0 (yielded lm_O a.tmps) = true then Oper.wp Tryz.prog lm_o0 a w K Q else K (a.put lm_o0.dst undef) w := by
  unfold lm_o0 at hdep hK ⊢
  have hK9 := hK
  obtain ⟨j0, j1, j2⟩ := hJ
  have f3 : f 3 = false := by
    cases h3 : f 3
    · rfl
    · have := (j1 h3).1
      rw [hun] at this
      simp at this
  obtain ⟨f4, hB, jr⟩ := j0 f3
  have v4 := (hFr.old 4 (lm_no (by decide))).trans hbo
  have xO := (qO.below hB qO.lt).cell
  replace hB := hid hB
  replace jr := hid jr
  replace j2 := hid j2
  replace qO := hid qO
  replace qX := hid qX
  replace own := hid own
  replace hco := hid hco
  replace f3 := hid f3
  replace f4 := hid f4
  clear hdep hFr hbo hbx j0 j1
  go_simp
  exact hK9.out _ e _ rfl (fun _ _ => rfl) ⟨fun _ => ⟨f4.out, hB.out, jr.out⟩, fun h => absurd (show f 3 = true from h) (by rw [f3.out]; exact fun h => (by cases h)), j2.out⟩
set_option maxRecDepth 100000 in
set_option maxHeartbeats 2000000 in
theorem lm_s1 (A : Act) (w1 : World) (Q : Exit → Act → World → Prop) (O X base : Nat) (oa : Option Addr) (len cap : Nat) (b : Int) (n m : Nat) (xs : List Value) (ns : List Int) 
    (hbo : A.tmps.getD 4 undef = .pointer (some ⟨O, 0, none⟩)) (hbx : A.tmps.getD 5 undef = .pointer (some ⟨X, 0, none⟩)) (qO : Blk w1 O #[.slice oa len cap]) (qX : Blk w1 X (rnA b n)) (own : w1.ownsRow base 5 1 (.slice oa len cap) len xs) (hco : ∀ W, Below w1.heap.size w1 W → Calls Tryz.prog 84 #[rnV b n] W fun r w' => ∃ g, r = .returned (.slice (some ⟨g, 0, none⟩) m m) ∧ RdB W w' g ns) (hns : ns.length = m) (hOb : Value.ownBlock (.slice oa len cap) ≠ some O) (hbs : base ≤ w1.heap.size) (hlm : len + m ≤ 1000000)
    (f : Nat → Bool) (e : Nat × Value) (a : Act) (w : World) (hun : f 1 = false) (hdep : ∀ d ∈ lm_o1.after, Region.binds .any d = true → f d.on = true) (hJ : lm_J w1 O X base oa len cap b n m xs ns f e w) (hFr : Fr lm_O A f (fun j => lm_V O X base oa len cap b n m xs ns j e) a)
    (K : Act → World → Prop) (hK : Hid (∀ v e' w', v = lm_V O X base oa len cap b n m xs ns 1 e' → (∀ j, f j = true → lm_V O X base oa len cap b n m xs ns j e' = lm_V O X base oa len cap b n m xs ns j e) → lm_J w1 O X base oa len cap b n m xs ns (fun j => j == 1 || f j) e' w' → K (a.put lm_o1.dst v) w')) :
    if Region.wanted lm_o1 (yielded lm_O a.tmps) = true then Oper.wp Tryz.prog lm_o1 a w K Q else K (a.put lm_o1.dst undef) w := by
  unfold lm_o1 at hdep hK ⊢
  have hK9 := hK
  obtain ⟨j0, j1, j2⟩ := hJ
  have f3 : f 3 = false := by
    cases h3 : f 3
    · rfl
    · have := (j1 h3).1
      rw [hun] at this
      simp at this
  obtain ⟨f4, hB, jr⟩ := j0 f3
  have v5 := (hFr.old 5 (lm_no (by decide))).trans hbx
  have xX := (qX.below hB qX.lt).cell
  replace hB := hid hB
  replace jr := hid jr
  replace j2 := hid j2
  replace qO := hid qO
  replace qX := hid qX
  replace own := hid own
  replace hco := hid hco
  replace f3 := hid f3
  replace f4 := hid f4
  clear hdep hFr hbo hbx j0 j1
  go_simp
  exact hK9.out _ e _ rfl (fun _ _ => rfl) ⟨fun _ => ⟨f4.out, hB.out, jr.out⟩, fun h => absurd (show f 3 = true from h) (by rw [f3.out]; exact fun h => (by cases h)), fun _ => rfl⟩
set_option maxRecDepth 100000 in
set_option maxHeartbeats 2000000 in
theorem lm_s2 (A : Act) (w1 : World) (Q : Exit → Act → World → Prop) (O X base : Nat) (oa : Option Addr) (len cap : Nat) (b : Int) (n m : Nat) (xs : List Value) (ns : List Int) 
    (hbo : A.tmps.getD 4 undef = .pointer (some ⟨O, 0, none⟩)) (hbx : A.tmps.getD 5 undef = .pointer (some ⟨X, 0, none⟩)) (qO : Blk w1 O #[.slice oa len cap]) (qX : Blk w1 X (rnA b n)) (own : w1.ownsRow base 5 1 (.slice oa len cap) len xs) (hco : ∀ W, Below w1.heap.size w1 W → Calls Tryz.prog 84 #[rnV b n] W fun r w' => ∃ g, r = .returned (.slice (some ⟨g, 0, none⟩) m m) ∧ RdB W w' g ns) (hns : ns.length = m) (hOb : Value.ownBlock (.slice oa len cap) ≠ some O) (hbs : base ≤ w1.heap.size) (hlm : len + m ≤ 1000000)
    (f : Nat → Bool) (e : Nat × Value) (a : Act) (w : World) (hun : f 2 = false) (hdep : ∀ d ∈ lm_o2.after, Region.binds .any d = true → f d.on = true) (hJ : lm_J w1 O X base oa len cap b n m xs ns f e w) (hFr : Fr lm_O A f (fun j => lm_V O X base oa len cap b n m xs ns j e) a)
    (K : Act → World → Prop) (hK : Hid (∀ v e' w', v = lm_V O X base oa len cap b n m xs ns 2 e' → (∀ j, f j = true → lm_V O X base oa len cap b n m xs ns j e' = lm_V O X base oa len cap b n m xs ns j e) → lm_J w1 O X base oa len cap b n m xs ns (fun j => j == 2 || f j) e' w' → K (a.put lm_o2.dst v) w')) :
    if Region.wanted lm_o2 (yielded lm_O a.tmps) = true then Oper.wp Tryz.prog lm_o2 a w K Q else K (a.put lm_o2.dst undef) w := by
  unfold lm_o2 at hdep hK ⊢
  have hK9 := hK
  obtain ⟨j0, j1, j2⟩ := hJ
  have f3 : f 3 = false := by
    cases h3 : f 3
    · rfl
    · have := (j1 h3).1
      rw [hun] at this
      simp at this
  obtain ⟨f4, hB, jr⟩ := j0 f3
  have k1 : f 1 = true := hdep { on := 1, ground := .data } (by simp) rfl
  have v16 : a.tmps.getD 16 undef = rnV b n := hFr.new 1 16 rfl k1
  replace k1 := hid k1
  replace hB := hid hB
  replace jr := hid jr
  replace j2 := hid j2
  replace qO := hid qO
  replace qX := hid qX
  replace own := hid own
  replace hco := hid hco
  replace f3 := hid f3
  replace f4 := hid f4
  clear hdep hFr hbo hbx j0 j1
  go_simp
  go_at_call 84
  refine (hco.out w hB.out).mono ?_
  rintro r w' ⟨g, rfl, hR⟩
  replace hR := hid hR
  go_simp
  exact hK9.out _ (g, e.2) _ rfl (lm_keep2 O X base oa len cap b n m xs ns e g hun f3.out) ⟨fun _ => ⟨f4.out, hB.out.trans (hR.out.bel.mono hB.out.size), fun _ => ⟨hB.out.trans (hR.out.bel.mono hB.out.size), Nat.le_trans hB.out.size hR.out.far, hR.out.holds⟩⟩, fun h => absurd (show f 3 = true from h) (by rw [f3.out]; exact fun h => (by cases h)), fun _ => k1.out⟩
set_option maxRecDepth 100000 in
set_option maxHeartbeats 2000000 in
theorem lm_s3 (A : Act) (w1 : World) (Q : Exit → Act → World → Prop) (O X base : Nat) (oa : Option Addr) (len cap : Nat) (b : Int) (n m : Nat) (xs : List Value) (ns : List Int) 
    (hbo : A.tmps.getD 4 undef = .pointer (some ⟨O, 0, none⟩)) (hbx : A.tmps.getD 5 undef = .pointer (some ⟨X, 0, none⟩)) (qO : Blk w1 O #[.slice oa len cap]) (qX : Blk w1 X (rnA b n)) (own : w1.ownsRow base 5 1 (.slice oa len cap) len xs) (hco : ∀ W, Below w1.heap.size w1 W → Calls Tryz.prog 84 #[rnV b n] W fun r w' => ∃ g, r = .returned (.slice (some ⟨g, 0, none⟩) m m) ∧ RdB W w' g ns) (hns : ns.length = m) (hOb : Value.ownBlock (.slice oa len cap) ≠ some O) (hbs : base ≤ w1.heap.size) (hlm : len + m ≤ 1000000)
    (f : Nat → Bool) (e : Nat × Value) (a : Act) (w : World) (hun : f 3 = false) (hdep : ∀ d ∈ lm_o3.after, Region.binds .any d = true → f d.on = true) (hJ : lm_J w1 O X base oa len cap b n m xs ns f e w) (hFr : Fr lm_O A f (fun j => lm_V O X base oa len cap b n m xs ns j e) a)
    (K : Act → World → Prop) (hK : Hid (∀ v e' w', v = lm_V O X base oa len cap b n m xs ns 3 e' → (∀ j, f j = true → lm_V O X base oa len cap b n m xs ns j e' = lm_V O X base oa len cap b n m xs ns j e) → lm_J w1 O X base oa len cap b n m xs ns (fun j => j == 3 || f j) e' w' → K (a.put lm_o3.dst v) w')) :
    if Region.wanted lm_o3 (yielded lm_O a.tmps) = true then Oper.wp Tryz.prog lm_o3 a w K Q else K (a.put lm_o3.dst undef) w := by
  unfold lm_o3 at hdep hK ⊢
  have hK9 := hK
  obtain ⟨j0, j1, j2⟩ := hJ
  obtain ⟨f4, hB, jr⟩ := j0 hun
  obtain ⟨i0, hi0, hz0, hz1, hz2⟩ := info_parts infoB
  have k0 : f 0 = true := hdep { on := 0, ground := .data } (by simp) rfl
  have v15 : a.tmps.getD 15 undef = .slice oa len cap := hFr.new 0 15 rfl k0
  have k2 : f 2 = true := hdep { on := 2, ground := .data } (by simp) rfl
  have v17 : a.tmps.getD 17 undef = .slice (some ⟨e.1, 0, none⟩) m m := hFr.new 2 17 rfl k2
  have hrd := jr k2
  have k1 := j2 k2
  have own9 := own_belowL own hB
  obtain ⟨v', w', hrun, ho9, hg9, _, hat9⟩ := run_append_own_at (P := Tryz.prog) w base 22 22 5 i0 _ 1 1 Tryz.underlying22 hi0 hz0 hz1 hz2 rfl (by omega) (.slice oa len cap) len xs own9 ⟨e.1, 0, none⟩ m m (ns.map (Value.int .u8)) (by rw [List.length_map]; omega) (fun j u hj => by
    rw [List.getElem?_map] at hj
    obtain ⟨x, hx, rfl⟩ := Option.map_eq_some_iff.1 hj
    rw [addr_plain, Nat.zero_add]
    exact hrd.holds j x hx) (fun u hu => by obtain ⟨x, _, rfl⟩ := List.mem_map.1 hu; rfl) (by unfold maxLen; omega) (by omega) (Nat.le_trans hbs hB.size)
  replace ho9 := hid ho9
  replace hg9 := hid hg9
  replace hat9 := hid hat9
  replace k0 := hid k0
  replace k1 := hid k1
  replace k2 := hid k2
  replace own9 := hid own9
  replace hrd := hid hrd
  replace hi0 := hid hi0
  replace hz0 := hid hz0
  have f3 : f 3 = false := hun
  rw [if_pos (show Region.wanted _ _ = true from rfl)]
  refine Lib.wp_append_run w _ _ 22 22 rfl (.slice oa len cap) (.slice (some ⟨e.1, 0, none⟩) m m) v15 v17 v' w' hrun ?_
  replace hB := hid hB
  replace jr := hid jr
  replace j2 := hid j2
  replace qO := hid qO
  replace qX := hid qX
  replace own := hid own
  replace hco := hid hco
  replace f3 := hid f3
  replace f4 := hid f4
  clear hdep hFr hbo hbx j0 j1
  exact hK9.out _ (e.1, v') _ rfl (lm_keep3 O X base oa len cap b n m xs ns e v' hun) ⟨fun h => (by cases h), fun _ => ⟨⟨k0.out, k1.out, k2.out⟩, w, w', hB.out, hg9.out, ho9.out, hat9.out, by show w' = (bif f 4 then _ else w'); rw [f4.out]; rfl⟩, j2.out⟩
set_option maxRecDepth 100000 in
set_option maxHeartbeats 2000000 in
theorem lm_s4 (A : Act) (w1 : World) (Q : Exit → Act → World → Prop) (O X base : Nat) (oa : Option Addr) (len cap : Nat) (b : Int) (n m : Nat) (xs : List Value) (ns : List Int) 
    (hbo : A.tmps.getD 4 undef = .pointer (some ⟨O, 0, none⟩)) (hbx : A.tmps.getD 5 undef = .pointer (some ⟨X, 0, none⟩)) (qO : Blk w1 O #[.slice oa len cap]) (qX : Blk w1 X (rnA b n)) (own : w1.ownsRow base 5 1 (.slice oa len cap) len xs) (hco : ∀ W, Below w1.heap.size w1 W → Calls Tryz.prog 84 #[rnV b n] W fun r w' => ∃ g, r = .returned (.slice (some ⟨g, 0, none⟩) m m) ∧ RdB W w' g ns) (hns : ns.length = m) (hOb : Value.ownBlock (.slice oa len cap) ≠ some O) (hbs : base ≤ w1.heap.size) (hlm : len + m ≤ 1000000)
    (f : Nat → Bool) (e : Nat × Value) (a : Act) (w : World) (hun : f 4 = false) (hdep : ∀ d ∈ lm_o4.after, Region.binds .any d = true → f d.on = true) (hJ : lm_J w1 O X base oa len cap b n m xs ns f e w) (hFr : Fr lm_O A f (fun j => lm_V O X base oa len cap b n m xs ns j e) a)
    (K : Act → World → Prop) (hK : Hid (∀ v e' w', v = lm_V O X base oa len cap b n m xs ns 4 e' → (∀ j, f j = true → lm_V O X base oa len cap b n m xs ns j e' = lm_V O X base oa len cap b n m xs ns j e) → lm_J w1 O X base oa len cap b n m xs ns (fun j => j == 4 || f j) e' w' → K (a.put lm_o4.dst v) w')) :
    if Region.wanted lm_o4 (yielded lm_O a.tmps) = true then Oper.wp Tryz.prog lm_o4 a w K Q else K (a.put lm_o4.dst undef) w := by
  unfold lm_o4 at hdep hK ⊢
  have hK9 := hK
  obtain ⟨j0, j1, j2⟩ := hJ
  have k3 : f 3 = true := hdep { on := 3, ground := .data } (by simp) rfl
  have v18 : a.tmps.getD 18 undef = e.2 := hFr.new 3 18 rfl k3
  have v4 := (hFr.old 4 (lm_no (by decide))).trans hbo
  obtain ⟨jd, wa, w2, hB, hg, how, hat, hw⟩ := j1 k3
  rw [hun] at hw
  replace hw : w = w2 := hw
  subst hw
  obtain ⟨g9, c9, he⟩ : ∃ g9 c9, e.2 = .slice g9 (len + m) c9 := ownsRow_form how
  have qO2 : Blk w O #[.slice oa len cap] := (qO.below hB qO.lt).grown hg (fun e => hOb e.symm)
  have xO := qO2.cell
  have yO := qO2.frozen
  have zO := qO2.lt
  have hJ9 : Hid (∃ wa w2, Below w1.heap.size w1 wa ∧ wa.grownBy w2 (Value.ownBlock (.slice oa len cap)) ∧ w2.ownsRow base 5 1 e.2 (len + m) (xs ++ ns.map (Value.int .u8)) ∧ (e.2.ownBlock = Value.ownBlock (.slice oa len cap) ∨ e.2.ownBlock = some wa.heap.size) ∧ w.setCell ⟨O, 0, none⟩ e.2 = w2.setCell ⟨O, 0, none⟩ e.2) := ⟨wa, w, hB, hg, how, hat, rfl⟩
  replace jd := hid jd
  replace j2 := hid j2
  replace k3 := hid k3
  replace qO := hid qO
  replace qX := hid qX
  replace own := hid own
  replace hco := hid hco
  replace hB := hid hB
  replace hg := hid hg
  replace how := hid how
  replace hat := hid hat
  replace qO2 := hid qO2
  rw [he] at v18
  replace he := hid he
  clear hdep hFr hbo hbx j0 j1
  go_simp
  rw [← he.out]
  exact hK9.out _ e _ rfl (fun _ _ => rfl) ⟨fun h => absurd k3.out (by rw [show f 3 = false from h]; exact fun h => (by cases h)), fun _ => ⟨jd.out, hJ9.out⟩, j2.out⟩
set_option maxRecDepth 100000 in
set_option maxHeartbeats 4000000 in
theorem lm_reg (lr nr : Nat) (A : Act) (w1 : World) (Q : Exit → Act → World → Prop) (O X base : Nat) (oa : Option Addr) (len cap : Nat) (b : Int) (n m : Nat) (xs : List Value) (ns : List Int) 
    (hbo : A.tmps.getD 4 undef = .pointer (some ⟨O, 0, none⟩)) (hbx : A.tmps.getD 5 undef = .pointer (some ⟨X, 0, none⟩)) (qO : Blk w1 O #[.slice oa len cap]) (qX : Blk w1 X (rnA b n)) (own : w1.ownsRow base 5 1 (.slice oa len cap) len xs) (hco : ∀ W, Below w1.heap.size w1 W → Calls Tryz.prog 84 #[rnV b n] W fun r w' => ∃ g, r = .returned (.slice (some ⟨g, 0, none⟩) m m) ∧ RdB W w' g ns) (hns : ns.length = m) (hOb : Value.ownBlock (.slice oa len cap) ≠ some O) (hbs : base ≤ w1.heap.size) (hlm : len + m ≤ 1000000) (hN : 19 ≤ A.tmps.size)
    (h : ∀ (w : World) (e : Nat × Value), (∃ wa w2, Below w1.heap.size w1 wa ∧ wa.grownBy w2 (Value.ownBlock (.slice oa len cap)) ∧ w2.ownsRow base 5 1 e.2 (len + m) (xs ++ ns.map (Value.int .u8)) ∧ (e.2.ownBlock = Value.ownBlock (.slice oa len cap) ∨ e.2.ownBlock = some wa.heap.size) ∧ w = w2.setCell ⟨O, 0, none⟩ e.2) → Q .normal (putsA A [(15, .slice oa len cap), (16, rnV b n), (17, .slice (some ⟨e.1, 0, none⟩) m m), (18, e.2)]) w) :
    (Code.region 8 #[({ dst := some 15, op := Op.load 22 (Operand.tmp 4), type := 22, pos := "l12_rle.go:123", after := #[], guard := none } : Oper), ({ dst := some 16, op := Op.load 126 (Operand.tmp 5), type := 126, pos := "l12_rle.go:123", after := #[], guard := none } : Oper), ({ dst := some 17, op := Op.call { callee := Callee.value (Operand.func 84), args := #[Operand.tmp 16], argTypes := #[126] }, type := 22, pos := "l12_rle.go:123", after := #[{ on := 1, ground := Ground.data }], guard := none } : Oper), ({ dst := some 18, op := Op.call { callee := Callee.builtin Builtin.append, args := #[Operand.tmp 15, Operand.tmp 17], argTypes := #[22, 22] }, type := 22, pos := "l12_rle.go:123", after := #[{ on := 0, ground := Ground.data }, { on := 2, ground := Ground.data }, { on := 2, ground := Ground.chain }], guard := none } : Oper), ({ dst := none, op := Op.store 22 (Operand.tmp 4) (Operand.tmp 18), type := 0, pos := "l12_rle.go:123", after := #[{ on := 3, ground := Ground.data }, { on := 3, ground := Ground.chain }, { on := 0, ground := Ground.phase }, { on := 1, ground := Ground.phase }, { on := 2, ground := Ground.phase }, { on := 3, ground := Ground.phase }], guard := none } : Oper)] true).wpIn (Fence.wide.inRound lr) nr Tryz.prog Q A w1 := by
  show (Code.region 8 lm_O true).wpIn (Fence.wide.inRound lr) nr Tryz.prog Q A w1
  refine wp_region_slotsR (E := Nat × Value) (lm_V O X base oa len cap b n m xs ns) (lm_J w1 O X base oa len cap b n m xs ns) (by kernel_rfl) (by kernel_rfl) (by kernel_rfl) (by kernel_rfl) (fun i s hi => ?_) ?_ (0, undef) ⟨fun _ => ⟨rfl, (Below.refl _ _).drew, fun h => (by cases h)⟩, fun h => (by cases h), fun h => (by cases h)⟩ ?_
  · cases hc : ([15, 16, 17, 18] : List Nat).contains s
    · exact absurd hi (lm_no hc i)
    · have : s ∈ ([15, 16, 17, 18] : List Nat) := by simpa using hc
      simp only [List.mem_cons, List.not_mem_nil, or_false] at this
      omega
  · intro f e a w i o hi ho hun hdep hJ hFr K hK
    have hi8 : i < 5 := hi
    rcases (by omega : i = 0 ∨ i = 1 ∨ i = 2 ∨ i = 3 ∨ i = 4) with rfl | rfl | rfl | rfl | rfl
    · obtain rfl := Option.some.inj ho
      exact lm_s0 A w1 Q O X base oa len cap b n m xs ns hbo hbx qO qX own hco hns hOb hbs hlm f e a w hun hdep hJ hFr K hK
    · obtain rfl := Option.some.inj ho
      exact lm_s1 A w1 Q O X base oa len cap b n m xs ns hbo hbx qO qX own hco hns hOb hbs hlm f e a w hun hdep hJ hFr K hK
    · obtain rfl := Option.some.inj ho
      exact lm_s2 A w1 Q O X base oa len cap b n m xs ns hbo hbx qO qX own hco hns hOb hbs hlm f e a w hun hdep hJ hFr K hK
    · obtain rfl := Option.some.inj ho
      exact lm_s3 A w1 Q O X base oa len cap b n m xs ns hbo hbx qO qX own hco hns hOb hbs hlm f e a w hun hdep hJ hFr K hK
    · obtain rfl := Option.some.inj ho
      exact lm_s4 A w1 Q O X base oa len cap b n m xs ns hbo hbx qO qX own hco hns hOb hbs hlm f e a w hun hdep hJ hFr K hK
  · intro f e a w hall hJ hFr
    have := h w e (by
      obtain ⟨_, j1, _⟩ := hJ
      obtain ⟨_, wa, w2, hB, hg, how, hat, hw⟩ := j1 (hall 3 (by decide))
      rw [hall 4 (by decide)] at hw
      exact ⟨wa, w2, hB, hg, how, hat, hw⟩)
    rw [hFr.eq [(15, .slice oa len cap), (16, rnV b n), (17, .slice (some ⟨e.1, 0, none⟩) m m), (18, e.2)] (fun s hs => ?_) (fun i s hi => ?_)]
    · exact this
    · have hne : ∀ k ∈ ([15, 16, 17, 18] : List Nat), k ≠ s := by
        intro k hk e2
        subst e2
        simp only [List.mem_cons, List.not_mem_nil, or_false] at hk
        rcases hk with rfl | rfl | rfl | rfl
        · exact hs 0 rfl
        · exact hs 1 rfl
        · exact hs 2 rfl
        · exact hs 3 rfl
      simp only [lookA]
      simp [hne]
    · have hl : i < 5 := by
        rcases Nat.lt_or_ge i 5 with h1 | h1
        · exact h1
        · unfold dstAt at hi
          rw [Array.getElem?_eq_none (by exact h1)] at hi
          cases hi
      refine ⟨hall i hl, ?_⟩
      rcases (by omega : i = 0 ∨ i = 1 ∨ i = 2 ∨ i = 3 ∨ i = 4) with rfl | rfl | rfl | rfl | rfl
      all_goals first
        | (cases hi; rfl)
        | cases hi
end Go.Proofs.YtghcagibdcblnaaGreatDoor
