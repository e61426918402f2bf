/- What the specification says of a processor that is right. -/
import Derived.Test.YtifcdojaocndhaaDoorM00
import Derived.Test.YtifcdojaocndhaaDoorM02
import Derived.Deep.Cut
import Derived.Laws.BitsAllLaws
namespace Go.Proofs.YtifcdojaocndhaaDoor
open Go.ChangeShapes Go.WideShapes Go.ChangeAt Go.RowKit
set_option linter.unusedVariables false
set_option linter.unusedSimpArgs false

/-- a processor as it comes in: any numbers -/
structure Cu where
  r0 : Int
  r1 : Int
  r2 : Int
  r3 : Int
  r4 : Int
  r5 : Int
  r6 : Int
  r7 : Int
  f : Int
  sp : Int
  pc : Int
  iff : Bool
  ei : Bool
  halt : Bool
abbrev cuA (c : Cu) : Array Value := #[.int .i64 c.r0, .int .i64 c.r1, .int .i64 c.r2, .int .i64 c.r3, .int .i64 c.r4, .int .i64 c.r5, .int .i64 c.r6, .int .i64 c.r7, .int .i64 c.f, .int .i64 c.sp, .int .i64 c.pc, .bool c.iff, .bool c.ei, .bool c.halt]
abbrev cuV (c : Cu) : Value := .agg (cuA c)
def Cu.reg (c : Cu) : Nat → Int
  | 0 => c.r0
  | 1 => c.r1
  | 2 => c.r2
  | 3 => c.r3
  | 4 => c.r4
  | 5 => c.r5
  | 6 => c.r6
  | _ => c.r7
def regsB (c : Cu) : Bool := (List.range 8).all (fun i => inB (c.reg i) 0 255)
def okC (c : Cu) : Bool := regsB c && decide (c.r6 = 0) && inB c.f 0 255 && inB c.sp 0 255 && inB c.pc 0 255 && (!c.ei || c.iff)
theorem regs_no {c : Cu} {k : Nat} (hk : k < 8) (h : inB (c.reg k) 0 255 = false) : okC c = false := by
  have : regsB c = false := by
    unfold regsB
    rw [List.all_eq_false]
    exact ⟨k, List.mem_range.2 hk, by simp [h]⟩
  simp [okC, this]
theorem regs_all {c : Cu} (h : ∀ i, i < 8 → inB (c.reg i) 0 255 = true) : regsB c = true := by
  unfold regsB
  rw [List.all_eq_true]
  exact fun i hi => h i (List.mem_range.1 hi)
set_option maxRecDepth 100000 in
set_option maxHeartbeats 1000000 in
theorem cpuok_spec (c : Cu) (w : World) : Calls Tryd.prog 94 #[cuV c] w fun e w' => e = .returned (.bool (okC c)) ∧ Below w.heap.size w w' := by
  have hno : Hid (∀ k, k < 8 → inB (c.reg k) 0 255 = false → okC c = false) := fun k hk => regs_no hk
  have hall : Hid ((∀ i, i < 8 → inB (c.reg i) 0 255 = true) → okC c = (decide (c.r6 = 0) && inB c.f 0 255 && inB c.sp 0 255 && inB c.pc 0 255 && (!c.ei || c.iff))) := fun h => by unfold okC; rw [regs_all h, Bool.true_and]
  have hB := hid ((Below.refl w.heap.size w).alloc (Nat.le_refl _) (.cells (cuA c) 26))
  have q1 := (Blk.new w (cuA c) 26).cell
  obtain ⟨Q, hQ⟩ : ∃ Q, okC c = Q := ⟨_, rfl⟩
  rw [hQ] at hno hall ⊢
  clear hQ
  go_enter Tryd.func94, Tryd.ntmps94
  go_upto_region 1 with fail
  obtain ⟨V, hV⟩ : ∃ V, w.alloc (Obj.cells (cuA c) 26) = V := ⟨_, rfl⟩
  rw [hV] at hB q1 ⊢
  clear hV
  go_wp2
  go_loop [3] (fun i => ∃ k : Nat, k ≤ 8 ∧ i = .int .i64 k ∧ ∀ j, j < k → inB (c.reg j) 0 255 = true) (fun i => 8 - (intOf i).toNat)
  case atStart => exact ⟨0, by omega, rfl, fun j hj => by omega⟩
  case round =>
    obtain ⟨k, hk, rfl, hj⟩ := hrel
    by_cases hlt : k < 8
    · have hk8 : k = 0 ∨ k = 1 ∨ k = 2 ∨ k = 3 ∨ k = 4 ∨ k = 5 ∨ k = 6 ∨ k = 7 := by omega
      cases hb : inB (c.reg k) 0 255
      · have hE := hid (hno.out k hlt hb)
        clear hj hno hall hk hlt
        rcases hk8 with rfl | rfl | rfl | rfl | rfl | rfl | rfl | rfl
        all_goals
          simp only [Cu.reg] at hb
          go_wp2_with (go_at_call 66; refine (byteM_spec _ _).mono ?_; rintro e w' ⟨rfl, rfl⟩; rw [hb])
          go_ret
          exact ⟨ret_bool hE.out.symm, hB.out⟩
      · have hj2 : Hid (∀ j, j < k + 1 → inB (c.reg j) 0 255 = true) := fun j hj1 => by
          by_cases e : j = k
          · rw [e]; exact hb
          · exact hj j (by omega)
        clear hj hno hall hk hlt
        rcases hk8 with rfl | rfl | rfl | rfl | rfl | rfl | rfl | rfl
        all_goals
          simp only [Cu.reg] at hb
          go_wp2_with (go_at_call 66; refine (byteM_spec _ _).mono ?_; rintro e w' ⟨rfl, rfl⟩; rw [hb])
          go_round
          case rel => exact ⟨_, by omega, by go_num, hj2.out⟩
          case measure => simp [intOf]
    · obtain rfl : k = 8 := by omega
      have hE := hall.out hj
      clear hj hno hall hk hlt
      by_cases h6 : c.r6 = 0
      · have h62 : (c.r6 == 0) = true := by simp [h6]
        rw [decide_eq_true h6, Bool.true_and] at hE
        clear h6
        cases h1 : inB c.f 0 255
        · rw [h1] at hE
          replace hE := hid hE
          go_wp2_with (go_at_call 66; refine (byteM_spec _ _).mono ?_; rintro e w' ⟨rfl, rfl⟩; rw [h1])
          go_ret
          exact ⟨ret_bool (by rw [hE.out]; rfl), hB.out⟩
        · cases h2 : inB c.sp 0 255
          · rw [h1, h2] at hE
            replace hE := hid hE
            go_wp2_with (go_at_call 66; refine (byteM_spec _ _).mono ?_; rintro e w' ⟨rfl, rfl⟩; first | rw [h1] | rw [h2])
            go_ret
            exact ⟨ret_bool (by rw [hE.out]; rfl), hB.out⟩
          · cases h3 : inB c.pc 0 255
            · rw [h1, h2, h3] at hE
              replace hE := hid hE
              go_wp2_with (go_at_call 66; refine (byteM_spec _ _).mono ?_; rintro e w' ⟨rfl, rfl⟩; first | rw [h1] | rw [h2] | rw [h3])
              go_ret
              exact ⟨ret_bool (by rw [hE.out]; rfl), hB.out⟩
            · rw [h1, h2, h3] at hE
              cases h4 : c.ei
              · rw [h4] at hE
                replace hE := hid hE
                go_wp2_with (go_at_call 66; refine (byteM_spec _ _).mono ?_; rintro e w' ⟨rfl, rfl⟩; first | rw [h1] | rw [h2] | rw [h3])
                go_ret
                exact ⟨ret_bool (by rw [hE.out]; rfl), hB.out⟩
              · rw [h4] at hE
                replace hE := hid hE
                go_wp2_with (go_at_call 66; refine (byteM_spec _ _).mono ?_; rintro e w' ⟨rfl, rfl⟩; first | rw [h1] | rw [h2] | rw [h3])
                go_ret
                exact ⟨ret_bool (by rw [hE.out]; simp), hB.out⟩
      · have h62 : (c.r6 == 0) = false := by simp [h6]
        rw [decide_eq_false h6, Bool.false_and, Bool.false_and, Bool.false_and, Bool.false_and] at hE
        replace hE := hid hE
        clear h6
        go_wp2
        go_ret
        exact ⟨ret_bool (by rw [hE.out]), hB.out⟩
end Go.Proofs.YtifcdojaocndhaaDoor

/- Three things in blocks of their own, the third being written. -/
namespace Go.Proofs.YtifcdojaocndhaaDoor
open Go.ChangeShapes Go.WideShapes Go.ChangeAt Go.RowKit
set_option linter.unusedVariables false
set_option linter.unusedSimpArgs false

theorem two_in {w : World} (A B : Array Value) (t t1 : TypeId) : Blk ((w.alloc (.cells A t)).alloc (.cells B t1)) w.heap.size A ∧ Blk ((w.alloc (.cells A t)).alloc (.cells B t1)) (w.heap.size + 1) B ∧ Below w.heap.size w ((w.alloc (.cells A t)).alloc (.cells B t1)) := by
  have q1 := Blk.new (w.alloc (.cells A t)) B t1
  simp only [World.size_alloc] at q1
  exact ⟨(Blk.new w A t).alloc _, q1, ((Below.refl _ _).alloc (Nat.le_refl _) _).alloc (by simp) _⟩
abbrev zeC : Array Value := #[.int .i64 0, .int .i64 0, .int .i64 0, .int .i64 0, .int .i64 0, .int .i64 0, .int .i64 0, .int .i64 0, .int .i64 0, .int .i64 0, .int .i64 0, .bool false, .bool false, .bool false]
/-- three blocks -/
structure Tri (w W : World) (A B C : Array Value) : Prop where
  q0 : Blk W w.heap.size A
  q1 : Blk W (w.heap.size + 1) B
  q2 : Blk W (w.heap.size + 1 + 1) C
  bel : Below w.heap.size w W
theorem Tri.below {w W W' : World} {A B C : Array Value} (h : Tri w W A B C) (hb : Below W.heap.size W W') : Tri w W' A B C :=
  ⟨h.q0.below hb h.q0.lt, h.q1.below hb h.q1.lt, h.q2.below hb h.q2.lt, h.bel.trans (hb.mono h.bel.size)⟩
theorem Tri.drew {w W : World} {A B C : Array Value} (h : Tri w W A B C) : Tri w W.drew A B C := h.below ⟨rfl, rfl, rfl, Nat.le_refl _, fun _ _ => rfl⟩
theorem Tri.start (w : World) (A B C : Array Value) (t t1 t2 : TypeId) : Tri w (((w.alloc (.cells A t)).alloc (.cells B t1)).alloc (.cells C t2)) A B C := by
  obtain ⟨q0, q1, hB⟩ := two_in (w := w) A B t t1
  have q2 := Blk.new ((w.alloc (.cells A t)).alloc (.cells B t1)) C t2
  simp only [World.size_alloc] at q2
  exact ⟨q0.alloc _, q1.alloc _, q2, hB.alloc hB.size _⟩
theorem Tri.put {w W : World} {A B C : Array Value} (h : Tri w W A B C) (i : Nat) (u : Value) : Tri w (W.setCell ⟨w.heap.size + 1 + 1, i, none⟩ u) A B (C.setIfInBounds i u) :=
  ⟨h.q0.other (by simp only []; omega) u, h.q1.other (by simp) u, h.q2.set i u, h.bel.setCell (p := ⟨w.heap.size + 1 + 1, i, none⟩) (by simp only []; omega) u⟩
end Go.Proofs.YtifcdojaocndhaaDoor

/- What the laws do with a processor: copied, held against another. -/
namespace Go.Proofs.YtifcdojaocndhaaDoor
open Go.ChangeShapes Go.WideShapes Go.ChangeAt Go.RowKit
set_option linter.unusedVariables false
set_option linter.unusedSimpArgs false

abbrev rgA (c : Cu) : Array Value := #[.int .i64 c.r0, .int .i64 c.r1, .int .i64 c.r2, .int .i64 c.r3, .int .i64 c.r4, .int .i64 c.r5, .int .i64 c.r6, .int .i64 c.r7]
abbrev rgV (c : Cu) : Value := .agg (rgA c)
theorem eight {k : Nat} (h : k < 8) : k = 0 ∨ k = 1 ∨ k = 2 ∨ k = 3 ∨ k = 4 ∨ k = 5 ∨ k = 6 ∨ k = 7 := by omega
def rgZ (c : Cu) (k i : Nat) : Value := .int .i64 (if i < k then c.reg i else 0)
def pt8 (c : Cu) (k : Nat) : Array Value := #[rgZ c k 0, rgZ c k 1, rgZ c k 2, rgZ c k 3, rgZ c k 4, rgZ c k 5, rgZ c k 6, rgZ c k 7]
abbrev z8 : Array Value := #[.int .i64 0, .int .i64 0, .int .i64 0, .int .i64 0, .int .i64 0, .int .i64 0, .int .i64 0, .int .i64 0]
theorem pt8_zero (c : Cu) : pt8 c 0 = z8 := rfl
theorem pt8_all (c : Cu) : pt8 c 8 = rgA c := rfl
theorem pt8_succ (c : Cu) (k : Nat) (hk : k < 8) : (pt8 c k).setIfInBounds k (.int .i64 (c.reg k)) = pt8 c (k + 1) := by
  rcases eight hk with rfl | rfl | rfl | rfl | rfl | rfl | rfl | rfl <;> rfl
theorem pt8_at (c : Cu) (k : Nat) (hk : k < 8) : (pt8 c k)[k]? = some (.int .i64 0) := by
  rcases eight hk with rfl | rfl | rfl | rfl | rfl | rfl | rfl | rfl <;> rfl
theorem rgA_at (c : Cu) (k : Nat) (hk : k < 8) : (rgA c)[k]? = some (.int .i64 (c.reg k)) := by
  rcases eight hk with rfl | rfl | rfl | rfl | rfl | rfl | rfl | rfl <;> rfl
set_option maxRecDepth 100000 in
theorem toa (c : Cu) (w : World) : Calls Tryd.prog 103 #[rgV c] w fun e w' => e = .returned (rgV c) ∧ Below w.heap.size w w' := by
  have hs := hid (Tri.start w (rgA c) z8 (pt8 c 0) 24 24 24)
  rw [pt8_zero] at hs
  go_enter Tryd.func103, Tryd.ntmps103
  go_wp2
  go_loopw [4] (fun i wr => ∃ k : Nat, k ≤ 8 ∧ i = .int .i64 k ∧ Tri w wr (rgA c) z8 (pt8 c k)) (fun i _ => 8 - (intOf i).toNat)
  case atStart => exact ⟨0, by omega, rfl, hs.out⟩
  case round =>
    obtain ⟨k, hk, rfl, hS⟩ := hrel
    clear hs
    by_cases hlt : k < 8
    · have x0 := hS.q0.cell k
      rw [rgA_at c k hlt] at x0
      have x2 := hS.q2.cell k
      rw [pt8_at c k hlt] at x2
      have f2 := hS.q2.frozen k
      have hn := hid (hS.put k (.int .i64 (c.reg k)))
      rw [pt8_succ c k hlt] at hn
      clear hS
      generalize c.reg k = y at *
      go_wp2
      go_roundw
      case rel => exact ⟨k + 1, by omega, by go_num, hn.out⟩
      case measure => simp [intOf]; omega
    · obtain rfl : k = 8 := by omega
      rw [pt8_all] at hS
      have x1 := hS.q1.cell
      have f1 := hS.q1.frozen
      have x2 := hS.q2.cell
      have hb := hid hS.bel
      clear hS
      go_wp2
      refine bodyPost_ret (v := rgV c) (by simp [results, Tryd.results103, go_sem, x1]) rfl ⟨rfl, ?_⟩
      iterate 8 refine Below.setCell ?_ (by first | omega | (simp; done) | (simp; omega)) _
      exact hb.out
set_option maxRecDepth 100000 in
theorem eqa_yes (c : Cu) (w : World) : Calls Tryd.prog 82 #[rgV c, rgV c] w fun e w' => e = .returned (.bool true) ∧ Below w.heap.size w w' := by
  have hs := hid (two_in (w := w) (rgA c) (rgA c) 24 24)
  go_enter Tryd.func82, Tryd.ntmps82
  go_wp2
  go_loopw [5] (fun i wr => ∃ k : Nat, k ≤ 8 ∧ i = .int .i64 k ∧ Blk wr w.heap.size (rgA c) ∧ Blk wr (w.heap.size + 1) (rgA c) ∧ Below w.heap.size w wr) (fun i _ => 8 - (intOf i).toNat)
  case atStart => exact ⟨0, by omega, rfl, hs.out⟩
  case round =>
    obtain ⟨k, hk, rfl, q0, q1, hB⟩ := hrel
    clear hs
    by_cases hlt : k < 8
    · have x0 := q0.cell k
      rw [rgA_at c k hlt] at x0
      have x1 := q1.cell k
      rw [rgA_at c k hlt] at x1
      have hn : Hid (Blk wr.drew w.heap.size (rgA c) ∧ Blk wr.drew (w.heap.size + 1) (rgA c) ∧ Below w.heap.size w wr.drew) := ⟨q0, q1, hB.drew⟩
      clear q0 q1 hB
      generalize c.reg k = y at *
      go_wp2
      go_region
      go_wp2
      go_roundw
      case rel => exact ⟨k + 1, by omega, by go_num, hn.out⟩
      case measure => simp [intOf]; omega
    · obtain rfl : k = 8 := by omega
      replace hB := hid hB
      clear q0 q1
      go_wp2
      go_ret
      exact ⟨rfl, hB.out⟩
set_option maxRecDepth 100000 in
set_option maxHeartbeats 1000000 in
theorem toc (c : Cu) (w : World) : Calls Tryd.prog 55 #[cuV c] w fun e w' => e = .returned (cuV c) ∧ Below w.heap.size w w' := by
  have hs := hid (Tri.start w (cuA c) zeC zeC 51 26 26)
  have x0 := hs.out.q0.cell
  go_enter Tryd.func55, Tryd.ntmps55
  go_upto_region 2 with fail
  obtain ⟨V, hV⟩ : ∃ V, (((w.alloc (.cells (cuA c) 51)).alloc (.cells zeC 26)).alloc (.cells zeC 26)) = V := ⟨_, rfl⟩
  rw [hV] at hs x0 ⊢
  clear hV
  go_wp2_with fail
  refine (toa c V).mono ?_
  rintro e w1 ⟨rfl, hb⟩
  have h1 := hid (hs.out.below hb)
  have y0 := h1.out.q0.cell
  have y1 := h1.out.q1.cell
  have y2 := h1.out.q2.cell
  have g1 := h1.out.q1.frozen
  have g2 := h1.out.q2.frozen
  have l1 := h1.out.q1.lt
  have l2 := h1.out.q2.lt
  have hB := hid h1.out.bel
  clear hs x0 hb h1
  go_wp2
  refine bodyPost_ret (v := cuV c) (by simp [results, Tryd.results55, go_sem, y1, y2]) rfl ⟨rfl, ?_⟩
  repeat refine Below.setCell ?_ (by first | omega | (simp; done) | (simp; omega)) _
  exact hB.out
set_option maxRecDepth 100000 in
set_option maxHeartbeats 1000000 in
theorem eqc_yes (c : Cu) (w : World) : Calls Tryd.prog 35 #[cuV c, cuV c] w fun e w' => e = .returned (.bool true) ∧ Below w.heap.size w w' := by
  have hs := hid (two_in (w := w) (cuA c) (cuA c) 26 26)
  have x0 := hs.out.1.cell
  have x1 := hs.out.2.1.cell
  go_enter Tryd.func35, Tryd.ntmps35
  go_upto_region 1 with fail
  obtain ⟨V, hV⟩ : ∃ V, ((w.alloc (.cells (cuA c) 26)).alloc (.cells (cuA c) 26)) = V := ⟨_, rfl⟩
  rw [hV] at hs x0 x1 ⊢
  clear hV
  go_wp2_with fail
  refine (eqa_yes c V).mono ?_
  rintro e w1 ⟨rfl, hb⟩
  have y0 := (hs.out.1.below hb hs.out.1.lt).cell
  have y1 := (hs.out.2.1.below hb hs.out.2.1.lt).cell
  have hB := hid (hs.out.2.2.trans (hb.mono hs.out.2.2.size))
  clear hs x0 x1 hb
  go_wp2
  go_ret
  exact ⟨rfl, hB.out⟩
end Go.Proofs.YtifcdojaocndhaaDoor

/- Bits of small numbers at int: and, or, exclusive or of numbers below 65536 are those of natural numbers; a loop over all numbers below a bound, for the kernel. -/
namespace Go.Proofs.YtifcdojaocndhaaDoor
open Go.ChangeShapes Go.WideShapes Go.ChangeAt Go.RowKit
set_option linter.unusedVariables false

theorem bOf (a : Nat) (ha : a < 65536) : ((a : Int) % ((2 ^ 64 : Nat) : Int)).toNat = a := by omega
theorem bAnd (a b : Nat) (ha : a < 65536) (hb : b < 65536) : bits .and .i64 (a : Int) (b : Int) = ((Nat.land a b : Nat) : Int) := by
  have hx : Nat.land a b < 2 ^ 16 := Nat.and_lt_two_pow _ (by omega)
  show IntKind.i64.wrap ((BitVec.ofInt 64 (a : Int) &&& BitVec.ofInt 64 (b : Int)).toNat : Int) = _
  rw [BitVec.toNat_and, BitVec.toNat_ofInt, BitVec.toNat_ofInt, IntKind.wrap_i64, bOf a ha, bOf b hb]
  show (((Nat.land a b : Nat) : Int) + _) % _ - _ = _
  omega
theorem bOr (a b : Nat) (ha : a < 65536) (hb : b < 65536) : bits .or .i64 (a : Int) (b : Int) = ((Nat.lor a b : Nat) : Int) := by
  have hx : Nat.lor a b < 2 ^ 16 := Nat.or_lt_two_pow (by omega) (by omega)
  show IntKind.i64.wrap ((BitVec.ofInt 64 (a : Int) ||| BitVec.ofInt 64 (b : Int)).toNat : Int) = _
  rw [BitVec.toNat_or, BitVec.toNat_ofInt, BitVec.toNat_ofInt, IntKind.wrap_i64, bOf a ha, bOf b hb]
  show (((Nat.lor a b : Nat) : Int) + _) % _ - _ = _
  omega
theorem bXor (a b : Nat) (ha : a < 65536) (hb : b < 65536) : bits .xor .i64 (a : Int) (b : Int) = ((Nat.xor a b : Nat) : Int) := by
  have hx : Nat.xor a b < 2 ^ 16 := Nat.xor_lt_two_pow (by omega) (by omega)
  show IntKind.i64.wrap ((BitVec.ofInt 64 (a : Int) ^^^ BitVec.ofInt 64 (b : Int)).toNat : Int) = _
  rw [BitVec.toNat_xor, BitVec.toNat_ofInt, BitVec.toNat_ofInt, IntKind.wrap_i64, bOf a ha, bOf b hb]
  show (((Nat.xor a b : Nat) : Int) + _) % _ - _ = _
  omega

/-- a test over all numbers below n, in the kernel's own steps -/
def allB (n : Nat) (p : Nat → Bool) : Bool := Nat.rec true (fun k r => and (p k) r) n
theorem allB_at {n : Nat} {p : Nat → Bool} (h : allB n p = true) (k : Nat) (hk : k < n) : p k = true := by
  induction n with
  | zero => omega
  | succ n ih =>
    have h' : (and (p n) (allB n p)) = true := h
    rw [Bool.and_eq_true] at h'
    by_cases e : k = n
    · rw [e]; exact h'.1
    · exact ih h'.2 (by omega)
/-- 1 of true -/
def btN (b : Bool) : Nat := cond b 1 0
end Go.Proofs.YtifcdojaocndhaaDoor
