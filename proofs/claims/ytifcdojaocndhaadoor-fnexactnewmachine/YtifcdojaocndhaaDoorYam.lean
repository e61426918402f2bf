/- A sound chip as plain numbers; what the laws do with it; one that comes in. -/
import Derived.Test.YtifcdojaocndhaaDoorM03
import Derived.Test.YtifcdojaocndhaaDoorM02
import Derived.Deep.Matrix
import Derived.Lib.SmallJoins
namespace Go.Proofs.YtifcdojaocndhaaDoor
open Go.ChangeShapes Go.WideShapes Go.ChangeAt Go.RowKit Go.Joins Go.Deep
set_option linter.unusedVariables false
set_option linter.unusedSimpArgs false

/-- a sound chip as it comes in: any numbers -/
structure Sg where
  r0 : Int
  r1 : Int
  r2 : Int
  r3 : Int
  r4 : Int
  r5 : Int
  r6 : Int
  r7 : Int
  sel : Int
  c0 : Int
  c1 : Int
  o0 : Bool
  o1 : Bool
  noise : Int
  shift : Int
  env : Int
  ec : Int
abbrev sgA (p : Sg) : Array Value := #[.int .i64 p.r0, .int .i64 p.r1, .int .i64 p.r2, .int .i64 p.r3, .int .i64 p.r4, .int .i64 p.r5, .int .i64 p.r6, .int .i64 p.r7, .int .i64 p.sel, .int .i64 p.c0, .int .i64 p.c1, .bool p.o0, .bool p.o1, .int .i64 p.noise, .int .i64 p.shift, .int .i64 p.env, .int .i64 p.ec]
abbrev sgV (p : Sg) : Value := .agg (sgA p)
def Sg.reg (p : Sg) : Nat → Int
  | 0 => p.r0
  | 1 => p.r1
  | 2 => p.r2
  | 3 => p.r3
  | 4 => p.r4
  | 5 => p.r5
  | 6 => p.r6
  | _ => p.r7
def Sg.put (p : Sg) (v : Int) : Nat → Sg
  | 0 => { p with r0 := v }
  | 1 => { p with r1 := v }
  | 2 => { p with r2 := v }
  | 3 => { p with r3 := v }
  | 4 => { p with r4 := v }
  | 5 => { p with r5 := v }
  | 6 => { p with r6 := v }
  | _ => { p with r7 := v }
abbrev zeS : Sg := ⟨0, 0, 0, 0, 0, 0, 0, 0, 0, 0, 0, false, false, 0, 0, 0, 0⟩
/-- its registers, as those of a processor -/
abbrev Sg.cu (p : Sg) : Cu := ⟨p.r0, p.r1, p.r2, p.r3, p.r4, p.r5, p.r6, p.r7, 0, 0, 0, false, false, false⟩
theorem sgA_put (p : Sg) (k : Nat) (v : Int) (hk : k < 8) : (sgA p).setIfInBounds k (.int .i64 v) = sgA (p.put v k) := by
  rcases eight hk with rfl | rfl | rfl | rfl | rfl | rfl | rfl | rfl <;> rfl
theorem sgA_at (p : Sg) (k : Nat) (hk : k < 8) : (sgA p)[k]? = some (.int .i64 (p.reg k)) := by
  rcases eight hk with rfl | rfl | rfl | rfl | rfl | rfl | rfl | rfl <;> rfl
/-- how great a register may be -/
def maskN : Nat → Nat
  | 0 => 255
  | 1 => 255
  | 2 => 31
  | 3 => 15
  | 4 => 31
  | 5 => 31
  | 6 => 255
  | _ => 3
def sregB (p : Sg) : Bool := (List.range 8).all (fun i => inB (p.reg i) 0 (maskN i : Nat))
def okS (p : Sg) : Bool := sregB p && inB p.sel 0 7 && inB p.c0 0 255 && inB p.c1 0 255 && inB p.noise 0 31 && inB p.shift 1 131071 && inB p.env 0 31 && inB p.ec 0 255
theorem sreg_no {p : Sg} {k : Nat} (hk : k < 8) (h : inB (p.reg k) 0 (maskN k : Nat) = false) : okS p = false := by
  have : sregB p = false := by
    unfold sregB
    rw [List.all_eq_false]
    exact ⟨k, List.mem_range.2 hk, by simp [h]⟩
  simp [okS, this]
theorem sreg_all {p : Sg} (h : ∀ i, i < 8 → inB (p.reg i) 0 (maskN i : Nat) = true) : sregB p = true := by
  unfold sregB
  rw [List.all_eq_true]
  exact fun i hi => h i (List.mem_range.1 hi)
theorem okS_iff (p : Sg) : okS p = true ↔ (∀ i, i < 8 → 0 ≤ p.reg i ∧ p.reg i ≤ (maskN i : Nat)) ∧ (0 ≤ p.sel ∧ p.sel ≤ 7) ∧ (0 ≤ p.c0 ∧ p.c0 ≤ 255) ∧ (0 ≤ p.c1 ∧ p.c1 ≤ 255) ∧ (0 ≤ p.noise ∧ p.noise ≤ 31) ∧ (1 ≤ p.shift ∧ p.shift ≤ 131071) ∧ (0 ≤ p.env ∧ p.env ≤ 31) ∧ (0 ≤ p.ec ∧ p.ec ≤ 255) := by
  unfold okS sregB
  simp only [Bool.and_eq_true, List.all_eq_true, List.mem_range, inB, decide_eq_true_eq]
  constructor
  · rintro ⟨⟨⟨⟨⟨⟨⟨h1, h2⟩, h3⟩, h4⟩, h5⟩, h6⟩, h7⟩, h8⟩
    exact ⟨h1, h2, h3, h4, h5, h6, h7, h8⟩
  · rintro ⟨h1, h2, h3, h4, h5, h6, h7, h8⟩
    exact ⟨⟨⟨⟨⟨⟨⟨h1, h2⟩, h3⟩, h4⟩, h5⟩, h6⟩, h7⟩, h8⟩
set_option maxRecDepth 100000 in
theorem toi2 (x y : Int) (w : World) : Calls Tryd.prog 106 #[.agg #[.int .i64 x, .int .i64 y]] w fun e w' => e = .returned (.agg #[.int .i64 x, .int .i64 y]) ∧ Below w.heap.size w w' := by
  have hs := hid (Tri.start w #[.int .i64 x, .int .i64 y] #[.int .i64 0, .int .i64 0] #[.int .i64 0, .int .i64 0] 33 33 33)
  go_enter Tryd.func106, Tryd.ntmps106
  go_wp2
  go_loopw [4] (fun i wr => ∃ k : Nat, k ≤ 2 ∧ i = .int .i64 k ∧ Tri w wr #[.int .i64 x, .int .i64 y] #[.int .i64 0, .int .i64 0] #[.int .i64 (if 0 < k then x else 0), .int .i64 (if 1 < k then y else 0)]) (fun i _ => 2 - (intOf i).toNat)
  case atStart => exact ⟨0, by omega, rfl, hs.out⟩
  case round =>
    obtain ⟨k, hk, rfl, hS⟩ := hrel
    clear hs
    rcases (by omega : k = 0 ∨ k = 1 ∨ k = 2) with rfl | rfl | rfl
    · have x0 := hS.q0.cell
      have x2 := hS.q2.cell
      have f2 := hS.q2.frozen
      have hn := hid (hS.put 0 (.int .i64 x))
      clear hS
      go_wp2
      go_roundw
      case rel => exact ⟨1, by omega, rfl, hn.out⟩
      case measure => simp [intOf]
    · have x0 := hS.q0.cell
      have x2 := hS.q2.cell
      have f2 := hS.q2.frozen
      have hn := hid (hS.put 1 (.int .i64 y))
      clear hS
      go_wp2
      go_roundw
      case rel => exact ⟨2, by omega, rfl, hn.out⟩
      case measure => simp [intOf]
    · have x1 := hS.q1.cell
      have f1 := hS.q1.frozen
      have x2 := hS.q2.cell
      have hb := hid hS.bel
      clear hS
      go_wp2
      refine bodyPost_ret (v := .agg #[.int .i64 x, .int .i64 y]) (by simp [results, Tryd.results106, go_sem, x1]) rfl ⟨rfl, ?_⟩
      repeat refine Below.setCell ?_ (by first | omega | (simp; done) | (simp; omega)) _
      exact hb.out
set_option maxRecDepth 100000 in
theorem eqi2 (x y : Int) (w : World) : Calls Tryd.prog 85 #[.agg #[.int .i64 x, .int .i64 y], .agg #[.int .i64 x, .int .i64 y]] w fun e w' => e = .returned (.bool true) ∧ Below w.heap.size w w' := by
  have hs := hid (two_in (w := w) #[.int .i64 x, .int .i64 y] #[.int .i64 x, .int .i64 y] 33 33)
  go_enter Tryd.func85, Tryd.ntmps85
  go_wp2
  go_loopw [5] (fun i wr => ∃ k : Nat, k ≤ 2 ∧ i = .int .i64 k ∧ Blk wr w.heap.size #[.int .i64 x, .int .i64 y] ∧ Blk wr (w.heap.size + 1) #[.int .i64 x, .int .i64 y] ∧ Below w.heap.size w wr) (fun i _ => 2 - (intOf i).toNat)
  case atStart => exact ⟨0, by omega, rfl, hs.out⟩
  case round =>
    obtain ⟨k, hk, rfl, q0, q1, hB⟩ := hrel
    clear hs
    rcases (by omega : k = 0 ∨ k = 1 ∨ k = 2) with rfl | rfl | rfl
    · have x0 := q0.cell
      have x1 := q1.cell
      have hn : Hid (Blk wr.drew w.heap.size #[.int .i64 x, .int .i64 y] ∧ Blk wr.drew (w.heap.size + 1) #[.int .i64 x, .int .i64 y] ∧ Below w.heap.size w wr.drew) := ⟨q0, q1, hB.drew⟩
      clear q0 q1 hB
      go_wp2
      go_region
      go_wp2
      go_roundw
      case rel => exact ⟨1, by omega, rfl, hn.out⟩
      case measure => simp [intOf]
    · have x0 := q0.cell
      have x1 := q1.cell
      have hn : Hid (Blk wr.drew w.heap.size #[.int .i64 x, .int .i64 y] ∧ Blk wr.drew (w.heap.size + 1) #[.int .i64 x, .int .i64 y] ∧ Below w.heap.size w wr.drew) := ⟨q0, q1, hB.drew⟩
      clear q0 q1 hB
      go_wp2
      go_region
      go_wp2
      go_roundw
      case rel => exact ⟨2, by omega, rfl, hn.out⟩
      case measure => simp [intOf]
    · replace hB := hid hB
      clear q0 q1
      go_wp2
      go_ret
      exact ⟨rfl, hB.out⟩
set_option maxRecDepth 100000 in
theorem tob2 (x y : Bool) (w : World) : Calls Tryd.prog 107 #[.agg #[.bool x, .bool y]] w fun e w' => e = .returned (.agg #[.bool x, .bool y]) ∧ Below w.heap.size w w' := by
  have hs := hid (Tri.start w #[.bool x, .bool y] #[.bool false, .bool false] #[.bool false, .bool false] 34 34 34)
  go_enter Tryd.func107, Tryd.ntmps107
  go_wp2
  go_loopw [4] (fun i wr => ∃ k : Nat, k ≤ 2 ∧ i = .int .i64 k ∧ Tri w wr #[.bool x, .bool y] #[.bool false, .bool false] #[.bool (if 0 < k then x else false), .bool (if 1 < k then y else false)]) (fun i _ => 2 - (intOf i).toNat)
  case atStart => exact ⟨0, by omega, rfl, hs.out⟩
  case round =>
    obtain ⟨k, hk, rfl, hS⟩ := hrel
    clear hs
    rcases (by omega : k = 0 ∨ k = 1 ∨ k = 2) with rfl | rfl | rfl
    · have x0 := hS.q0.cell
      have x2 := hS.q2.cell
      have f2 := hS.q2.frozen
      have hn := hid (hS.put 0 (.bool x))
      clear hS
      go_wp2
      go_roundw
      case rel => exact ⟨1, by omega, rfl, hn.out⟩
      case measure => simp [intOf]
    · have x0 := hS.q0.cell
      have x2 := hS.q2.cell
      have f2 := hS.q2.frozen
      have hn := hid (hS.put 1 (.bool y))
      clear hS
      go_wp2
      go_roundw
      case rel => exact ⟨2, by omega, rfl, hn.out⟩
      case measure => simp [intOf]
    · have x1 := hS.q1.cell
      have f1 := hS.q1.frozen
      have x2 := hS.q2.cell
      have hb := hid hS.bel
      clear hS
      go_wp2
      refine bodyPost_ret (v := .agg #[.bool x, .bool y]) (by simp [results, Tryd.results107, go_sem, x1]) rfl ⟨rfl, ?_⟩
      repeat refine Below.setCell ?_ (by first | omega | (simp; done) | (simp; omega)) _
      exact hb.out
set_option maxRecDepth 100000 in
theorem eqb2 (x y : Bool) (w : World) : Calls Tryd.prog 86 #[.agg #[.bool x, .bool y], .agg #[.bool x, .bool y]] w fun e w' => e = .returned (.bool true) ∧ Below w.heap.size w w' := by
  have hs := hid (two_in (w := w) #[.bool x, .bool y] #[.bool x, .bool y] 34 34)
  go_enter Tryd.func86, Tryd.ntmps86
  go_wp2
  go_loopw [5] (fun i wr => ∃ k : Nat, k ≤ 2 ∧ i = .int .i64 k ∧ Blk wr w.heap.size #[.bool x, .bool y] ∧ Blk wr (w.heap.size + 1) #[.bool x, .bool y] ∧ Below w.heap.size w wr) (fun i _ => 2 - (intOf i).toNat)
  case atStart => exact ⟨0, by omega, rfl, hs.out⟩
  case round =>
    obtain ⟨k, hk, rfl, q0, q1, hB⟩ := hrel
    clear hs
    rcases (by omega : k = 0 ∨ k = 1 ∨ k = 2) with rfl | rfl | rfl
    · have x0 := q0.cell
      have x1 := q1.cell
      have hn : Hid (Blk wr.drew w.heap.size #[.bool x, .bool y] ∧ Blk wr.drew (w.heap.size + 1) #[.bool x, .bool y] ∧ Below w.heap.size w wr.drew) := ⟨q0, q1, hB.drew⟩
      clear q0 q1 hB
      go_wp2
      go_region
      go_wp2
      go_roundw
      case rel => exact ⟨1, by omega, rfl, hn.out⟩
      case measure => simp [intOf]
    · have x0 := q0.cell
      have x1 := q1.cell
      have hn : Hid (Blk wr.drew w.heap.size #[.bool x, .bool y] ∧ Blk wr.drew (w.heap.size + 1) #[.bool x, .bool y] ∧ Below w.heap.size w wr.drew) := ⟨q0, q1, hB.drew⟩
      clear q0 q1 hB
      go_wp2
      go_region
      go_wp2
      go_roundw
      case rel => exact ⟨2, by omega, rfl, hn.out⟩
      case measure => simp [intOf]
    · replace hB := hid hB
      clear q0 q1
      go_wp2
      go_ret
      exact ⟨rfl, hB.out⟩
theorem sg_full (z c : Sg) : ((((((((((((((((((sgA z).setIfInBounds 0 (.int .i64 c.r0)).setIfInBounds 1 (.int .i64 c.r1)).setIfInBounds 2 (.int .i64 c.r2)).setIfInBounds 3 (.int .i64 c.r3)).setIfInBounds 4 (.int .i64 c.r4)).setIfInBounds 5 (.int .i64 c.r5)).setIfInBounds 6 (.int .i64 c.r6)).setIfInBounds 7 (.int .i64 c.r7)).setIfInBounds 8 (.int .i64 c.sel)).setIfInBounds 9 (.int .i64 c.c0)).setIfInBounds 10 (.int .i64 c.c1)).setIfInBounds 11 (.bool c.o0)).setIfInBounds 12 (.bool c.o1)).setIfInBounds 13 (.int .i64 c.noise)).setIfInBounds 14 (.int .i64 c.shift)).setIfInBounds 15 (.int .i64 c.env)).setIfInBounds 16 (.int .i64 c.ec)) = sgA c := by
  simp only [List.setIfInBounds_toArray, List.set_cons_zero, List.set_cons_succ]
/-- a whole chip is laid over another -/
theorem sg_lay {W : World} {b : Nat} {z : Sg} (h : Blk W b (sgA z)) (c : Sg) : Blk (((((((((((((((((W.setCell ⟨b, 0, none⟩ (.int .i64 c.r0)).setCell ⟨b, 1, none⟩ (.int .i64 c.r1)).setCell ⟨b, 2, none⟩ (.int .i64 c.r2)).setCell ⟨b, 3, none⟩ (.int .i64 c.r3)).setCell ⟨b, 4, none⟩ (.int .i64 c.r4)).setCell ⟨b, 5, none⟩ (.int .i64 c.r5)).setCell ⟨b, 6, none⟩ (.int .i64 c.r6)).setCell ⟨b, 7, none⟩ (.int .i64 c.r7)).setCell ⟨b, 8, none⟩ (.int .i64 c.sel)).setCell ⟨b, 9, none⟩ (.int .i64 c.c0)).setCell ⟨b, 10, none⟩ (.int .i64 c.c1)).setCell ⟨b, 11, none⟩ (.bool c.o0)).setCell ⟨b, 12, none⟩ (.bool c.o1)).setCell ⟨b, 13, none⟩ (.int .i64 c.noise)).setCell ⟨b, 14, none⟩ (.int .i64 c.shift)).setCell ⟨b, 15, none⟩ (.int .i64 c.env)).setCell ⟨b, 16, none⟩ (.int .i64 c.ec)) b (sgA c) := by
  have q := (((((((((((((((((h.set 0 (.int .i64 c.r0)).set 1 (.int .i64 c.r1)).set 2 (.int .i64 c.r2)).set 3 (.int .i64 c.r3)).set 4 (.int .i64 c.r4)).set 5 (.int .i64 c.r5)).set 6 (.int .i64 c.r6)).set 7 (.int .i64 c.r7)).set 8 (.int .i64 c.sel)).set 9 (.int .i64 c.c0)).set 10 (.int .i64 c.c1)).set 11 (.bool c.o0)).set 12 (.bool c.o1)).set 13 (.int .i64 c.noise)).set 14 (.int .i64 c.shift)).set 15 (.int .i64 c.env)).set 16 (.int .i64 c.ec))
  rw [sg_full] at q
  exact q
theorem sg_put9 (c : Sg) : ((((((((((sgA zeS).setIfInBounds 0 (.int .i64 c.r0)).setIfInBounds 1 (.int .i64 c.r1)).setIfInBounds 2 (.int .i64 c.r2)).setIfInBounds 3 (.int .i64 c.r3)).setIfInBounds 4 (.int .i64 c.r4)).setIfInBounds 5 (.int .i64 c.r5)).setIfInBounds 6 (.int .i64 c.r6)).setIfInBounds 7 (.int .i64 c.r7)).setIfInBounds 8 (.int .i64 c.sel)) = sgA { zeS with r0 := c.r0, r1 := c.r1, r2 := c.r2, r3 := c.r3, r4 := c.r4, r5 := c.r5, r6 := c.r6, r7 := c.r7, sel := c.sel } := by
  simp only [List.setIfInBounds_toArray, List.set_cons_zero, List.set_cons_succ]
theorem sg_put11 (c : Sg) : ((sgA { zeS with r0 := c.r0, r1 := c.r1, r2 := c.r2, r3 := c.r3, r4 := c.r4, r5 := c.r5, r6 := c.r6, r7 := c.r7, sel := c.sel }).setIfInBounds 9 (.int .i64 c.c0)).setIfInBounds 10 (.int .i64 c.c1) = sgA { zeS with r0 := c.r0, r1 := c.r1, r2 := c.r2, r3 := c.r3, r4 := c.r4, r5 := c.r5, r6 := c.r6, r7 := c.r7, sel := c.sel, c0 := c.c0, c1 := c.c1 } := by
  simp only [List.setIfInBounds_toArray, List.set_cons_zero, List.set_cons_succ]
theorem sg_put17 (c : Sg) : (((((((sgA { zeS with r0 := c.r0, r1 := c.r1, r2 := c.r2, r3 := c.r3, r4 := c.r4, r5 := c.r5, r6 := c.r6, r7 := c.r7, sel := c.sel, c0 := c.c0, c1 := c.c1 }).setIfInBounds 11 (.bool c.o0)).setIfInBounds 12 (.bool c.o1)).setIfInBounds 13 (.int .i64 c.noise)).setIfInBounds 14 (.int .i64 c.shift)).setIfInBounds 15 (.int .i64 c.env)).setIfInBounds 16 (.int .i64 c.ec)) = sgA c := by
  simp only [List.setIfInBounds_toArray, List.set_cons_zero, List.set_cons_succ]
set_option maxRecDepth 100000 in
set_option maxHeartbeats 2000000 in
theorem tosg (c : Sg) (w : World) : Calls Tryd.prog 58 #[sgV c] w fun e w' => e = .returned (sgV c) ∧ Below w.heap.size w w' := by
  have hs := hid (Tri.start w (sgA c) (sgA zeS) (sgA zeS) 54 36 36)
  have x0 := hs.out.q0.cell
  go_enter Tryd.func58, Tryd.ntmps58
  go_upto_region 2 with fail
  obtain ⟨V, hV⟩ : ∃ V, (((w.alloc (.cells (sgA c) 54)).alloc (.cells (sgA zeS) 36)).alloc (.cells (sgA zeS) 36)) = V := ⟨_, rfl⟩
  rw [hV] at hs x0 ⊢
  clear hV
  go_wp2_with fail
  refine (toa c.cu V).mono ?_
  rintro e w1 ⟨rfl, hb⟩
  have h1 := hs.out.below hb
  clear hs x0 hb
  have y0 := h1.q0.cell
  have y2 := h1.q2.cell
  have g2 := h1.q2.frozen
  have l2 := h1.q2.lt
  have n1 := (((((((((h1.put 0 (.int .i64 c.r0)).put 1 (.int .i64 c.r1)).put 2 (.int .i64 c.r2)).put 3 (.int .i64 c.r3)).put 4 (.int .i64 c.r4)).put 5 (.int .i64 c.r5)).put 6 (.int .i64 c.r6)).put 7 (.int .i64 c.r7)).put 8 (.int .i64 c.sel))
  rw [sg_put9] at n1
  clear h1
  go_upto_region 4 with fail
  obtain ⟨V1, hV1⟩ : ∃ V, (((((((((w1.setCell ⟨w.heap.size + 1 + 1, 0, none⟩ (.int .i64 c.r0)).setCell ⟨w.heap.size + 1 + 1, 1, none⟩ (.int .i64 c.r1)).setCell ⟨w.heap.size + 1 + 1, 2, none⟩ (.int .i64 c.r2)).setCell ⟨w.heap.size + 1 + 1, 3, none⟩ (.int .i64 c.r3)).setCell ⟨w.heap.size + 1 + 1, 4, none⟩ (.int .i64 c.r4)).setCell ⟨w.heap.size + 1 + 1, 5, none⟩ (.int .i64 c.r5)).setCell ⟨w.heap.size + 1 + 1, 6, none⟩ (.int .i64 c.r6)).setCell ⟨w.heap.size + 1 + 1, 7, none⟩ (.int .i64 c.r7)).setCell ⟨w.heap.size + 1 + 1, 8, none⟩ (.int .i64 c.sel)) = V := ⟨_, rfl⟩
  rw [hV1] at n1 ⊢
  clear hV1 y0 y2 g2 l2
  have y0 := n1.q0.cell
  replace n1 := hid n1
  go_wp2_with fail
  refine (toi2 c.c0 c.c1 _).mono ?_
  rintro e w2 ⟨rfl, hb⟩
  have h2 := n1.out.below hb
  clear n1 hb y0
  have y0 := h2.q0.cell
  have y2 := h2.q2.cell
  have g2 := h2.q2.frozen
  have l2 := h2.q2.lt
  have n2 := ((h2.put 9 (.int .i64 c.c0)).put 10 (.int .i64 c.c1))
  rw [sg_put11] at n2
  clear h2
  go_upto_region 5 with fail
  obtain ⟨V2, hV2⟩ : ∃ V, ((w2.setCell ⟨w.heap.size + 1 + 1, 9, none⟩ (.int .i64 c.c0)).setCell ⟨w.heap.size + 1 + 1, 10, none⟩ (.int .i64 c.c1)) = V := ⟨_, rfl⟩
  rw [hV2] at n2 ⊢
  clear hV2 y0 y2 g2 l2
  have y0 := n2.q0.cell
  replace n2 := hid n2
  go_wp2_with fail
  refine (tob2 c.o0 c.o1 _).mono ?_
  rintro e w3 ⟨rfl, hb⟩
  have h1 := n2.out.below hb
  clear n2 hb y0
  have y0 := h1.q0.cell
  have y2 := h1.q2.cell
  have g2 := h1.q2.frozen
  have l2 := h1.q2.lt
  have n3 := ((((((h1.put 11 (.bool c.o0)).put 12 (.bool c.o1)).put 13 (.int .i64 c.noise)).put 14 (.int .i64 c.shift)).put 15 (.int .i64 c.env)).put 16 (.int .i64 c.ec))
  rw [sg_put17] at n3
  clear h1
  go_upto_region 10 with fail
  obtain ⟨V3, hV3⟩ : ∃ V, ((((((w3.setCell ⟨w.heap.size + 1 + 1, 11, none⟩ (.bool c.o0)).setCell ⟨w.heap.size + 1 + 1, 12, none⟩ (.bool c.o1)).setCell ⟨w.heap.size + 1 + 1, 13, none⟩ (.int .i64 c.noise)).setCell ⟨w.heap.size + 1 + 1, 14, none⟩ (.int .i64 c.shift)).setCell ⟨w.heap.size + 1 + 1, 15, none⟩ (.int .i64 c.env)).setCell ⟨w.heap.size + 1 + 1, 16, none⟩ (.int .i64 c.ec)) = V := ⟨_, rfl⟩
  rw [hV3] at n3 ⊢
  clear hV3 y0 y2 g2 l2
  have y1 := n3.q1.cell
  have y2 := n3.q2.cell
  have g1 := n3.q1.frozen
  have l1 := n3.q1.lt
  have hB := hid n3.bel
  obtain ⟨tt, ht⟩ := sg_lay n3.q1 c
  replace ht := hid ht
  clear n3
  go_wp2
  refine bodyPost_ret (v := sgV c) (results_cell_row Tryd.results58 _ _ (w.heap.size + 1) tt (sgA c) (0, 0) _ rfl ht.out Tryd.underlying36 rfl (by kernel_rfl)) rfl ⟨rfl, ?_⟩
  repeat refine Below.setCell ?_ (by first | omega | (simp; done) | (simp; omega)) _
  exact hB.out
set_option maxRecDepth 100000 in
set_option maxHeartbeats 1000000 in
theorem eqsg (c : Sg) (w : World) : Calls Tryd.prog 38 #[sgV c, sgV c] w fun e w' => e = .returned (.bool true) ∧ Below w.heap.size w w' := by
  have hs := hid (two_in (w := w) (sgA c) (sgA c) 36 36)
  have x0 := hs.out.1.cell
  have x1 := hs.out.2.1.cell
  go_enter Tryd.func38, Tryd.ntmps38
  go_upto_region 1 with fail
  obtain ⟨V, hV⟩ : ∃ V, ((w.alloc (.cells (sgA c) 36)).alloc (.cells (sgA c) 36)) = V := ⟨_, rfl⟩
  rw [hV] at hs x0 x1 ⊢
  clear hV
  go_wp2_with fail
  refine (eqa_yes c.cu V).mono ?_
  rintro e w1 ⟨rfl, hb⟩
  have h1 := hid (And.intro (hs.out.1.below hb hs.out.1.lt) (And.intro (hs.out.2.1.below hb hs.out.2.1.lt) (hs.out.2.2.trans (hb.mono hs.out.2.2.size))))
  have y0 := h1.out.1.cell
  have y1 := h1.out.2.1.cell
  clear hs x0 x1 hb
  go_wp2_with fail
  refine (eqi2 c.c0 c.c1 _).mono ?_
  rintro e w2 ⟨rfl, hb⟩
  have h2 := hid (And.intro (h1.out.1.below hb h1.out.1.lt) (And.intro (h1.out.2.1.below hb h1.out.2.1.lt) (new_trans h1.out.2.2 hb)))
  clear h1 y0 y1 hb
  have y0 := h2.out.1.cell
  have y1 := h2.out.2.1.cell
  go_wp2_with fail
  refine (eqb2 c.o0 c.o1 _).mono ?_
  rintro e w3 ⟨rfl, hb⟩
  have h3 := hid (And.intro (h2.out.1.below hb h2.out.1.lt) (And.intro (h2.out.2.1.below hb h2.out.2.1.lt) (new_trans h2.out.2.2 hb)))
  clear h2 y0 y1 hb
  have y0 := h3.out.1.cell
  have y1 := h3.out.2.1.cell
  have hB := hid h3.out.2.2
  clear h3
  go_wp2
  go_ret
  exact ⟨rfl, hB.out⟩
theorem arr17 {α : Type} {cs : Array α} (h : cs.size = 17) : ∃ c0 c1 c2 c3 c4 c5 c6 c7 c8 c9 c10 c11 c12 c13 c14 c15 c16, cs = #[c0, c1, c2, c3, c4, c5, c6, c7, c8, c9, c10, c11, c12, c13, c14, c15, c16] := by
  obtain ⟨l⟩ := cs
  match l, h with
  | [c0, c1, c2, c3, c4, c5, c6, c7, c8, c9, c10, c11, c12, c13, c14, c15, c16], _ => exact ⟨c0, c1, c2, c3, c4, c5, c6, c7, c8, c9, c10, c11, c12, c13, c14, c15, c16, rfl⟩
set_option maxRecDepth 100000 in
set_option maxHeartbeats 1000000 in
theorem sg_in {H : Type} {enc : TypeId × Value → H} {W : World} {base b0 : Nat} {spare : Nat → Bool} {held : Bool} {r : Reach} {v : Value} {d : DataW H} {p : List MemPlace}
    (hv : Value.okWide Tryd.prog W r b0 54 v) (h : DataW.Trod enc Tryd.prog W base spare held 54 v d p) : ∃ c : Sg, v = sgV c := by
  obtain ⟨cs, rfl, hsz⟩ := okWide_struct Tryd.underlying54 hv
  have c17 : Tryd.prog.cellsOf 54 = 17 := by kernel_rfl
  have ci : Tryd.prog.cellsOf 3 = 1 := by kernel_rfl
  have cb : Tryd.prog.cellsOf 4 = 1 := by kernel_rfl
  have c8 : Tryd.prog.cellsOf 24 = 8 := by kernel_rfl
  have c2 : Tryd.prog.cellsOf 33 = 2 := by kernel_rfl
  have d2 : Tryd.prog.cellsOf 34 = 2 := by kernel_rfl
  obtain ⟨v0, v1, v2, v3, v4, v5, v6, v7, v8, v9, v10, v11, v12, v13, v14, v15, v16, rfl⟩ := arr17 (hsz.trans c17)
  obtain ⟨fuel, hf⟩ := h
  obtain ⟨xs, n, _, _, hl, hlen, hfl⟩ := DataW.trod_struct Tryd.underlying54 hf
  have k0 : DataW.trod enc Tryd.prog W base spare held n 24 (([v0, v1, v2, v3, v4, v5, v6, v7, v8, v9, v10, v11, v12, v13, v14, v15, v16].drop 0).take (Tryd.prog.cellsOf 24)) = xs[0]? := hfl 0 _ rfl
  have k1 : DataW.trod enc Tryd.prog W base spare held n 3 (([v0, v1, v2, v3, v4, v5, v6, v7, v8, v9, v10, v11, v12, v13, v14, v15, v16].drop 8).take (Tryd.prog.cellsOf 3)) = xs[1]? := hfl 1 _ rfl
  have k2 : DataW.trod enc Tryd.prog W base spare held n 33 (([v0, v1, v2, v3, v4, v5, v6, v7, v8, v9, v10, v11, v12, v13, v14, v15, v16].drop 9).take (Tryd.prog.cellsOf 33)) = xs[2]? := hfl 2 _ rfl
  have k3 : DataW.trod enc Tryd.prog W base spare held n 34 (([v0, v1, v2, v3, v4, v5, v6, v7, v8, v9, v10, v11, v12, v13, v14, v15, v16].drop 11).take (Tryd.prog.cellsOf 34)) = xs[3]? := hfl 3 _ rfl
  have k4 : DataW.trod enc Tryd.prog W base spare held n 3 (([v0, v1, v2, v3, v4, v5, v6, v7, v8, v9, v10, v11, v12, v13, v14, v15, v16].drop 13).take (Tryd.prog.cellsOf 3)) = xs[4]? := hfl 4 _ rfl
  have k5 : DataW.trod enc Tryd.prog W base spare held n 3 (([v0, v1, v2, v3, v4, v5, v6, v7, v8, v9, v10, v11, v12, v13, v14, v15, v16].drop 14).take (Tryd.prog.cellsOf 3)) = xs[5]? := hfl 5 _ rfl
  have k6 : DataW.trod enc Tryd.prog W base spare held n 3 (([v0, v1, v2, v3, v4, v5, v6, v7, v8, v9, v10, v11, v12, v13, v14, v15, v16].drop 15).take (Tryd.prog.cellsOf 3)) = xs[6]? := hfl 6 _ rfl
  have k7 : DataW.trod enc Tryd.prog W base spare held n 3 (([v0, v1, v2, v3, v4, v5, v6, v7, v8, v9, v10, v11, v12, v13, v14, v15, v16].drop 16).take (Tryd.prog.cellsOf 3)) = xs[7]? := hfl 7 _ rfl
  rw [c8] at k0
  rw [ci] at k1 k4 k5 k6 k7
  rw [c2] at k2
  rw [d2] at k3
  simp only [List.drop_succ_cons, List.drop_zero, List.take_succ_cons, List.take_zero] at k0 k1 k2 k3 k4 k5 k6 k7
  match xs, hlen with
  | [y0, y1, y2, y3, y4, y5, y6, y7], _ =>
    simp only [List.getElem?_cons_zero, List.getElem?_cons_succ] at k0 k1 k2 k3 k4 k5 k6 k7
    obtain ⟨zs, m, hz1, hz2, hz3, hz4, hel⟩ := DataW.trod_array Tryd.underlying24 k0
    obtain ⟨ys, m2, ay1, ay2, ay3, ay4, hel2⟩ := DataW.trod_array Tryd.underlying33 k2
    obtain ⟨bs, m3, ab1, ab2, ab3, ab4, hel3⟩ := DataW.trod_array Tryd.underlying34 k3
    obtain ⟨sel, i1, _, _⟩ := DataW.trod_int Tryd.underlying3 k1
    obtain ⟨noise, i4, _, _⟩ := DataW.trod_int Tryd.underlying3 k4
    obtain ⟨shift, i5, _, _⟩ := DataW.trod_int Tryd.underlying3 k5
    obtain ⟨env, i6, _, _⟩ := DataW.trod_int Tryd.underlying3 k6
    obtain ⟨ec, i7, _, _⟩ := DataW.trod_int Tryd.underlying3 k7
    have key : ∀ i (hi : i < 8), ∃ z : Int, [v0, v1, v2, v3, v4, v5, v6, v7][i]? = some (.int .i64 z) := by
      intro i hi
      have h0 := hel i hi
      rw [ci, Nat.mul_one] at h0
      have hxi : zs[i]? = some zs[i] := List.getElem?_eq_getElem (by omega)
      rw [hxi] at h0
      obtain ⟨z, e1, _, _⟩ := DataW.trod_int Tryd.underlying3 h0
      refine ⟨z, ?_⟩
      have := congrArg (·[0]?) e1
      simpa [List.getElem?_take, List.getElem?_drop] using this
    have key2 : ∀ i (hi : i < 2), ∃ z : Int, [v9, v10][i]? = some (.int .i64 z) := by
      intro i hi
      have h0 := hel2 i hi
      rw [ci, Nat.mul_one] at h0
      have hxi : ys[i]? = some ys[i] := List.getElem?_eq_getElem (by omega)
      rw [hxi] at h0
      obtain ⟨z, e1, _, _⟩ := DataW.trod_int Tryd.underlying3 h0
      refine ⟨z, ?_⟩
      have := congrArg (·[0]?) e1
      simpa [List.getElem?_take, List.getElem?_drop] using this
    have key3 : ∀ i (hi : i < 2), ∃ z : Bool, [v11, v12][i]? = some (.bool z) := by
      intro i hi
      have h0 := hel3 i hi
      rw [cb, Nat.mul_one] at h0
      have hxi : bs[i]? = some bs[i] := List.getElem?_eq_getElem (by omega)
      rw [hxi] at h0
      obtain ⟨z, e1, _⟩ := DataW.trod_bool Tryd.underlying4 h0
      refine ⟨z, ?_⟩
      have := congrArg (·[0]?) e1
      simpa [List.getElem?_take, List.getElem?_drop] using this
    obtain ⟨r0, e0⟩ := key 0 (by omega)
    obtain ⟨r1, e1⟩ := key 1 (by omega)
    obtain ⟨r2, e2⟩ := key 2 (by omega)
    obtain ⟨r3, e3⟩ := key 3 (by omega)
    obtain ⟨r4, e4⟩ := key 4 (by omega)
    obtain ⟨r5, e5⟩ := key 5 (by omega)
    obtain ⟨r6, e6⟩ := key 6 (by omega)
    obtain ⟨r7, e7⟩ := key 7 (by omega)
    obtain ⟨c0, e9⟩ := key2 0 (by omega)
    obtain ⟨c1, e10⟩ := key2 1 (by omega)
    obtain ⟨o0, e11⟩ := key3 0 (by omega)
    obtain ⟨o1, e12⟩ := key3 1 (by omega)
    simp only [List.getElem?_cons_zero, List.getElem?_cons_succ, Option.some.injEq] at e0 e1 e2 e3 e4 e5 e6 e7 e9 e10 e11 e12
    simp only [List.cons.injEq, and_true] at i1 i4 i5 i6 i7
    exact ⟨⟨r0, r1, r2, r3, r4, r5, r6, r7, sel, c0, c1, o0, o1, noise, shift, env, ec⟩, by rw [e0, e1, e2, e3, e4, e5, e6, e7, i1, e9, e10, e11, e12, i4, i5, i6, i7]⟩
end Go.Proofs.YtifcdojaocndhaaDoor
