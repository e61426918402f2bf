/- A processor that the laws draw: it is right. -/
import Derived.Test.YtgpmpfikeindfaaGreatDoorV10
import Derived.Test.YtgpmpfikeindfaaGreatDoorV39
namespace Go.Proofs.YtgpmpfikeindfaaGreatDoor
open Go.ChangeShapes Go.WideShapes Go.ChangeAt Go.RowKit
set_option linter.unusedVariables false
set_option linter.unusedSimpArgs false

def Cu.put (c : Cu) (v : Int) : Nat → Cu
  | 0 => { c with r0 := v }
  | 1 => { c with r1 := v }
  | 2 => { c with r2 := v }
  | 3 => { c with r3 := v }
  | 4 => { c with r4 := v }
  | 5 => { c with r5 := v }
  | 6 => { c with r6 := v }
  | _ => { c with r7 := v }
theorem cuA_put (c : Cu) (k : Nat) (v : Int) (hk : k < 8) : (cuA c).setIfInBounds k (.int .i64 v) = cuA (c.put v k) := by
  rcases eight hk with rfl | rfl | rfl | rfl | rfl | rfl | rfl | rfl <;> rfl
theorem cuA_atJ (c : Cu) (k : Nat) (hk : k < 8) : (cuA c)[k]? = some (.int .i64 (c.reg k)) := by
  rcases eight hk with rfl | rfl | rfl | rfl | rfl | rfl | rfl | rfl <;> rfl
/-- every number is a byte, and no interrupt has just been let -/
def Cu.byt (c : Cu) : Prop := (∀ i, i < 8 → 0 ≤ c.reg i ∧ c.reg i ≤ 255) ∧ (0 ≤ c.f ∧ c.f ≤ 255) ∧ (0 ≤ c.sp ∧ c.sp ≤ 255) ∧ (0 ≤ c.pc ∧ c.pc ≤ 255) ∧ c.ei = false
theorem Cu.byt.put {c : Cu} (h : c.byt) (k : Nat) (v : Int) (h0 : 0 ≤ v) (h1 : v ≤ 255) : (c.put v k).byt := by
  obtain ⟨hr, hf, hs, hp, he⟩ := h
  refine ⟨fun i hi => ?_, ?_⟩
  · have := hr i hi
    rcases eight hi with rfl | rfl | rfl | rfl | rfl | rfl | rfl | rfl <;> (unfold Cu.put; split <;> simp only [Cu.reg] at this ⊢ <;> omega)
  · unfold Cu.put
    split <;> exact ⟨hf, hs, hp, he⟩
theorem byt_ok {c : Cu} (h : c.byt) (e b : Bool) (he : e = true → c.iff = true) (h6 : c.r6 = 0) : okC { c with ei := e, halt := b } = true := by
  obtain ⟨hr, hf, hs, hp, _⟩ := h
  unfold okC
  have h1 : regsB { c with ei := e, halt := b } = true := regs_all (fun i hi => by
    have := hr i hi
    have e2 : Cu.reg { c with ei := e, halt := b } i = c.reg i := by
      rcases eight hi with rfl | rfl | rfl | rfl | rfl | rfl | rfl | rfl <;> rfl
    rw [e2]
    exact in_yes this.1 this.2)
  rw [h1, in_yes hf.1 hf.2, in_yes hs.1 hs.2, in_yes hp.1 hp.2]
  simp only [h6, decide_true, Bool.and_true, Bool.true_and]
  cases e
  · rfl
  · simp [he rfl]
/-- while a processor is being drawn -/
structure KSt (w W : World) (p : Nat) (a : Option Addr) (len cap nn bm : Nat) (A : Array Value) : Prop where
  src : Src W p a len cap nn
  ord : p < w.heap.size ∧ w.heap.size < bm ∧ bm < W.heap.size
  q0 : Blk W w.heap.size zeC
  qm : Blk W bm A
  gro : w.grownBy W (some p)
theorem KSt.next {w W W' : World} {p : Nat} {a : Option Addr} {len cap nn nn' bm : Nat} {A : Array Value} (h : KSt w W p a len cap nn bm A) (hg : W.grownBy W' (some p)) (hs : Src W' p a len cap nn') : KSt w W' p a len cap nn' bm A := by
  obtain ⟨_, ⟨o1, o2, o3⟩, q0, qm, gro⟩ := h
  have hz := hg.size
  exact ⟨hs, ⟨o1, o2, by omega⟩, q0.grown hg (by simp; omega), qm.grown hg (by simp; omega), grown_two gro hg⟩
theorem KSt.set {w W : World} {p : Nat} {a : Option Addr} {len cap nn bm : Nat} {A : Array Value} (h : KSt w W p a len cap nn bm A) (i : Nat) (u : Value) : KSt w (W.setCell ⟨bm, i, none⟩ u) p a len cap nn bm (A.setIfInBounds i u) := by
  obtain ⟨src, ⟨o1, o2, o3⟩, q0, qm, gro⟩ := h
  exact ⟨src.setO (by omega), ⟨o1, o2, by rw [sizeSet]; exact o3⟩, q0.other (by simp; omega) _, qm.set i u, grown_setO gro (by omega)⟩
theorem KSt.alloc {w W : World} {p : Nat} {a : Option Addr} {len cap nn bm : Nat} {A : Array Value} (h : KSt w W p a len cap nn bm A) (o : Obj) : KSt w (W.alloc o) p a len cap nn bm A :=
  h.next (World.grownBy_alloc _ _ _) (h.src.kept (r := none) (World.grownBy_alloc _ _ _) (by intro g e; cases e))
set_option maxRecDepth 100000 in
set_option maxHeartbeats 4000000 in
theorem cpu_any (p : Nat) (a : Option Addr) (len cap nn : Nat) (w : World) (hs : Src w p a len cap nn) (hn : nn ≤ 100000) :
    Calls Tryz.prog 17 #[.pointer (some ⟨p, 0, none⟩)] w fun e w' => ∃ c : Cu, e = .returned (cuV c) ∧ okC c = true ∧ (∃ n', n' ≤ nn + 2000 ∧ Src w' p a len cap n') ∧ w.grownBy w' (some p) := by
  have hp := hs.lt
  have hs1 : Hid (∀ o, Src (w.alloc o) p a len cap nn) := fun o => hs.kept (r := none) (World.grownBy_alloc _ _ _) (by intro g e; cases e)
  clear hs
  go_enter Tryz.func17, Tryz.ntmps17
  go_wp2_with fail
  refine (next_any p a len cap nn 256 _ (hs1.out _) (by omega)).mono ?_
  rintro e w1 ⟨⟨v1, rfl, g10, _, g11⟩, ⟨n1, hn1, hs2⟩, hg1⟩
  have hq := (Blk.new w zeC 25).grown hg1 (by simp; omega)
  have hgr : w.grownBy w1 (some p) := ⟨hg1.os, hg1.tape, hg1.output, by have := hg1.size; rw [World.size_alloc] at this; omega, fun k hk hne => (hg1.block k (by rw [World.size_alloc]; omega) hne).trans (Below.heap_alloc _ _ _ hk)⟩
  have b1 := g11 (by omega)
  replace hq := hid hq
  replace hgr := hid hgr
  clear hg1 g11 hs1
  go_wp2_with fail
  refine (next_any p a len cap n1 192 _ hs2 (by omega)).mono ?_
  rintro e w2 ⟨⟨v2, rfl, g20, _, g21⟩, ⟨n2, hn2, hs3⟩, hg2⟩
  have hq2 := hid (hq.out.grown hg2 (by simp; omega))
  have hgr2 := hid (grown_two hgr.out hg2)
  have b2 := g21 (by omega)
  clear hg2 g21 hq hgr hs2
  go_wp2_with fail
  refine (next_any p a len cap n2 256 _ hs3 (by omega)).mono ?_
  rintro e w3 ⟨⟨v3, rfl, g30, _, g31⟩, ⟨n3, hn3, hs4⟩, hg3⟩
  have hq3 := hid (hq2.out.grown hg3 (by simp; omega))
  have hgr3 := hid (grown_two hgr2.out hg3)
  have b3 := g31 (by omega)
  clear hg3 g31 hq2 hgr2 hs3
  go_wp2_with fail
  refine (chance_any p a len cap n3 2 _ hs4 (by omega) (by omega) (by omega)).mono ?_
  rintro e w4 ⟨⟨i4, rfl⟩, ⟨n4, hn4, hs5⟩, hg4⟩
  have hq4 := hq3.out.grown hg4 (by simp; omega)
  have hgr4 := grown_two hgr3.out hg4
  have hz4 := hq4.lt
  obtain ⟨c0, hc0⟩ : ∃ c0 : Cu, c0 = ⟨0, 0, 0, 0, 0, 0, 0, 0, v1, 64 + v2, v3, i4, false, false⟩ := ⟨_, rfl⟩
  have hby : c0.byt := by
    subst hc0
    refine ⟨fun i hi => ?_, ⟨g10, by show v1 ≤ 255; omega⟩, ⟨by show 0 ≤ 64 + v2; omega, by show 64 + v2 ≤ 255; omega⟩, ⟨g30, by show v3 ≤ 255; omega⟩, rfl⟩
    rcases eight hi with rfl | rfl | rfl | rfl | rfl | rfl | rfl | rfl <;> simp [Cu.reg]
  have S0 : KSt w (w4.alloc (.cells (cuA c0) 25)) p a len cap n4 w4.heap.size (cuA c0) := by
    have hga := World.grownBy_alloc w4 (.cells (cuA c0) 25) (some p)
    exact ⟨hs5.kept (r := none) (World.grownBy_alloc _ _ _) (by intro g e; cases e), ⟨hp, by omega, by simp⟩, hq4.alloc _, Blk.new w4 _ _, grown_two hgr4 hga⟩
  have hcA : cuA c0 = #[.int .i64 0, .int .i64 0, .int .i64 0, .int .i64 0, .int .i64 0, .int .i64 0, .int .i64 0, .int .i64 0, .int .i64 v1, .int .i64 (64 + v2), .int .i64 v3, .bool i4, .bool false, .bool false] := by subst hc0; rfl
  replace S0 := hid S0
  replace hby := hid hby
  replace hcA := hid hcA
  clear hq3 hgr3 hq4 hgr4 hg4 hs5 hc0 hs4
  go_upto_region 2 with fail
  rw [← hcA.out]
  obtain ⟨W4, hW4⟩ : ∃ W4, w4.alloc (.cells (cuA c0) 25) = W4 := ⟨_, rfl⟩
  obtain ⟨bm, hbm⟩ : ∃ bm, w4.heap.size = bm := ⟨_, rfl⟩
  rw [hW4, hbm] at S0
  rw [hW4, hbm]
  clear hW4 hbm hcA g10 b1 g20 b2 g30 b3 hz4
  have hn4' : n4 ≤ nn + 100 := by omega
  clear hn1 hn2 hn3 hn4
  go_wp2
  go_loopw [4] (fun i wr => ∃ (k nk : Nat) (c : Cu), k ≤ 8 ∧ i = .int .i64 k ∧ nk ≤ nn + 100 + 12 * k ∧ c.byt ∧ KSt w wr p a len cap nk bm (cuA c)) (fun i _ => 8 - (intOf i).toNat)
  case atStart => exact ⟨0, n4, c0, by omega, rfl, by omega, hby.out, S0.out⟩
  case round =>
    obtain ⟨k, nk, c, hk, rfl, hnk, hbc, hS⟩ := hrel
    clear S0 hby
    by_cases hlt : k < 8
    · replace hS := hid hS
      replace hbc := hid hbc
      go_wp2_with fail
      refine (next_any p a len cap nk 256 _ hS.out.src (by omega)).mono ?_
      rintro e w5 ⟨⟨v5, rfl, g50, _, g51⟩, ⟨n5, hn5, hs5⟩, hg5⟩
      have S5 := hid (hS.out.next hg5 hs5)
      have b5 := g51 (by omega)
      clear hg5 g51 hs5 hS
      go_wp2_with fail
      refine (next_any p a len cap n5 4 _ S5.out.src (by omega)).mono ?_
      rintro e w6 ⟨⟨v6, rfl, g60, _, g61⟩, ⟨n6, hn6, hs6⟩, hg6⟩
      have S6 := hid (S5.out.next hg6 hs6)
      have b6 := g61 (by omega)
      clear hg6 g61 hs6 S5
      go_wp2_with fail
      refine (next_any p a len cap n6 190 _ S6.out.src (by omega)).mono ?_
      rintro e w7 ⟨⟨v7, rfl, g70, _, g71⟩, ⟨n7, hn7, hs7⟩, hg7⟩
      have b7 := g71 (by omega)
      have S7 := hid ((S6.out.next hg7 hs7).alloc (.cells #[.int .i64 v5, .int .i64 v6, .int .i64 (64 + v7)] 3))
      have q7 := hid (Blk.new w7 #[.int .i64 v5, .int .i64 v6, .int .i64 (64 + v7)] 3)
      obtain ⟨W7, hW7⟩ : ∃ W7, w7.alloc (.cells #[.int .i64 v5, .int .i64 v6, .int .i64 (64 + v7)] 3) = W7 := ⟨_, rfl⟩
      have hps : p < w7.heap.size := hs7.lt
      obtain ⟨s7, hs7'⟩ : ∃ s7, w7.heap.size = s7 := ⟨_, rfl⟩
      rw [hs7'] at hps
      rw [hW7] at S7 q7
      rw [hs7'] at q7
      clear hg7 g71 hs7 S6
      go_wp2_with fail
      clear hW7 hs7'
      refine (next_any p a len cap n7 3 _ S7.out.src (by omega)).mono ?_
      rintro e w8 ⟨⟨v8, rfl, g80, _, g81⟩, ⟨n8, hn8, hs8⟩, hg8⟩
      have b8 := g81 (by omega)
      have S8 := hid (S7.out.next hg8 hs8)
      have q8 := (q7.out.grown hg8 (by simp; omega)).cell
      have xm := S8.out.qm.cell k
      rw [cuA_atJ c k hlt] at xm
      have fm := S8.out.qm.frozen k
      clear hg8 g81 hs8 S7 q7
      have h3 : v8 = 0 ∨ v8 = 1 ∨ v8 = 2 := by omega
      rcases h3 with rfl | rfl | rfl
      · have hE := hid (S8.out.set k (.int .i64 v5))
        rw [cuA_put c k v5 hlt] at hE
        have hB := hid (hbc.out.put k v5 (by omega) (by omega))
        clear S8
        go_wp2
        go_roundw
        case rel => exact ⟨k + 1, n8, _, by omega, by go_num, by omega, hB.out, hE.out⟩
        case measure => simp [intOf]; omega
      · have hE := hid (S8.out.set k (.int .i64 v6))
        rw [cuA_put c k v6 hlt] at hE
        have hB := hid (hbc.out.put k v6 (by omega) (by omega))
        clear S8
        go_wp2
        go_roundw
        case rel => exact ⟨k + 1, n8, _, by omega, by go_num, by omega, hB.out, hE.out⟩
        case measure => simp [intOf]; omega
      · have hE := hid (S8.out.set k (.int .i64 (64 + v7)))
        rw [cuA_put c k (64 + v7) hlt] at hE
        have hB := hid (hbc.out.put k (64 + v7) (by omega) (by omega))
        clear S8
        go_wp2
        go_roundw
        case rel => exact ⟨k + 1, n8, _, by omega, by go_num, by omega, hB.out, hE.out⟩
        case measure => simp [intOf]; omega
    · obtain rfl : k = 8 := by omega
      have S9 := hS.set 6 (.int .i64 0)
      rw [cuA_put c 6 0 (by omega)] at S9
      have hB9 := hbc.put 6 0 (by omega) (by omega)
      have h6 : (c.put 0 6).r6 = 0 := rfl
      have xm := hS.qm.cell
      have fm := hS.qm.frozen
      have lm := hS.qm.lt
      replace S9 := hid S9
      replace hB9 := hid hB9
      replace h6 := hid h6
      clear hS hbc
      go_upto_region 7 with fail
      obtain ⟨W9, hW9⟩ : ∃ W9, wr.setCell ⟨bm, 6, none⟩ (.int .i64 0) = W9 := ⟨_, rfl⟩
      rw [hW9] at S9 ⊢
      clear hW9 xm fm lm
      obtain ⟨d, hd⟩ : ∃ d, c.put 0 6 = d := ⟨_, rfl⟩
      rw [hd] at S9 hB9 h6
      clear hd
      have key : Hid (∀ (e : Bool) (W : World) (n : Nat), (e = true → d.iff = true) → n ≤ nn + 300 → KSt w W p a len cap n bm (cuA { d with ei := e }) → True) := fun _ _ _ _ _ _ => trivial
      have x9 := S9.out.qm.cell
      have f9 := S9.out.qm.frozen
      have l9 := S9.out.qm.lt
      cases hi : d.iff
      · have T1 := hid (S9.out.set 12 (.bool false))
        have eT : (cuA d).setIfInBounds 12 (.bool false) = cuA { d with ei := false } := rfl
        rw [eT] at T1
        clear eT
        go_upto_region 8 with fail
        clear hi
        obtain ⟨W1, hW1⟩ : ∃ W1, W9.setCell ⟨bm, 12, none⟩ (.bool false) = W1 := ⟨_, rfl⟩
        rw [hW1] at T1 ⊢
        clear hW1 x9 f9 l9 S9
        go_wp2_with fail
        refine (chance_any p a len cap nk 9 _ T1.out.src (by omega) (by omega) (by omega)).mono ?_
        rintro e w5 ⟨⟨b5, rfl⟩, ⟨n5, hn5, hs5⟩, hg5⟩
        have T2 := (T1.out.next hg5 hs5).set 13 (.bool b5)
        have x5 := (T1.out.next hg5 hs5).qm.cell
        have f5 := (T1.out.next hg5 hs5).qm.frozen
        have l5 := (T1.out.next hg5 hs5).qm.lt
        have eT : (cuA { d with ei := false }).setIfInBounds 13 (.bool b5) = cuA { d with ei := false, halt := b5 } := rfl
        rw [eT] at T2
        have hok := hid (byt_ok hB9.out false b5 (by intro h; cases h) h6.out)
        replace T2 := hid T2
        clear hs5 hg5 T1 eT
        go_upto_region 9 with fail
        obtain ⟨W2, hW2⟩ : ∃ W2, w5.setCell ⟨bm, 13, none⟩ (.bool b5) = W2 := ⟨_, rfl⟩
        rw [hW2] at T2 ⊢
        clear hW2 x5 f5 l5
        have x6 := T2.out.qm.cell
        have y6 := T2.out.q0.cell
        have g6 := T2.out.q0.frozen
        have l6 := T2.out.q0.lt
        have hord := T2.out.ord
        go_wp2
        refine bodyPost_ret (v := cuV { d with ei := false, halt := b5 }) (by simp [results, Tryz.results17, go_sem, y6]) rfl ⟨_, rfl, hok.out, ⟨n5, by omega, ?_⟩, ?_⟩
        · iterate 14 refine Src.setO ?_ (by omega)
          exact T2.out.src
        · iterate 14 refine grown_setO ?_ (Nat.le_refl _)
          exact T2.out.gro
      · replace hi := hid hi
        have hi2 := hi.out
        go_wp2_with fail
        clear hi2
        refine (chance_any p a len cap nk 4 _ S9.out.src (by omega) (by omega) (by omega)).mono ?_
        rintro e w4 ⟨⟨b4, rfl⟩, ⟨n4, hn4, hs4⟩, hg4⟩
        have T1 := (S9.out.next hg4 hs4).set 12 (.bool b4)
        have eT : (cuA d).setIfInBounds 12 (.bool b4) = cuA { d with ei := b4 } := rfl
        rw [eT] at T1
        have x4 := (S9.out.next hg4 hs4).qm.cell
        have f4 := (S9.out.next hg4 hs4).qm.frozen
        have l4 := (S9.out.next hg4 hs4).qm.lt
        replace T1 := hid T1
        clear eT hs4 hg4 x9 f9 l9 S9
        go_upto_region 8 with fail
        obtain ⟨W1, hW1⟩ : ∃ W1, w4.setCell ⟨bm, 12, none⟩ (.bool b4) = W1 := ⟨_, rfl⟩
        rw [hW1] at T1 ⊢
        clear hW1 x4 f4 l4
        go_wp2_with fail
        refine (chance_any p a len cap n4 9 _ T1.out.src (by omega) (by omega) (by omega)).mono ?_
        rintro e w5 ⟨⟨b5, rfl⟩, ⟨n5, hn5, hs5⟩, hg5⟩
        have T2 := (T1.out.next hg5 hs5).set 13 (.bool b5)
        have x5 := (T1.out.next hg5 hs5).qm.cell
        have f5 := (T1.out.next hg5 hs5).qm.frozen
        have l5 := (T1.out.next hg5 hs5).qm.lt
        have eT : (cuA { d with ei := b4 }).setIfInBounds 13 (.bool b5) = cuA { d with ei := b4, halt := b5 } := rfl
        rw [eT] at T2
        have hok := hid (byt_ok hB9.out b4 b5 (fun _ => hi.out) h6.out)
        replace T2 := hid T2
        clear hs5 hg5 T1 eT
        go_upto_region 9 with fail
        obtain ⟨W2, hW2⟩ : ∃ W2, w5.setCell ⟨bm, 13, none⟩ (.bool b5) = W2 := ⟨_, rfl⟩
        rw [hW2] at T2 ⊢
        clear hW2 x5 f5 l5
        have x6 := T2.out.qm.cell
        have y6 := T2.out.q0.cell
        have g6 := T2.out.q0.frozen
        have l6 := T2.out.q0.lt
        have hord := T2.out.ord
        go_wp2
        refine bodyPost_ret (v := cuV { d with ei := b4, halt := b5 }) (by simp [results, Tryz.results17, go_sem, y6]) rfl ⟨_, rfl, hok.out, ⟨n5, by omega, ?_⟩, ?_⟩
        · iterate 14 refine Src.setO ?_ (by omega)
          exact T2.out.src
        · iterate 14 refine grown_setO ?_ (Nat.le_refl _)
          exact T2.out.gro
set_option maxRecDepth 100000 in
theorem cpudrawn_any (a : Option Addr) (len cap : Nat) (w : World) (hc : CodeAt w w.heap.size a len) (hl : len ≤ 1048576) :
    Calls Tryz.prog 4 #[.slice a len cap] w fun e w' => ∃ c : Cu, e = .returned (cuV c) ∧ okC c = true ∧ Below w.heap.size w w' := by
  have hc1 : Hid (∀ o, CodeAt (w.alloc o) (w.alloc o).heap.size a len) := fun o => hc.below ((Below.refl _ _).alloc (Nat.le_refl _) o) (by simp)
  clear hc
  go_enter Tryz.func4, Tryz.ntmps4
  go_wp2_with fail
  refine (source_any a len cap _ (hc1.out _) hl).mono ?_
  rintro e w1 ⟨rfl, hs1, hg1⟩
  rw [World.size_alloc] at hs1 ⊢
  have q1 := (Blk.new w zeC 25).grown hg1 (by simp)
  have hB1 : Below w.heap.size w w1 := ((Below.refl _ _).alloc (Nat.le_refl _) _).grown hg1 (by simp) (fun k e => by cases e)
  have hl1 := hs1.lt
  replace hs1 := hid hs1
  replace q1 := hid q1
  replace hB1 := hid hB1
  clear hg1 hc1
  go_wp2_with fail
  refine (cpu_any _ a len cap 0 _ hs1.out (by omega)).mono ?_
  rintro e w2 ⟨c, rfl, hok, _, hg2⟩
  have q2 := q1.out.grown hg2 (by simp)
  have hB2 := hid (hB1.out.grown hg2 (by omega) (fun k e => by cases e; omega))
  have x2 := q2.cell
  have f2 := q2.frozen
  have l2 := q2.lt
  replace hok := hid hok
  clear q1 q2 hg2 hs1 hB1
  go_wp2
  refine bodyPost_ret (v := cuV c) (by simp [results, Tryz.results4, go_sem, x2]) rfl ⟨c, rfl, hok.out, ?_⟩
  iterate 14 refine Below.setCell ?_ (by first | omega | (simp; done) | (simp; omega)) _
  exact hB2.out
end Go.Proofs.YtgpmpfikeindfaaGreatDoor
