/- What the program's processor does with registers and memory: fetch, read, write, get, put, push, pop. -/
import Derived.Test.YtgpmpfikeindfaaGreatDoorV20
import Derived.Test.YtgpmpfikeindfaaGreatDoorV09
import Derived.Test.YtgpmpfikeindfaaGreatDoorV00
import Derived.Deep.RegionWith
import Derived.Deep.QuietTactic
import Derived.Test.YtgpmpfikeindfaaGreatDoorV01
namespace Go.Proofs.YtgpmpfikeindfaaGreatDoor
open Go.ChangeShapes Go.WideShapes Go.ChangeAt Go.RowKit
set_option linter.unusedVariables false
set_option linter.unusedSimpArgs false

theorem At.drewN {p : Par} {z : Kps} {W : World} {x : Mx} (h : At p z W x) (n : Nat) : At p z (W.drewN n) x := h.below (Below.drewN W n _)
theorem around_impl (v : Int) (r : Nat) (h : bits .and .i64 v 255 = (r : Int)) (w : World) : Calls Tryz.prog 54 #[.int .i64 v] w fun e w' => e = .returned (.int .i64 (r : Int)) ∧ w' = w := by
  go_enter Tryz.func54, Tryz.ntmps54
  go_wp2
  go_ret
  exact ⟨rfl, rfl⟩
theorem boardN_impl (w : World) (lo hi B r s : Nat) (G Q : Nat → Nat) (M : Mem) (a : Nat) (h : Brd w lo hi B r s G Q M) (hk : okM M = true) (ha : a < 256) :
    Calls Tryz.prog 53 #[.pointer (some ⟨B, 0, none⟩), .int .i64 (a : Int)] w fun e w' => e = .returned (.int .i64 (peekN M a : Int)) ∧ w' = w := by
  have := read_impl w lo hi B r s G Q M (a : Int) h hk (by omega) (by omega)
  rw [(peek_byte hk ha).1] at this
  exact this
set_option maxRecDepth 100000 in
theorem pfetch (p : Par) (hT : Tells p) (z : Kps) (W : World) (x : Mx) (h : At p z W x) (hl : x.cy.length ≤ 1000) (hk : okM x.m = true) (ha : x.c.pc < 256) :
    Calls Tryz.prog 42 #[.pointer (some ⟨p.Y, 0, none⟩)] W fun e W' => e = .returned (.int .i64 (peekN x.m x.c.pc : Int)) ∧ At p z W' (x.note 1 x.c.pc (peekN x.m x.c.pc)) := by
  have hr := hid (fun W1 (h1 : At p z W1 x) => boardN_impl W1 _ _ _ _ _ _ _ _ x.c.pc h1.brd hk ha)
  have ht := hid (fun W1 (h1 : At p z W1 x) => hT z W1 x 1 x.c.pc (peekN x.m x.c.pc) h1 hl)
  have x0 := h.cell
  replace h := hid h
  generalize peekN x.m x.c.pc = v at *
  replace hT := hid hT
  go_enter Tryz.func42, Tryz.ntmps42
  go_upto_region 1 with fail
  go_quiet ((go_at_call 53; exact Calls.quiet_of_same (hr.out _ (h.out.drewN _))))
  go_upto_region 2 with fail
  go_region_with (go_at_call 63; refine (ht.out _ (by first | exact h.out | exact h.out.drew | exact h.out.drewN _)).mono ?_; rintro e w2 ⟨rfl, h2⟩; replace h2 := hid h2)
  all_goals (try go_wp2)
  all_goals go_ret
  all_goals exact ⟨rfl, by first | exact h2.out | exact h2.out.drew⟩
set_option maxRecDepth 100000 in
theorem pread (a : Nat) (p : Par) (hT : Tells p) (z : Kps) (W : World) (x : Mx) (h : At p z W x) (hl : x.cy.length ≤ 1000) (hk : okM x.m = true) (ha : a < 256) :
    Calls Tryz.prog 65 #[.pointer (some ⟨p.Y, 0, none⟩), .int .i64 (a : Int)] W fun e W' => e = .returned (.int .i64 (peekN x.m a : Int)) ∧ At p z W' (x.read a) := by
  have hr := hid (fun W1 (h1 : At p z W1 x) => boardN_impl W1 _ _ _ _ _ _ _ _ a h1.brd hk ha)
  have ht : Hid (∀ W1 (h1 : At p z W1 x), Calls _ _ _ W1 _) := fun W1 (h1 : At p z W1 x) => hT z W1 x 2 a (peekN x.m a) h1 hl
  have e : x.read a = x.note 2 a (peekN x.m a) := rfl
  rw [e]
  clear e
  have x0 := h.cell
  replace h := hid h
  generalize peekN x.m a = v at *
  replace hT := hid hT
  go_enter Tryz.func65, Tryz.ntmps65
  go_wp2_with fail
  refine (hr.out _ h.out).mono ?_
  rintro e w1 ⟨rfl, hww⟩
  obtain rfl := hww.symm
  go_wp2_with fail
  refine (ht.out _ h.out).mono ?_
  rintro e w2 ⟨rfl, h2⟩
  replace h2 := hid h2
  clear h x0
  go_wp2
  go_ret
  exact ⟨rfl, h2.out⟩
set_option maxRecDepth 100000 in
theorem pwrite (a v : Nat) (p : Par) (hT : Tells p) (z : Kps) (W : World) (x : Mx) (h : At p z W x) (hl : x.cy.length ≤ 1000) (hk : okM x.m = true) (ha : a < 256) :
    Calls Tryz.prog 73 #[.pointer (some ⟨p.Y, 0, none⟩), .int .i64 (a : Int), .int .i64 (v : Int)] W fun e W' => e = .returned (.tuple #[]) ∧ At p z W' (x.write a v) := by
  have hr := hid (writeT_impl W _ _ _ _ _ _ _ _ (a : Int) (v : Int) h.brd hk (by omega) (by omega))
  have hM : ({ x with m := pokeM x.m (a : Int) (v : Int) } : Mx).note 3 a v = x.write a v := rfl
  have ht : Hid (∀ W1 (h1 : At p z W1 { x with m := pokeM x.m (a : Int) (v : Int) }), Calls _ _ _ W1 _) := fun W1 h1 => hT z W1 _ 3 a v h1 hl
  rw [hM] at ht
  clear hM
  have x0 := h.cell
  replace h := hid h
  replace hT := hid hT
  go_enter Tryz.func73, Tryz.ntmps73
  go_wp2_with fail
  refine hr.out.mono ?_
  rintro e w1 ⟨rfl, hb, htt⟩
  have h1 := h.out.poked hb htt
  have x1 := h1.cell
  replace h1 := hid h1
  clear hb htt h x0 hr
  go_wp2_with fail
  refine (ht.out _ h1.out).mono ?_
  rintro e w2 ⟨rfl, h2⟩
  replace h2 := hid h2
  clear h1 x1
  go_wp2
  exact bodyPost_end (v := .tuple #[]) (by simp [results, Tryz.results73]) rfl ⟨rfl, h2.out⟩
set_option maxRecDepth 100000 in
theorem pget (r : Nat) (p : Par) (hT : Tells p) (z : Kps) (W : World) (x : Mx) (h : At p z W x) (hl : x.cy.length ≤ 1000) (hk : okM x.m = true) (hh : x.c.h < 256) (hr : r < 8) :
    Calls Tryz.prog 69 #[.pointer (some ⟨p.Y, 0, none⟩), .int .i64 (r : Int)] W fun e W' => e = .returned (.int .i64 (x.getV r : Int)) ∧ At p z W' (x.getX r) := by
  have x0 := h.cell
  by_cases h6 : r = 6
  · subst h6
    have e1 : x.getV 6 = peekN x.m x.c.h := rfl
    have e2 : x.getX 6 = x.read x.c.h := rfl
    rw [e1, e2]
    have hrd := hid (pread x.c.h p hT z W x h hl hk hh)
    obtain ⟨v, hv2⟩ : ∃ v, peekN x.m x.c.h = v := ⟨_, rfl⟩
    rw [hv2] at hrd ⊢
    replace hT := hid hT
    clear h e1 e2 hv2
    go_enter Tryz.func69, Tryz.ntmps69
    go_wp2_with fail
    refine hrd.out.mono ?_
    rintro e w1 ⟨rfl, h1⟩
    replace h1 := hid h1
    clear hrd x0
    go_wp2
    go_ret
    exact ⟨rfl, h1.out⟩
  · have e2 : x.getX r = x := by unfold Mx.getX; rw [if_neg h6]
    have e1 : x.getV r = x.c.reg r := by unfold Mx.getV; rw [if_neg h6]
    rw [e1, e2]
    replace h := hid h
    replace hT := hid hT
    clear e1 e2
    have hr7 : r = 0 ∨ r = 1 ∨ r = 2 ∨ r = 3 ∨ r = 4 ∨ r = 5 ∨ r = 7 := by omega
    clear h6 hr
    rcases hr7 with rfl | rfl | rfl | rfl | rfl | rfl | rfl
    all_goals
      go_enter Tryz.func69, Tryz.ntmps69
      go_wp2
      go_ret
      exact ⟨rfl, h.out⟩
set_option maxRecDepth 100000 in
theorem pput (r v : Nat) (p : Par) (hT : Tells p) (z : Kps) (W : World) (x : Mx) (h : At p z W x) (hl : x.cy.length ≤ 1000) (hk : okM x.m = true) (hh : x.c.h < 256) (hr : r < 8) :
    Calls Tryz.prog 68 #[.pointer (some ⟨p.Y, 0, none⟩), .int .i64 (r : Int), .int .i64 (v : Int)] W fun e W' => e = .returned (.tuple #[]) ∧ At p z W' (x.set r v) := by
  have x0 := h.cell
  by_cases h6 : r = 6
  · subst h6
    have e2 : x.set 6 v = x.write x.c.h v := rfl
    rw [e2]
    have hrd := hid (pwrite x.c.h v p hT z W x h hl hk hh)
    replace hT := hid hT
    clear h e2
    go_enter Tryz.func68, Tryz.ntmps68
    go_wp2_with fail
    refine hrd.out.mono ?_
    rintro e w1 ⟨rfl, h1⟩
    replace h1 := hid h1
    clear hrd x0
    go_wp2
    exact bodyPost_ret (v := .tuple #[]) (by simp [results, Tryz.results68]) rfl ⟨rfl, h1.out⟩
  · have e2 : x.set r v = { x with c := x.c.put v r } := by unfold Mx.set; rw [if_neg h6]
    rw [e2]
    clear e2
    have f0 := h.frozen
    have z0 := h.lt
    have hp : Hid (∀ i c', (proA x.c p.B p.n p.I p.V).setIfInBounds i (.int .i64 (v : Int)) = proA c' p.B p.n p.I p.V → At p z (W.setCell ⟨p.Y, i, none⟩ (.int .i64 (v : Int))) { x with c := c' }) := fun i c' hc => h.put i _ c' hc
    replace hT := hid hT
    clear h
    have hr7 : r = 0 ∨ r = 1 ∨ r = 2 ∨ r = 3 ∨ r = 4 ∨ r = 5 ∨ r = 7 := by omega
    clear h6 hr
    rcases hr7 with rfl | rfl | rfl | rfl | rfl | rfl | rfl
    all_goals
      go_enter Tryz.func68, Tryz.ntmps68
      go_wp2
      exact bodyPost_end (v := .tuple #[]) (by simp [results, Tryz.results68]) rfl ⟨rfl, hp.out _ _ rfl⟩
set_option maxRecDepth 100000 in
theorem ppush (v : Nat) (p : Par) (hT : Tells p) (z : Kps) (W : World) (x : Mx) (h : At p z W x) (hl : x.cy.length ≤ 1000) (hk : okM x.m = true) (hs : x.c.sp < 256) :
    Calls Tryz.prog 132 #[.pointer (some ⟨p.Y, 0, none⟩), .int .i64 (v : Int)] W fun e W' => e = .returned (.tuple #[]) ∧ At p z W' (x.push v) := by
  have hp : x.push v = ({ x with c := { x.c with sp := (x.c.sp + 255) % 256 } } : Mx).write ((x.c.sp + 255) % 256) v := rfl
  rw [hp]
  clear hp
  have hq := and255m x.c.sp hs
  have hlt : (x.c.sp + 255) % 256 < 256 := Nat.mod_lt _ (by omega)
  generalize (x.c.sp + 255) % 256 = s at *
  have x0 := h.cell
  have f0 := h.frozen
  have z0 := h.lt
  have h1 := hid (h.put 9 (.int .i64 (s : Int)) { x.c with sp := s } rfl)
  have hw := hid (pwrite s v p hT z _ _ h1.out hl hk hlt)
  have x1 := h1.out.cell
  replace hT := hid hT
  clear h
  have ha := hid (fun w => around_impl ((x.c.sp : Int) - 1) s hq w)
  clear hq
  go_enter Tryz.func132, Tryz.ntmps132
  go_wp2_with fail
  refine (ha.out _).mono ?_
  rintro e w1 ⟨rfl, hww⟩
  obtain rfl := hww.symm
  go_wp2_with fail
  refine hw.out.mono ?_
  rintro e w1 ⟨rfl, h2⟩
  replace h2 := hid h2
  clear h1 x0 f0 z0 x1 hw
  go_wp2
  exact bodyPost_end (v := .tuple #[]) (by simp [results, Tryz.results132]) rfl ⟨rfl, h2.out⟩
set_option maxRecDepth 100000 in
theorem ppop (p : Par) (hT : Tells p) (z : Kps) (W : World) (x : Mx) (h : At p z W x) (hl : x.cy.length ≤ 1000) (hk : okM x.m = true) (hs : x.c.sp < 256) :
    Calls Tryz.prog 133 #[.pointer (some ⟨p.Y, 0, none⟩)] W fun e W' => e = .returned (.int .i64 (x.popV : Int)) ∧ At p z W' x.popX := by
  have hp : x.popX = { x.read x.c.sp with c := { (x.read x.c.sp).c with sp := (x.c.sp + 1) % 256 } } := rfl
  have hv : x.popV = peekN x.m x.c.sp := rfl
  rw [hp, hv]
  clear hp hv
  have hq := and255 (x.c.sp + 1) (by omega)
  have hlt : (x.c.sp + 1) % 256 < 256 := Nat.mod_lt _ (by omega)
  have hc : (x.read x.c.sp).c = x.c := rfl
  have x0 := h.cell
  have hr := hid (pread x.c.sp p hT z W x h hl hk hs)
  replace hT := hid hT
  clear h
  obtain ⟨v, hv2⟩ : ∃ v, peekN x.m x.c.sp = v := ⟨_, rfl⟩
  rw [hv2] at hr ⊢
  clear hv2
  obtain ⟨s', hs'⟩ : ∃ s', (x.c.sp + 1) % 256 = s' := ⟨_, rfl⟩
  rw [hs'] at hq hlt ⊢
  push_cast at hq
  clear hs'
  have ha := hid (fun w => around_impl ((x.c.sp : Int) + 1) s' hq w)
  clear hq
  go_enter Tryz.func133, Tryz.ntmps133
  go_wp2_with fail
  refine hr.out.mono ?_
  rintro e w1 ⟨rfl, h1⟩
  have x1 := h1.cell
  have f1 := h1.frozen
  have z1 := h1.lt
  have h2 := hid (h1.put 9 (.int .i64 (s' : Int)) { (x.read x.c.sp).c with sp := s' } rfl)
  rw [hc] at x1
  clear h1 hr x0
  go_wp2_with fail
  refine (ha.out _).mono ?_
  rintro e w2 ⟨rfl, hww⟩
  obtain rfl := hww.symm
  go_wp2
  go_ret
  exact ⟨rfl, h2.out⟩
set_option maxRecDepth 100000 in
theorem ppass (p : Par) (z : Kps) (W : World) (x : Mx) (h : At p z W x) (hs : x.c.pc < 256) :
    Calls Tryz.prog 64 #[.pointer (some ⟨p.Y, 0, none⟩)] W fun e W' => e = .returned (.tuple #[]) ∧ At p z W' { x with c := { x.c with pc := (x.c.pc + 1) % 256 } } := by
  have hq := and255 (x.c.pc + 1) (by omega)
  obtain ⟨s', hs'⟩ : ∃ s', (x.c.pc + 1) % 256 = s' := ⟨_, rfl⟩
  rw [hs'] at hq ⊢
  push_cast at hq
  clear hs'
  have ha := hid (fun w => around_impl ((x.c.pc : Int) + 1) s' hq w)
  clear hq
  have x1 := h.cell
  have f1 := h.frozen
  have z1 := h.lt
  have h2 := hid (h.put 10 (.int .i64 (s' : Int)) { x.c with pc := s' } rfl)
  clear h
  go_enter Tryz.func64, Tryz.ntmps64
  go_wp2_with fail
  refine (ha.out _).mono ?_
  rintro e w2 ⟨rfl, hww⟩
  obtain rfl := hww.symm
  go_wp2
  exact bodyPost_end (v := .tuple #[]) (by simp [results, Tryz.results64]) rfl ⟨rfl, h2.out⟩
end Go.Proofs.YtgpmpfikeindfaaGreatDoor

/- Three things in blocks of their own, the third being written. -/
namespace Go.Proofs.YtgpmpfikeindfaaGreatDoor
open Go.ChangeShapes Go.WideShapes Go.ChangeAt Go.RowKit
set_option linter.unusedVariables false
set_option linter.unusedSimpArgs false

theorem two_in {w : World} (A B : Array Value) (t t1 : TypeId) : Blk ((w.alloc (.cells A t)).alloc (.cells B t1)) w.heap.size A ∧ Blk ((w.alloc (.cells A t)).alloc (.cells B t1)) (w.heap.size + 1) B ∧ Below w.heap.size w ((w.alloc (.cells A t)).alloc (.cells B t1)) := by
  have q1 := Blk.new (w.alloc (.cells A t)) B t1
  simp only [World.size_alloc] at q1
  exact ⟨(Blk.new w A t).alloc _, q1, ((Below.refl _ _).alloc (Nat.le_refl _) _).alloc (by simp) _⟩
abbrev zeC : Array Value := #[.int .i64 0, .int .i64 0, .int .i64 0, .int .i64 0, .int .i64 0, .int .i64 0, .int .i64 0, .int .i64 0, .int .i64 0, .int .i64 0, .int .i64 0, .bool false, .bool false, .bool false]
/-- three blocks -/
structure Tri (w W : World) (A B C : Array Value) : Prop where
  q0 : Blk W w.heap.size A
  q1 : Blk W (w.heap.size + 1) B
  q2 : Blk W (w.heap.size + 1 + 1) C
  bel : Below w.heap.size w W
theorem Tri.below {w W W' : World} {A B C : Array Value} (h : Tri w W A B C) (hb : Below W.heap.size W W') : Tri w W' A B C :=
  ⟨h.q0.below hb h.q0.lt, h.q1.below hb h.q1.lt, h.q2.below hb h.q2.lt, h.bel.trans (hb.mono h.bel.size)⟩
theorem Tri.drew {w W : World} {A B C : Array Value} (h : Tri w W A B C) : Tri w W.drew A B C := h.below ⟨rfl, rfl, rfl, Nat.le_refl _, fun _ _ => rfl⟩
theorem Tri.start (w : World) (A B C : Array Value) (t t1 t2 : TypeId) : Tri w (((w.alloc (.cells A t)).alloc (.cells B t1)).alloc (.cells C t2)) A B C := by
  obtain ⟨q0, q1, hB⟩ := two_in (w := w) A B t t1
  have q2 := Blk.new ((w.alloc (.cells A t)).alloc (.cells B t1)) C t2
  simp only [World.size_alloc] at q2
  exact ⟨q0.alloc _, q1.alloc _, q2, hB.alloc hB.size _⟩
theorem Tri.put {w W : World} {A B C : Array Value} (h : Tri w W A B C) (i : Nat) (u : Value) : Tri w (W.setCell ⟨w.heap.size + 1 + 1, i, none⟩ u) A B (C.setIfInBounds i u) :=
  ⟨h.q0.other (by simp only []; omega) u, h.q1.other (by simp) u, h.q2.set i u, h.bel.setCell (p := ⟨w.heap.size + 1 + 1, i, none⟩) (by simp only []; omega) u⟩
end Go.Proofs.YtgpmpfikeindfaaGreatDoor

/- What the program says of a processor that is right. -/
namespace Go.Proofs.YtgpmpfikeindfaaGreatDoor
open Go.ChangeShapes Go.WideShapes Go.ChangeAt Go.RowKit
set_option linter.unusedVariables false
set_option linter.unusedSimpArgs false

theorem isbC_impl (n : Int) (w : World) : Calls Tryz.prog 31 #[.int .i64 n] w fun e w' => e = .returned (.bool (inB n 0 255)) ∧ w' = w := by
  go_enter Tryz.func31, Tryz.ntmps31
  go_wp2
  all_goals go_ret
  all_goals exact ⟨ret_bool (by rw [Bool.eq_iff_iff]; simp [inB]; try omega), rfl⟩
theorem aresC_impl (a b : Int) (w : World) : Calls Tryz.prog 32 #[.int .i64 a, .int .i64 b] w fun e w' => e = .returned (.bool (inB a 0 255 && inB b 0 255)) ∧ w' = w := by
  cases h1 : inB a 0 255
  all_goals
    go_enter Tryz.func32, Tryz.ntmps32
    go_wp2_with (go_at_call 31; refine (isbC_impl _ _).mono ?_; rintro e w' ⟨rfl, rfl⟩)
    go_ret
    exact ⟨ret_bool (by simp), rfl⟩
theorem rgC_at (c : Cu) (k : Nat) (hk : k < 8) (w : World) : (Instr.index 23 (.agg #[.int .i64 c.r0, .int .i64 c.r1, .int .i64 c.r2, .int .i64 c.r3, .int .i64 c.r4, .int .i64 c.r5, .int .i64 c.r6, .int .i64 c.r7]) (.int .i64 (k : Int))).run Tryz.prog w = .ok (.int .i64 (c.reg k)) w := by
  rcases (by omega : k = 0 ∨ k = 1 ∨ k = 2 ∨ k = 3 ∨ k = 4 ∨ k = 5 ∨ k = 6 ∨ k = 7) with rfl | rfl | rfl | rfl | rfl | rfl | rfl | rfl <;> kernel_rfl
set_option maxRecDepth 100000 in
set_option maxHeartbeats 1000000 in
theorem cpuok_impl (c : Cu) (w : World) : Calls Tryz.prog 13 #[cuV c] w fun e w' => e = .returned (.bool (okC c)) ∧ Below w.heap.size w w' := by
  have hno : Hid (∀ k, k < 8 → inB (c.reg k) 0 255 = false → okC c = false) := fun k hk => regs_no hk
  have hall : Hid ((∀ i, i < 8 → inB (c.reg i) 0 255 = true) → okC c = (decide (c.r6 = 0) && inB c.f 0 255 && inB c.sp 0 255 && inB c.pc 0 255 && (!c.ei || c.iff))) := fun h => by unfold okC; rw [regs_all h, Bool.true_and]
  have hB := hid ((Below.refl w.heap.size w).alloc (Nat.le_refl _) (.cells (cuA c) 25))
  have q1 := (Blk.new w (cuA c) 25).cell
  have hix := hid (rgC_at c)
  obtain ⟨Q, hQ⟩ : ∃ Q, okC c = Q := ⟨_, rfl⟩
  rw [hQ] at hno hall ⊢
  clear hQ
  go_enter Tryz.func13, Tryz.ntmps13
  go_upto_region 1 with fail
  obtain ⟨V, hV⟩ : ∃ V, w.alloc (Obj.cells (cuA c) 25) = V := ⟨_, rfl⟩
  rw [hV] at hB q1 ⊢
  clear hV
  go_wp2
  go_loop [7] (fun i => ∃ k : Nat, k ≤ 8 ∧ i = .int .i64 k ∧ ∀ j, j < k → inB (c.reg j) 0 255 = true) (fun i => 8 - (intOf i).toNat)
  case atStart => exact ⟨0, by omega, rfl, fun j hj => by omega⟩
  case round =>
    obtain ⟨k, hk, rfl, hj⟩ := hrel
    by_cases hlt : k < 8
    · have i1 := hix.out k hlt
      cases hb : inB (c.reg k) 0 255
      · have hE := hid (hno.out k hlt hb)
        clear hj hno hall hk
        generalize c.reg k = y at *
        go_wp2_with (go_at_call 31; refine (isbC_impl _ _).mono ?_; rintro e w' ⟨rfl, rfl⟩; rw [hb])
        go_ret
        exact ⟨ret_bool hE.out.symm, hB.out⟩
      · have hj2 : Hid (∀ j, j < k + 1 → inB (c.reg j) 0 255 = true) := fun j hj1 => by
          by_cases e : j = k
          · rw [e]; exact hb
          · exact hj j (by omega)
        clear hj hno hall hk
        generalize c.reg k = y at *
        go_wp2_with (go_at_call 31; refine (isbC_impl _ _).mono ?_; rintro e w' ⟨rfl, rfl⟩; rw [hb])
        go_round
        case rel => exact ⟨k + 1, by omega, by go_num, hj2.out⟩
        case measure => simp [intOf]; omega
    · obtain rfl : k = 8 := by omega
      have hE := hall.out hj
      clear hj hno hall hk hlt hix
      by_cases h6 : c.r6 = 0
      · have h62 : (c.r6 == 0) = true := by simp [h6]
        rw [decide_eq_true h6, Bool.true_and] at hE
        clear h6
        cases h1 : inB c.f 0 255 && inB c.sp 0 255
        · rw [h1] at hE
          replace hE := hid hE
          go_wp2_with (first | (go_at_call 32; refine (aresC_impl _ _ _).mono ?_; rintro e w' ⟨rfl, rfl⟩; rw [h1]) | (go_at_call 31; refine (isbC_impl _ _).mono ?_; rintro e w' ⟨rfl, rfl⟩))
          go_ret
          exact ⟨ret_bool (by rw [hE.out]; rfl), hB.out⟩
        · rw [h1] at hE
          cases h3 : inB c.pc 0 255
          · rw [h3] at hE
            replace hE := hid hE
            go_wp2_with (first | (go_at_call 32; refine (aresC_impl _ _ _).mono ?_; rintro e w' ⟨rfl, rfl⟩; rw [h1]) | (go_at_call 31; refine (isbC_impl _ _).mono ?_; rintro e w' ⟨rfl, rfl⟩; rw [h3]))
            go_ret
            exact ⟨ret_bool (by rw [hE.out]; rfl), hB.out⟩
          · rw [h3] at hE
            cases h4 : c.iff
            · rw [h4] at hE
              replace hE := hid hE
              go_wp2_with (first | (go_at_call 32; refine (aresC_impl _ _ _).mono ?_; rintro e w' ⟨rfl, rfl⟩; rw [h1]) | (go_at_call 31; refine (isbC_impl _ _).mono ?_; rintro e w' ⟨rfl, rfl⟩; rw [h3]))
              go_ret
              exact ⟨ret_bool (by rw [hE.out]; simp), hB.out⟩
            · rw [h4] at hE
              replace hE := hid hE
              go_wp2_with (first | (go_at_call 32; refine (aresC_impl _ _ _).mono ?_; rintro e w' ⟨rfl, rfl⟩; rw [h1]) | (go_at_call 31; refine (isbC_impl _ _).mono ?_; rintro e w' ⟨rfl, rfl⟩; rw [h3]))
              go_ret
              exact ⟨ret_bool (by rw [hE.out]; simp), hB.out⟩
      · have h62 : (c.r6 == 0) = false := by simp [h6]
        rw [decide_eq_false h6, Bool.false_and, Bool.false_and, Bool.false_and, Bool.false_and] at hE
        replace hE := hid hE
        clear h6
        go_wp2
        go_ret
        exact ⟨ret_bool (by rw [hE.out]), hB.out⟩
end Go.Proofs.YtgpmpfikeindfaaGreatDoor
