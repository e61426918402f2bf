/- The program's step: an instruction is fetched, decoded, and done by the table. -/
import Derived.Test.YtgpmpfikeindfaaGreatDoorV27
import Derived.Test.YtgpmpfikeindfaaGreatDoorRgv
import Derived.Test.YtgpmpfikeindfaaGreatDoorRhv
import Derived.Test.YtgpmpfikeindfaaGreatDoorV33
import Derived.Test.YtgpmpfikeindfaaGreatDoorKev
import Derived.Test.YtgpmpfikeindfaaGreatDoorV11
namespace Go.Proofs.YtgpmpfikeindfaaGreatDoor
open Go.ChangeShapes Go.WideShapes Go.ChangeAt Go.RowKit Go.Shelf
set_option linter.unusedVariables false
set_option linter.unusedSimpArgs false

/-- a thing that stays as it is but for this cell -/
theorem At.reset {p : Par} {z : Kps} {b : Nat} {A : Array Value} {W : World} {x : Mx} (h : At p ((b, A) :: z) W x) (hz : ∀ b' A', (b', A') ∈ z → b' ≠ b) (hb : p.w.heap.size ≤ b) (i : Nat) (u : Value) : At p ((b, A.setIfInBounds i u) :: z) (W.setCell ⟨b, i, none⟩ u) x := by
  obtain ⟨cv, h⟩ := h
  obtain ⟨hq, h1, h2, h3⟩ := h.keep b A (List.mem_cons_self ..)
  have k : ∀ b', b' ≠ b → (W.setCell ⟨b, i, none⟩ u).heap[b']? = W.heap[b']? := fun b' hne => Below.heap_setCell _ _ _ _ hne
  have kb : ∀ b', b' ∈ p.bs → (W.setCell ⟨b, i, none⟩ u).heap[b']? = W.heap[b']? := fun b' hm => k b' (fun e => h1 (e ▸ hm))
  obtain ⟨m1, m2, m3, m4, m5, m6⟩ := p.mem
  refine ⟨cv, h.sep, h.blk.same (kb _ m1), h.brd.kept (fun b' hh => k b' (fun e => h2 (e ▸ hh))), by rw [sizeSet]; exact h.hil, h.box.same (kb _ m2), h.own.kept (set_grown W b i u) (.inr h3), h.lis.same (kb _ m3), h.yld.same (kb _ m4), (kb _ m5).trans h.loop, (kb _ m6).trans h.dfr, h.bel.setCell (p := ⟨b, i, none⟩) hb u, h.ne, fun b' A' hm => ?_⟩
  · rcases List.mem_cons.1 hm with e | e
    · cases e
      exact ⟨hq.set i u, h1, h2, h3⟩
    · have := h.keep b' A' (List.mem_cons_of_mem _ e)
      exact ⟨this.1.same (k b' (hz b' A' e)), this.2⟩
theorem At.fresh {p : Par} {z : Kps} {W : World} {x : Mx} (h : At p z W x) : (∀ b' A', (b', A') ∈ z → b' < W.heap.size) ∧ p.w.heap.size ≤ W.heap.size := let ⟨_, h⟩ := h; ⟨fun b' A' hm => (h.keep b' A' hm).1.lt, h.bel.size⟩
theorem At.kept2 {p : Par} {z : Kps} {q : Nat × Array Value} {b : Nat} {A : Array Value} {W : World} {x : Mx} (h : At p (q :: (b, A) :: z) W x) : Blk W b A := let ⟨_, h⟩ := h; (h.keep b A (by simp)).1
/-- five cells of a thing are set -/
theorem At.reset5 {p : Par} {z : Kps} {b : Nat} {A : Array Value} {W : World} {x : Mx} (h : At p ((b, A) :: z) W x) (hz : ∀ b' A', (b', A') ∈ z → b' ≠ b) (hb : p.w.heap.size ≤ b) (u0 u1 u2 u3 u4 : Value) (B : Array Value)
    (hB : ((((A.setIfInBounds 0 u0).setIfInBounds 1 u1).setIfInBounds 2 u2).setIfInBounds 3 u3).setIfInBounds 4 u4 = B) : At p ((b, B) :: z) (((((W.setCell ⟨b, 0, none⟩ u0).setCell ⟨b, 1, none⟩ u1).setCell ⟨b, 2, none⟩ u2).setCell ⟨b, 3, none⟩ u3).setCell ⟨b, 4, none⟩ u4) x := by
  rw [← hB]
  exact ((((h.reset hz hb 0 u0).reset hz hb 1 u1).reset hz hb 2 u2).reset hz hb 3 u3).reset hz hb 4 u4
theorem dcd_one (x y : Int) (h : decL x ≠ 2) : dcdV x y = dcdV x 0 := by
  by_cases hx : 23 ≤ x / 8
  · unfold dcdV decB decN
    rw [if_pos hx, if_pos hx, if_pos hx, if_pos hx]
  · unfold decL at h
    rw [if_neg hx] at h
    have h6 : hasC (x / 8).toNat 66 = false := by
      cases e : hasC (x / 8).toNat 66
      · rfl
      · rw [e] at h; exact absurd rfl h
    have h7 : hasC (x / 8).toNat 78 = false := by
      cases e : hasC (x / 8).toNat 78
      · rfl
      · rw [e, h6] at h; exact absurd rfl h
    unfold dcdV decB decN
    rw [if_neg hx, if_neg hx, if_neg hx, if_neg hx, h6, h7]
    rfl
theorem oix0 (w : World) : (Instr.index 94 opsV (.int .i64 0)).run Tryz.prog w = .ok (.func (.func 66) #[] #[]) w := by simp [Instr.index, go_sem]
theorem oix1 (w : World) : (Instr.index 94 opsV (.int .i64 1)).run Tryz.prog w = .ok (.func (.func 67) #[] #[]) w := by simp [Instr.index, go_sem]
theorem oix2 (w : World) : (Instr.index 94 opsV (.int .i64 2)).run Tryz.prog w = .ok (.func (.func 70) #[] #[]) w := by simp [Instr.index, go_sem]
theorem oix3 (w : World) : (Instr.index 94 opsV (.int .i64 3)).run Tryz.prog w = .ok (.func (.func 71) #[] #[]) w := by simp [Instr.index, go_sem]
theorem oix4 (w : World) : (Instr.index 94 opsV (.int .i64 4)).run Tryz.prog w = .ok (.func (.func 72) #[] #[]) w := by simp [Instr.index, go_sem]
theorem oix5 (w : World) : (Instr.index 94 opsV (.int .i64 5)).run Tryz.prog w = .ok (.func (.func 74) #[] #[]) w := by simp [Instr.index, go_sem]
theorem oix6 (w : World) : (Instr.index 94 opsV (.int .i64 6)).run Tryz.prog w = .ok (.func (.func 76) #[] #[]) w := by simp [Instr.index, go_sem]
theorem oix7 (w : World) : (Instr.index 94 opsV (.int .i64 7)).run Tryz.prog w = .ok (.func (.func 77) #[] #[]) w := by simp [Instr.index, go_sem]
theorem oix8 (w : World) : (Instr.index 94 opsV (.int .i64 8)).run Tryz.prog w = .ok (.func (.func 80) #[] #[]) w := by simp [Instr.index, go_sem]
theorem oix9 (w : World) : (Instr.index 94 opsV (.int .i64 9)).run Tryz.prog w = .ok (.func (.func 82) #[] #[]) w := by simp [Instr.index, go_sem]
theorem oix10 (w : World) : (Instr.index 94 opsV (.int .i64 10)).run Tryz.prog w = .ok (.func (.func 85) #[] #[]) w := by simp [Instr.index, go_sem]
theorem oix11 (w : World) : (Instr.index 94 opsV (.int .i64 11)).run Tryz.prog w = .ok (.func (.func 87) #[] #[]) w := by simp [Instr.index, go_sem]
theorem oix12 (w : World) : (Instr.index 94 opsV (.int .i64 12)).run Tryz.prog w = .ok (.func (.func 89) #[] #[]) w := by simp [Instr.index, go_sem]
theorem oix13 (w : World) : (Instr.index 94 opsV (.int .i64 13)).run Tryz.prog w = .ok (.func (.func 90) #[] #[]) w := by simp [Instr.index, go_sem]
theorem oix14 (w : World) : (Instr.index 94 opsV (.int .i64 14)).run Tryz.prog w = .ok (.func (.func 91) #[] #[]) w := by simp [Instr.index, go_sem]
theorem oix15 (w : World) : (Instr.index 94 opsV (.int .i64 15)).run Tryz.prog w = .ok (.func (.func 92) #[] #[]) w := by simp [Instr.index, go_sem]
theorem oix16 (w : World) : (Instr.index 94 opsV (.int .i64 16)).run Tryz.prog w = .ok (.func (.func 94) #[] #[]) w := by simp [Instr.index, go_sem]
theorem oix17 (w : World) : (Instr.index 94 opsV (.int .i64 17)).run Tryz.prog w = .ok (.func (.func 96) #[] #[]) w := by simp [Instr.index, go_sem]
theorem oix18 (w : World) : (Instr.index 94 opsV (.int .i64 18)).run Tryz.prog w = .ok (.func (.func 97) #[] #[]) w := by simp [Instr.index, go_sem]
theorem oix19 (w : World) : (Instr.index 94 opsV (.int .i64 19)).run Tryz.prog w = .ok (.func (.func 98) #[] #[]) w := by simp [Instr.index, go_sem]
theorem oix20 (w : World) : (Instr.index 94 opsV (.int .i64 20)).run Tryz.prog w = .ok (.func (.func 99) #[] #[]) w := by simp [Instr.index, go_sem]
theorem oix21 (w : World) : (Instr.index 94 opsV (.int .i64 21)).run Tryz.prog w = .ok (.func (.func 100) #[] #[]) w := by simp [Instr.index, go_sem]
theorem oix22 (w : World) : (Instr.index 94 opsV (.int .i64 22)).run Tryz.prog w = .ok (.func (.func 101) #[] #[]) w := by simp [Instr.index, go_sem]
theorem oix23 (w : World) : (Instr.index 94 opsV (.int .i64 23)).run Tryz.prog w = .ok (.func (.func 66) #[] #[]) w := by simp [Instr.index, go_sem]
theorem opK (o : Nat) (ho : o < 24) : ∃ K : Nat, (∀ w : World, (Instr.index 94 opsV (.int .i64 (o : Int))).run Tryz.prog w = .ok (.func (.func K) #[] #[]) w) ∧ (∀ args w, (callFunc K args).run Tryz.prog w = .ok (.enter K args) w) ∧
    ∀ (a b m l : Nat) (p : Par) (hT : Tells p) (z : Kps) (W : World) (x : Mx) (h : At p z W x) (hG : Flags p.w) (hD : Conds p.w) (hl : x.cy.length ≤ 900) (hk : okM x.m = true) (hc : x.c.ok) (ha : a < 8) (hb : b < 8) (hm : m < 256) (hn : p.n < 256),
      Calls Tryz.prog K #[.pointer (some ⟨p.Y, 0, none⟩), insV o a b m l] W fun e W' => e = .returned (.tuple #[]) ∧ At p z W' (x.run p.n a b m o) := by
  have h24 : o = 0 ∨ o = 1 ∨ o = 2 ∨ o = 3 ∨ o = 4 ∨ o = 5 ∨ o = 6 ∨ o = 7 ∨ o = 8 ∨ o = 9 ∨ o = 10 ∨ o = 11 ∨ o = 12 ∨ o = 13 ∨ o = 14 ∨ o = 15 ∨ o = 16 ∨ o = 17 ∨ o = 18 ∨ o = 19 ∨ o = 20 ∨ o = 21 ∨ o = 22 ∨ o = 23 := by omega
  rcases h24 with rfl | rfl | rfl | rfl | rfl | rfl | rfl | rfl | rfl | rfl | rfl | rfl | rfl | rfl | rfl | rfl | rfl | rfl | rfl | rfl | rfl | rfl | rfl | rfl
  · exact ⟨66, oix0, enters_of Tryz.func66 (by kernel_rfl) rfl, op_0⟩
  · exact ⟨67, oix1, enters_of Tryz.func67 (by kernel_rfl) rfl, op_1⟩
  · exact ⟨70, oix2, enters_of Tryz.func70 (by kernel_rfl) rfl, op_2⟩
  · exact ⟨71, oix3, enters_of Tryz.func71 (by kernel_rfl) rfl, op_3⟩
  · exact ⟨72, oix4, enters_of Tryz.func72 (by kernel_rfl) rfl, op_4⟩
  · exact ⟨74, oix5, enters_of Tryz.func74 (by kernel_rfl) rfl, op_5⟩
  · exact ⟨76, oix6, enters_of Tryz.func76 (by kernel_rfl) rfl, op_6⟩
  · exact ⟨77, oix7, enters_of Tryz.func77 (by kernel_rfl) rfl, op_7⟩
  · exact ⟨80, oix8, enters_of Tryz.func80 (by kernel_rfl) rfl, op_8⟩
  · exact ⟨82, oix9, enters_of Tryz.func82 (by kernel_rfl) rfl, op_9⟩
  · exact ⟨85, oix10, enters_of Tryz.func85 (by kernel_rfl) rfl, op_10⟩
  · exact ⟨87, oix11, enters_of Tryz.func87 (by kernel_rfl) rfl, op_11⟩
  · exact ⟨89, oix12, enters_of Tryz.func89 (by kernel_rfl) rfl, op_12⟩
  · exact ⟨90, oix13, enters_of Tryz.func90 (by kernel_rfl) rfl, op_13⟩
  · exact ⟨91, oix14, enters_of Tryz.func91 (by kernel_rfl) rfl, op_14⟩
  · exact ⟨92, oix15, enters_of Tryz.func92 (by kernel_rfl) rfl, op_15⟩
  · exact ⟨94, oix16, enters_of Tryz.func94 (by kernel_rfl) rfl, op_16⟩
  · exact ⟨96, oix17, enters_of Tryz.func96 (by kernel_rfl) rfl, op_17⟩
  · exact ⟨97, oix18, enters_of Tryz.func97 (by kernel_rfl) rfl, op_18⟩
  · exact ⟨98, oix19, enters_of Tryz.func98 (by kernel_rfl) rfl, op_19⟩
  · exact ⟨99, oix20, enters_of Tryz.func99 (by kernel_rfl) rfl, op_20⟩
  · exact ⟨100, oix21, enters_of Tryz.func100 (by kernel_rfl) rfl, op_21⟩
  · exact ⟨101, oix22, enters_of Tryz.func101 (by kernel_rfl) rfl, op_22⟩
  · exact ⟨66, oix23, enters_of Tryz.func66 (by kernel_rfl) rfl, op_23⟩
/-- what is left when an instruction's bytes have been read -/
def wholeM (x : Mx) (first : Nat) : Mx :=
  if decL first = 2 then { ({ x with c := { x.c with pc := (x.c.pc + 1) % 256 } } : Mx).read ((x.c.pc + 1) % 256) with c := { x.c with pc := (x.c.pc + 2) % 256 } }
  else { x with c := { x.c with pc := (x.c.pc + 1) % 256 } }
theorem insv_at (o a b m l : Int) : insV o a b m l = .agg #[.int .i64 o, .int .i64 a, .int .i64 b, .int .i64 m, .int .i64 l] := rfl
set_option maxRecDepth 100000 in
set_option maxHeartbeats 2000000 in
theorem pwhole (first : Nat) (p : Par) (hT : Tells p) (z : Kps) (W : World) (x : Mx) (h : At p z W x) (hK : Kinds p.w) (hl : x.cy.length ≤ 900) (hk : okM x.m = true) (hp : x.c.pc < 256) (hf : first < 256) :
    Calls Tryz.prog 43 #[.pointer (some ⟨p.Y, 0, none⟩), .int .i64 (first : Int)] W fun e W' => e = .returned (dcdV first (peekN x.m ((x.c.pc + 1) % 256))) ∧ At p z W' (wholeM x first) := by
  obtain ⟨hz0, hb0⟩ := h.fresh
  have s1l : (x.c.pc + 1) % 256 < 256 := Nat.mod_lt _ (by omega)
  have hsec := (peek_byte hk s1l).2
  have hdec : Hid (∀ W1 z1 y (s : Nat), At p z1 W1 y → s < 256 → Calls Tryz.prog 52 #[.int .i64 (first : Int), .int .i64 (s : Int)] W1 fun e w' => e = .returned (dcdV first s) ∧ Below W1.heap.size W1 w') := fun W1 z1 y s h1 hs => dec0_impl first s W1 (hK.below h1.old) hf hs
  have h1 := h.boxed zer5 64
  obtain ⟨R, hR⟩ : ∃ R, W.heap.size = R := ⟨_, rfl⟩
  rw [hR] at h1 hz0 hb0
  obtain ⟨V, hV⟩ : ∃ V, W.alloc (Obj.cells zer5 64) = V := ⟨_, rfl⟩
  rw [hV] at h1
  have hd0 : ∃ d0 d1 d2 d3 d4, dcdV first ((0 : Nat) : Int) = insV d0 d1 d2 d3 d4 ∧ d4 = decL first := ⟨_, _, _, _, _, rfl, rfl⟩
  obtain ⟨d0, d1, d2, d3, d4, hd, hd4⟩ := hd0
  have hone : decL first ≠ 2 → dcdV first (peekN x.m ((x.c.pc + 1) % 256)) = insV d0 d1 d2 d3 d4 := fun hh => by rw [dcd_one _ _ hh]; exact hd
  obtain ⟨q0, q1, q2, q3, q4, hq⟩ : ∃ q0 q1 q2 q3 q4, dcdV first (peekN x.m ((x.c.pc + 1) % 256)) = insV q0 q1 q2 q3 q4 := ⟨_, _, _, _, _, rfl⟩
  have c1 := hid (hdec.out V _ x 0 h1 (by omega))
  rw [hd] at c1
  have c2 := hid (fun W1 z1 y h3 => hdec.out W1 z1 y (peekN x.m ((x.c.pc + 1) % 256)) h3 hsec)
  rw [hq] at c2 hone ⊢
  have hps := hid (fun z1 W1 (h3 : At p z1 W1 x) => ppass p z1 W1 x h3 hp)
  have hrd : Hid (∀ z1 W1 (h3 : At p z1 W1 ({ x with c := { x.c with pc := (x.c.pc + 1) % 256 } } : Mx)), Calls _ _ _ W1 _) := fun z1 W1 h3 => pread ((x.c.pc + 1) % 256) p hT z1 W1 _ h3 (by show x.cy.length ≤ 1000; omega) hk s1l
  have hps2 : Hid (∀ z1 W1 (h3 : At p z1 W1 (({ x with c := { x.c with pc := (x.c.pc + 1) % 256 } } : Mx).read ((x.c.pc + 1) % 256))), Calls _ _ _ W1 _) := fun z1 W1 h3 => ppass p z1 W1 _ h3 s1l
  have e2 : ((x.c.pc + 1) % 256 + 1) % 256 = (x.c.pc + 2) % 256 := by omega
  have hE1 : decL first ≠ 2 → wholeM x first = { x with c := { x.c with pc := (x.c.pc + 1) % 256 } } := fun hh => by unfold wholeM; rw [if_neg hh]
  have hE2 : decL first = 2 → wholeM x first = { ({ x with c := { x.c with pc := (x.c.pc + 1) % 256 } } : Mx).read ((x.c.pc + 1) % 256) with c := { x.c with pc := ((x.c.pc + 1) % 256 + 1) % 256 } } := fun hh => by unfold wholeM; rw [if_pos hh, e2]
  have hpk : peekN ({ x with c := { x.c with pc := (x.c.pc + 1) % 256 } } : Mx).m ((x.c.pc + 1) % 256) = peekN x.m ((x.c.pc + 1) % 256) := rfl
  obtain ⟨y2, hy2⟩ : ∃ y2, ({ x with c := { x.c with pc := (x.c.pc + 1) % 256 } } : Mx).read ((x.c.pc + 1) % 256) = y2 := ⟨_, rfl⟩
  have hy2c : y2.c = { x.c with pc := (x.c.pc + 1) % 256 } := by rw [← hy2]; rfl
  rw [hpk] at hrd
  rw [hy2] at hrd hps2 hE2
  clear hy2 hpk e2 hq hd
  generalize hSec : peekN x.m ((x.c.pc + 1) % 256) = sec at *
  generalize hMM : wholeM x first = WM at *
  generalize hS1 : (x.c.pc + 1) % 256 = s1 at *
  clear hSec hMM hS1
  generalize hD : decL (first : Int) = DL at *
  clear hD
  subst hd4
  replace h1 := hid h1
  replace hT := hid hT
  replace hK := hid hK
  replace hz0 := hid hz0
  clear h
  go_enter Tryz.func43, Tryz.ntmps43
  go_upto_region 1 with fail
  (try rw [hV])
  (try rw [hR])
  clear hV hR
  go_wp2_with fail
  refine c1.out.mono ?_
  rintro e w1 ⟨rfl, hb1⟩
  have h2 := h1.out.below hb1
  have hX0 := h2.fresh
  have h3 := h2.boxed #[.int .i64 d0, .int .i64 d1, .int .i64 d2, .int .i64 d3, .int .i64 d4] 64
  clear hb1 h2 h1 c1
  go_upto_region 2 with fail
  obtain ⟨X, hX⟩ : ∃ X, w1.heap.size = X := ⟨_, rfl⟩
  obtain ⟨w2, hw2⟩ : ∃ w2, w1.alloc (.cells #[.int .i64 d0, .int .i64 d1, .int .i64 d2, .int .i64 d3, .int .i64 d4] 64) = w2 := ⟨_, rfl⟩
  rw [hX, hw2] at h3
  rw [hX] at hX0 ⊢
  rw [hw2] at ⊢
  clear hX hw2
  replace h3 := hid h3
  go_wp2_with fail
  refine (hps.out _ _ h3.out).mono ?_
  rintro e w3 ⟨rfl, h4⟩
  have x4 := h4.kept.cell
  have y4 := h4.cell
  replace h4 := hid h4
  clear h3 hps
  by_cases hL : d4 = 2
  rotate_left
  · have hone2 := hid (hone hL)
    have hE12 := hid (hE1 hL)
    have r4 := h4.out.less.kept
    have rc := r4.cell
    have rf := r4.frozen
    have rl := r4.lt
    have hE := hid (h4.out.less.reset5 (fun b' A' hm => by have := hz0.out b' A' hm; omega) hb0 (.int .i64 d0) (.int .i64 d1) (.int .i64 d2) (.int .i64 d3) (.int .i64 d4) #[.int .i64 d0, .int .i64 d1, .int .i64 d2, .int .i64 d3, .int .i64 d4] rfl)
    have hL2 : (d4 == 2) = false := by simp; omega
    clear h4 r4 hL hone hE1 hE2
    go_wp2
    refine bodyPost_ret (v := insV d0 d1 d2 d3 d4) (by simp [results, Tryz.results43, go_sem, rc]) rfl ⟨by rw [hone2.out], by rw [hE12.out]; exact hE.out.less⟩
  · have hL2 : (d4 == 2) = true := by simp; omega
    have hE22 := hid (hE2 hL)
    replace hL := hid hL
    go_wp2_with fail
    refine (hrd.out _ _ h4.out).mono ?_
    rintro e w5 ⟨rfl, h5⟩
    have x5 := h5.kept.cell
    replace h5 := hid h5
    clear h4 x4 y4 hrd hL2 hone hE1 hE2
    go_wp2_with fail
    refine (c2.out _ _ _ h5.out).mono ?_
    rintro e w6 ⟨rfl, hb6⟩
    have h6 := h5.out.below hb6
    have k6 := h6.kept
    have x6 := k6.cell
    have f6 := k6.frozen
    have l6 := k6.lt
    have hXz : ∀ b' A', (b', A') ∈ ((R, zer5) :: z) → b' ≠ X := fun b' A' hm => by have := hX0.1 b' A' hm; omega
    have h7 := hid (h6.reset5 hXz hX0.2 (.int .i64 q0) (.int .i64 q1) (.int .i64 q2) (.int .i64 q3) (.int .i64 q4) #[.int .i64 q0, .int .i64 q1, .int .i64 q2, .int .i64 q3, .int .i64 q4] rfl)
    clear hb6 h5 x5 h6 k6 hXz c2
    go_upto_region 5 with fail
    obtain ⟨w7, hw7⟩ : ∃ w7, (((((w6.setCell ⟨X, 0, none⟩ (.int .i64 q0)).setCell ⟨X, 1, none⟩ (.int .i64 q1)).setCell ⟨X, 2, none⟩ (.int .i64 q2)).setCell ⟨X, 3, none⟩ (.int .i64 q3)).setCell ⟨X, 4, none⟩ (.int .i64 q4)) = w7 := ⟨_, rfl⟩
    rw [hw7] at h7 ⊢
    clear hw7 x6 f6 l6
    go_wp2_with fail
    refine (hps2.out _ _ h7.out).mono ?_
    rintro e w8 ⟨rfl, h8⟩
    rw [hy2c] at h8
    have x8 := h8.kept.cell
    have r8 := h8.less.kept
    have rc := r8.cell
    have rf := r8.frozen
    have rl := r8.lt
    have hE := hid (h8.less.reset5 (fun b' A' hm => by have := hz0.out b' A' hm; omega) hb0 (.int .i64 q0) (.int .i64 q1) (.int .i64 q2) (.int .i64 q3) (.int .i64 q4) #[.int .i64 q0, .int .i64 q1, .int .i64 q2, .int .i64 q3, .int .i64 q4] rfl)
    clear h8 r8 h7 hps2
    go_wp2
    refine bodyPost_ret (v := insV q0 q1 q2 q3 q4) (by simp [results, Tryz.results43, go_sem, rc]) rfl ⟨rfl, by rw [hE22.out]; exact hE.out.less⟩
end Go.Proofs.YtgpmpfikeindfaaGreatDoor
