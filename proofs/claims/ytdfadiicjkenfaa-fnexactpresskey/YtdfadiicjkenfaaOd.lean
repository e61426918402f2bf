/- A key that is pressed or let go: what the specification and the program answer. -/
import Derived.Test.YtdfadiicjkenfaaOb
namespace Go.Proofs.Ytdfadiicjkenfaa
open Go.ChangeShapes Go.WideShapes Go.ChangeAt Go.RowKit
set_option linter.unusedVariables false
set_option linter.unusedSimpArgs false

def upN (x k : Nat) : Nat := Nat.lor x (Nat.pow 2 k)
def dnN (x k : Nat) : Nat := Nat.sub x (Nat.land x (Nat.pow 2 k))
def keyN (x k : Nat) (down : Bool) : Nat := cond down (dnN x k) (upN x k)
def press2 (p : Po) (row key : Int) (down : Bool) : Po × Int := if okP p = true then (if (inB row 0 7 && inB key 0 4) = true then (p.put (keyN (p.key row.toNat).toNat key.toNat down : Nat) row.toNat, 0) else (zeP, 4)) else (zeP, 1)
abbrev ans2 (r : Po × Int) : Value := .tuple #[poV r.1, .int .i64 r.2]
def allE (p : Nat → Nat → Bool) : Bool := allB 32 fun x => p x 0 && p x 1 && p x 2 && p x 3 && p x 4
theorem upN_lt : ∀ x : Nat, x < 32 → ∀ k : Nat, k < 5 → upN x k < 32 := by decide +kernel
theorem dnN_lt : ∀ x : Nat, x < 32 → ∀ k : Nat, k < 5 → dnN x k < 32 := by decide +kernel
theorem dn_0 : ∀ x : Nat, x < 32 → bits .andNot .i64 (x : Int) 1 = (dnN x 0 : Nat) ∧ dnN (upN x 0) 0 = dnN x 0 := by decide +kernel
theorem dn_1 : ∀ x : Nat, x < 32 → bits .andNot .i64 (x : Int) 2 = (dnN x 1 : Nat) ∧ dnN (upN x 1) 1 = dnN x 1 := by decide +kernel
theorem dn_2 : ∀ x : Nat, x < 32 → bits .andNot .i64 (x : Int) 4 = (dnN x 2 : Nat) ∧ dnN (upN x 2) 2 = dnN x 2 := by decide +kernel
theorem dn_3 : ∀ x : Nat, x < 32 → bits .andNot .i64 (x : Int) 8 = (dnN x 3 : Nat) ∧ dnN (upN x 3) 3 = dnN x 3 := by decide +kernel
theorem dn_4 : ∀ x : Nat, x < 32 → bits .andNot .i64 (x : Int) 16 = (dnN x 4 : Nat) ∧ dnN (upN x 4) 4 = dnN x 4 := by decide +kernel
/-- ports in a block, and room for an answer behind it -/
structure PSp (w W : World) (A : Array Value) : Prop where
  q0 : Blk W w.heap.size A
  q1 : Blk W (w.heap.size + 1) (poA zeP)
  bel : Below w.heap.size w W
theorem PSp.start (w : World) (c : Po) (t t1 : TypeId) : PSp w ((w.alloc (.cells (poA c) t)).alloc (.cells (poA zeP) t1)) (poA c) := by
  obtain ⟨q0, q1, hB⟩ := two_in (w := w) (poA c) (poA zeP) t t1
  exact ⟨q0, q1, hB⟩
theorem PSp.below {w W W' : World} {A : Array Value} (h : PSp w W A) (hb : Below W.heap.size W W') : PSp w W' A :=
  ⟨h.q0.below hb h.q0.lt, h.q1.below hb h.q1.lt, h.bel.trans (hb.mono h.bel.size)⟩
theorem PSp.drew {w W : World} {A : Array Value} (h : PSp w W A) : PSp w W.drew A := h.below ⟨rfl, rfl, rfl, Nat.le_refl _, fun _ _ => rfl⟩
theorem PSp.set {w W : World} {A : Array Value} (h : PSp w W A) (i : Nat) (u : Value) : PSp w (W.setCell ⟨w.heap.size, i, none⟩ u) (A.setIfInBounds i u) :=
  ⟨h.q0.set i u, h.q1.other (by simp) u, h.bel.setCell (p := ⟨w.heap.size, i, none⟩) (Nat.le_refl _) u⟩
theorem poA_put_at (c : Po) (k : Nat) (v : Int) (hk : k < 8) : (poA (c.put v k))[k]? = some (.int .i64 v) := by
  rcases eight hk with rfl | rfl | rfl | rfl | rfl | rfl | rfl | rfl <;> rfl
theorem put_put (c : Po) (k : Nat) (u v : Int) (hk : k < 8) : (c.put u k).put v k = c.put v k := by
  rcases eight hk with rfl | rfl | rfl | rfl | rfl | rfl | rfl | rfl <;> rfl
set_option maxRecDepth 100000 in
set_option maxHeartbeats 4000000 in
theorem press_spec (c : Po) (row key : Int) (down : Bool) (w : World) : Calls Try.prog 24 #[poV c, .int .i64 row, .int .i64 key, .bool down] w fun e w' => e = .returned (ans2 (press2 c row key down)) ∧ Below w.heap.size w w' := by
  have hs := hid (PSp.start w c 26 26)
  have x0 := hs.out.q0.cell
  have hok := hid (fun w1 => pok_spec c w1)
  cases hc : okP c
  · have e : press2 c row key down = (zeP, 1) := by unfold press2; rw [hc]; rfl
    rw [e]
    rw [hc] at hok
    clear e
    go_enter Try.func24, Try.ntmps24
    go_upto_region 1 with fail
    obtain ⟨V, hV⟩ : ∃ V, (w.alloc (.cells (poA c) 26)).alloc (.cells (poA zeP) 26) = V := ⟨_, rfl⟩
    rw [hV] at hs x0 ⊢
    clear hV
    go_wp2_with fail
    refine (hok.out _).mono ?_
    rintro e w1 ⟨rfl, hb⟩
    have h1 := hid (hs.out.below hb)
    have y1 := h1.out.q1.cell
    have g1 := h1.out.q1.frozen
    have l1 := h1.out.q1.lt
    clear hb hs x0
    go_wp2
    refine bodyPost_ret (v := ans2 (zeP, 1)) (by simp [results, Try.results24, go_sem, y1]) rfl ⟨rfl, ?_⟩
    repeat refine Below.setCell ?_ (by first | omega | (simp; done) | (simp; omega)) _
    exact h1.out.bel
  · rw [hc] at hok
    cases hrk : inB row 0 7 && inB key 0 4
    · have e : press2 c row key down = (zeP, 4) := by unfold press2; rw [hc, hrk]; rfl
      rw [e]
      clear e
      go_enter Try.func24, Try.ntmps24
      go_upto_region 1 with fail
      obtain ⟨V, hV⟩ : ∃ V, (w.alloc (.cells (poA c) 26)).alloc (.cells (poA zeP) 26) = V := ⟨_, rfl⟩
      rw [hV] at hs x0 ⊢
      clear hV
      go_wp2_with fail
      refine (hok.out _).mono ?_
      rintro e w1 ⟨rfl, hb⟩
      have h1 := hid (hs.out.below hb)
      have y1 := h1.out.q1.cell
      have g1 := h1.out.q1.frozen
      have l1 := h1.out.q1.lt
      clear hb hs x0
      cases hr : inB row 0 7
      · go_wp2_with (go_at_call 37; refine (in_spec _ _ _ _).mono ?_; rintro e w' ⟨rfl, rfl⟩; rw [hr])
        refine bodyPost_ret (v := ans2 (zeP, 4)) (by simp [results, Try.results24, go_sem, y1]) rfl ⟨rfl, ?_⟩
        repeat refine Below.setCell ?_ (by first | omega | (simp; done) | (simp; omega)) _
        exact h1.out.bel
      · rw [hr, Bool.true_and] at hrk
        go_wp2_with (go_at_call 37; refine (in_spec _ _ _ _).mono ?_; rintro e w' ⟨rfl, rfl⟩; first | rw [hr] | rw [hrk])
        refine bodyPost_ret (v := ans2 (zeP, 4)) (by simp [results, Try.results24, go_sem, y1]) rfl ⟨rfl, ?_⟩
        repeat refine Below.setCell ?_ (by first | omega | (simp; done) | (simp; omega)) _
        exact h1.out.bel
    · rw [Bool.and_eq_true] at hrk
      obtain ⟨hr, hk⟩ := hrk
      obtain ⟨r, rfl, hr8⟩ : ∃ n : Nat, row = n ∧ n < 8 := by simp [inB] at hr; exact ⟨row.toNat, by omega, by omega⟩
      obtain ⟨k, rfl, hk5⟩ : ∃ n : Nat, key = n ∧ n < 5 := by simp [inB] at hk; exact ⟨key.toNat, by omega, by omega⟩
      obtain ⟨x, hx, hx32⟩ := okP_key hc r hr8
      have e : press2 c (r : Int) (k : Int) down = (c.put (keyN x k down : Nat) r, 0) := by unfold press2; rw [hc, hr, hk]; simp only [Bool.and_self, if_true, Int.toNat_natCast]; rw [hx, Int.toNat_natCast]
      rw [e]
      clear e
      have hat := poA_at c r hr8
      rw [hx] at hat
      have hput := hid (fun v : Nat => poA_put c r (v : Int) hr8)
      have hpat := hid (fun v : Nat => poA_put_at c r (v : Int) hr8)
      have hpp := hid (fun u v : Nat => put_put c r (u : Int) (v : Int) hr8)
      have hUl := upN_lt x hx32 k hk5
      have hU : Hid (∀ y : Nat, y < 32 → bits .or .i64 (y : Int) ((Nat.pow 2 k : Nat) : Int) = (upN y k : Nat)) := fun y hy => bOr y (Nat.pow 2 k) (by omega) (by rcases (by omega : k = 0 ∨ k = 1 ∨ k = 2 ∨ k = 3 ∨ k = 4) with rfl | rfl | rfl | rfl | rfl <;> decide)
      rcases (by omega : k = 0 ∨ k = 1 ∨ k = 2 ∨ k = 3 ∨ k = 4) with rfl | rfl | rfl | rfl | rfl
      · have rU : bits .or .i64 (x : Int) 1 = (upN x 0 : Nat) := hU.out x hx32
        have rD : bits .andNot .i64 (x : Int) 1 = (dnN x 0 : Nat) := (dn_0 x hx32).1
        have rE : bits .andNot .i64 ((upN x 0 : Nat) : Int) 1 = (dnN x 0 : Nat) := by rw [(dn_0 _ hUl).1, (dn_0 x hx32).2]
        have eF : keyN x 0 false = upN x 0 := rfl
        have eT : keyN x 0 true = dnN x 0 := rfl
        generalize upN x 0 = U at *
        generalize dnN x 0 = D at *
        replace eF := hid eF
        replace eT := hid eT
        clear hU hx
        cases down
        · rw [eF.out]
          clear eF eT
          go_enter Try.func24, Try.ntmps24
          go_upto_region 1 with fail
          obtain ⟨V, hV⟩ : ∃ V, (w.alloc (.cells (poA c) 26)).alloc (.cells (poA zeP) 26) = V := ⟨_, rfl⟩
          rw [hV] at hs x0 ⊢
          clear hV
          go_wp2_with fail
          refine (hok.out _).mono ?_
          rintro e w1 ⟨rfl, hb⟩
          have h1 := hid (hs.out.below hb)
          have y0 := h1.out.q0.cell r
          rw [hat] at y0
          have g0 := h1.out.q0.frozen r
          have h2 := h1.out.set r (.int .i64 (U : Int))
          rw [hput.out U] at h2
          replace h2 := hid h2
          clear hb hs x0 h1 hat
          go_wp2_with (go_at_call 37; refine (in_spec _ _ _ _).mono ?_; rintro e w' ⟨rfl, hww⟩; obtain rfl := hww.symm; first | rw [hr] | rw [show inB 0 0 4 = true by decide])
          go_region
          have h3 := hid h2.out.drew
          obtain ⟨W1, hW1⟩ : ∃ W1, (w1.setCell ⟨w.heap.size, r, none⟩ (.int .i64 (U : Int))).drew = W1 := ⟨_, rfl⟩
          rw [hW1] at h3 ⊢
          clear hW1 h2 y0 g0
          obtain ⟨C, hC⟩ : ∃ C, c.put (U : Int) r = C := ⟨_, rfl⟩
          rw [hC] at h3
          replace hC := hid hC
          have z0 := h3.out.q0.cell
          have y1 := h3.out.q1.cell
          have g1 := h3.out.q1.frozen
          have l1 := h3.out.q1.lt
          go_wp2
          refine bodyPost_ret (v := ans2 (C, 0)) (by simp [results, Try.results24, go_sem, y1]) rfl ⟨by rw [hC.out], ?_⟩
          repeat refine Below.setCell ?_ (by first | omega | (simp; done) | (simp; omega)) _
          exact h3.out.bel
        · rw [eT.out]
          clear eF eT
          go_enter Try.func24, Try.ntmps24
          go_upto_region 1 with fail
          obtain ⟨V, hV⟩ : ∃ V, (w.alloc (.cells (poA c) 26)).alloc (.cells (poA zeP) 26) = V := ⟨_, rfl⟩
          rw [hV] at hs x0 ⊢
          clear hV
          go_wp2_with fail
          refine (hok.out _).mono ?_
          rintro e w1 ⟨rfl, hb⟩
          have h1 := hid (hs.out.below hb)
          have y0 := h1.out.q0.cell r
          rw [hat] at y0
          have g0 := h1.out.q0.frozen r
          have h2 := h1.out.set r (.int .i64 (U : Int))
          rw [hput.out U] at h2
          replace h2 := hid h2
          clear hb hs x0 h1 hat
          go_wp2_with (go_at_call 37; refine (in_spec _ _ _ _).mono ?_; rintro e w' ⟨rfl, hww⟩; obtain rfl := hww.symm; first | rw [hr] | rw [show inB 0 0 4 = true by decide])
          go_region
          have h3 := hid h2.out.drew
          obtain ⟨W1, hW1⟩ : ∃ W1, (w1.setCell ⟨w.heap.size, r, none⟩ (.int .i64 (U : Int))).drew = W1 := ⟨_, rfl⟩
          rw [hW1] at h3 ⊢
          clear hW1 h2 y0 g0
          have y2 := h3.out.q0.cell r
          rw [hpat.out U] at y2
          have g2 := h3.out.q0.frozen r
          have h4 := h3.out.set r (.int .i64 (D : Int))
          rw [poA_put _ r _ hr8, hpp.out U D] at h4
          replace h4 := hid h4
          clear h3
          go_wp2
          go_region
          have h5 := hid h4.out.drew
          obtain ⟨W2, hW2⟩ : ∃ W2, (W1.setCell ⟨w.heap.size, r, none⟩ (.int .i64 (D : Int))).drew = W2 := ⟨_, rfl⟩
          rw [hW2] at h5 ⊢
          clear hW2 h4 y2 g2
          obtain ⟨C, hC⟩ : ∃ C, c.put (D : Int) r = C := ⟨_, rfl⟩
          rw [hC] at h5
          replace hC := hid hC
          have z0 := h5.out.q0.cell
          have y1 := h5.out.q1.cell
          have g1 := h5.out.q1.frozen
          have l1 := h5.out.q1.lt
          go_wp2
          refine bodyPost_ret (v := ans2 (C, 0)) (by simp [results, Try.results24, go_sem, y1]) rfl ⟨by rw [hC.out], ?_⟩
          repeat refine Below.setCell ?_ (by first | omega | (simp; done) | (simp; omega)) _
          exact h5.out.bel
      · have rU : bits .or .i64 (x : Int) 2 = (upN x 1 : Nat) := hU.out x hx32
        have rD : bits .andNot .i64 (x : Int) 2 = (dnN x 1 : Nat) := (dn_1 x hx32).1
        have rE : bits .andNot .i64 ((upN x 1 : Nat) : Int) 2 = (dnN x 1 : Nat) := by rw [(dn_1 _ hUl).1, (dn_1 x hx32).2]
        have eF : keyN x 1 false = upN x 1 := rfl
        have eT : keyN x 1 true = dnN x 1 := rfl
        generalize upN x 1 = U at *
        generalize dnN x 1 = D at *
        replace eF := hid eF
        replace eT := hid eT
        clear hU hx
        cases down
        · rw [eF.out]
          clear eF eT
          go_enter Try.func24, Try.ntmps24
          go_upto_region 1 with fail
          obtain ⟨V, hV⟩ : ∃ V, (w.alloc (.cells (poA c) 26)).alloc (.cells (poA zeP) 26) = V := ⟨_, rfl⟩
          rw [hV] at hs x0 ⊢
          clear hV
          go_wp2_with fail
          refine (hok.out _).mono ?_
          rintro e w1 ⟨rfl, hb⟩
          have h1 := hid (hs.out.below hb)
          have y0 := h1.out.q0.cell r
          rw [hat] at y0
          have g0 := h1.out.q0.frozen r
          have h2 := h1.out.set r (.int .i64 (U : Int))
          rw [hput.out U] at h2
          replace h2 := hid h2
          clear hb hs x0 h1 hat
          go_wp2_with (go_at_call 37; refine (in_spec _ _ _ _).mono ?_; rintro e w' ⟨rfl, hww⟩; obtain rfl := hww.symm; first | rw [hr] | rw [show inB 1 0 4 = true by decide])
          go_region
          have h3 := hid h2.out.drew
          obtain ⟨W1, hW1⟩ : ∃ W1, (w1.setCell ⟨w.heap.size, r, none⟩ (.int .i64 (U : Int))).drew = W1 := ⟨_, rfl⟩
          rw [hW1] at h3 ⊢
          clear hW1 h2 y0 g0
          obtain ⟨C, hC⟩ : ∃ C, c.put (U : Int) r = C := ⟨_, rfl⟩
          rw [hC] at h3
          replace hC := hid hC
          have z0 := h3.out.q0.cell
          have y1 := h3.out.q1.cell
          have g1 := h3.out.q1.frozen
          have l1 := h3.out.q1.lt
          go_wp2
          refine bodyPost_ret (v := ans2 (C, 0)) (by simp [results, Try.results24, go_sem, y1]) rfl ⟨by rw [hC.out], ?_⟩
          repeat refine Below.setCell ?_ (by first | omega | (simp; done) | (simp; omega)) _
          exact h3.out.bel
        · rw [eT.out]
          clear eF eT
          go_enter Try.func24, Try.ntmps24
          go_upto_region 1 with fail
          obtain ⟨V, hV⟩ : ∃ V, (w.alloc (.cells (poA c) 26)).alloc (.cells (poA zeP) 26) = V := ⟨_, rfl⟩
          rw [hV] at hs x0 ⊢
          clear hV
          go_wp2_with fail
          refine (hok.out _).mono ?_
          rintro e w1 ⟨rfl, hb⟩
          have h1 := hid (hs.out.below hb)
          have y0 := h1.out.q0.cell r
          rw [hat] at y0
          have g0 := h1.out.q0.frozen r
          have h2 := h1.out.set r (.int .i64 (U : Int))
          rw [hput.out U] at h2
          replace h2 := hid h2
          clear hb hs x0 h1 hat
          go_wp2_with (go_at_call 37; refine (in_spec _ _ _ _).mono ?_; rintro e w' ⟨rfl, hww⟩; obtain rfl := hww.symm; first | rw [hr] | rw [show inB 1 0 4 = true by decide])
          go_region
          have h3 := hid h2.out.drew
          obtain ⟨W1, hW1⟩ : ∃ W1, (w1.setCell ⟨w.heap.size, r, none⟩ (.int .i64 (U : Int))).drew = W1 := ⟨_, rfl⟩
          rw [hW1] at h3 ⊢
          clear hW1 h2 y0 g0
          have y2 := h3.out.q0.cell r
          rw [hpat.out U] at y2
          have g2 := h3.out.q0.frozen r
          have h4 := h3.out.set r (.int .i64 (D : Int))
          rw [poA_put _ r _ hr8, hpp.out U D] at h4
          replace h4 := hid h4
          clear h3
          go_wp2
          go_region
          have h5 := hid h4.out.drew
          obtain ⟨W2, hW2⟩ : ∃ W2, (W1.setCell ⟨w.heap.size, r, none⟩ (.int .i64 (D : Int))).drew = W2 := ⟨_, rfl⟩
          rw [hW2] at h5 ⊢
          clear hW2 h4 y2 g2
          obtain ⟨C, hC⟩ : ∃ C, c.put (D : Int) r = C := ⟨_, rfl⟩
          rw [hC] at h5
          replace hC := hid hC
          have z0 := h5.out.q0.cell
          have y1 := h5.out.q1.cell
          have g1 := h5.out.q1.frozen
          have l1 := h5.out.q1.lt
          go_wp2
          refine bodyPost_ret (v := ans2 (C, 0)) (by simp [results, Try.results24, go_sem, y1]) rfl ⟨by rw [hC.out], ?_⟩
          repeat refine Below.setCell ?_ (by first | omega | (simp; done) | (simp; omega)) _
          exact h5.out.bel
      · have rU : bits .or .i64 (x : Int) 4 = (upN x 2 : Nat) := hU.out x hx32
        have rD : bits .andNot .i64 (x : Int) 4 = (dnN x 2 : Nat) := (dn_2 x hx32).1
        have rE : bits .andNot .i64 ((upN x 2 : Nat) : Int) 4 = (dnN x 2 : Nat) := by rw [(dn_2 _ hUl).1, (dn_2 x hx32).2]
        have eF : keyN x 2 false = upN x 2 := rfl
        have eT : keyN x 2 true = dnN x 2 := rfl
        generalize upN x 2 = U at *
        generalize dnN x 2 = D at *
        replace eF := hid eF
        replace eT := hid eT
        clear hU hx
        cases down
        · rw [eF.out]
          clear eF eT
          go_enter Try.func24, Try.ntmps24
          go_upto_region 1 with fail
          obtain ⟨V, hV⟩ : ∃ V, (w.alloc (.cells (poA c) 26)).alloc (.cells (poA zeP) 26) = V := ⟨_, rfl⟩
          rw [hV] at hs x0 ⊢
          clear hV
          go_wp2_with fail
          refine (hok.out _).mono ?_
          rintro e w1 ⟨rfl, hb⟩
          have h1 := hid (hs.out.below hb)
          have y0 := h1.out.q0.cell r
          rw [hat] at y0
          have g0 := h1.out.q0.frozen r
          have h2 := h1.out.set r (.int .i64 (U : Int))
          rw [hput.out U] at h2
          replace h2 := hid h2
          clear hb hs x0 h1 hat
          go_wp2_with (go_at_call 37; refine (in_spec _ _ _ _).mono ?_; rintro e w' ⟨rfl, hww⟩; obtain rfl := hww.symm; first | rw [hr] | rw [show inB 2 0 4 = true by decide])
          go_region
          have h3 := hid h2.out.drew
          obtain ⟨W1, hW1⟩ : ∃ W1, (w1.setCell ⟨w.heap.size, r, none⟩ (.int .i64 (U : Int))).drew = W1 := ⟨_, rfl⟩
          rw [hW1] at h3 ⊢
          clear hW1 h2 y0 g0
          obtain ⟨C, hC⟩ : ∃ C, c.put (U : Int) r = C := ⟨_, rfl⟩
          rw [hC] at h3
          replace hC := hid hC
          have z0 := h3.out.q0.cell
          have y1 := h3.out.q1.cell
          have g1 := h3.out.q1.frozen
          have l1 := h3.out.q1.lt
          go_wp2
          refine bodyPost_ret (v := ans2 (C, 0)) (by simp [results, Try.results24, go_sem, y1]) rfl ⟨by rw [hC.out], ?_⟩
          repeat refine Below.setCell ?_ (by first | omega | (simp; done) | (simp; omega)) _
          exact h3.out.bel
        · rw [eT.out]
          clear eF eT
          go_enter Try.func24, Try.ntmps24
          go_upto_region 1 with fail
          obtain ⟨V, hV⟩ : ∃ V, (w.alloc (.cells (poA c) 26)).alloc (.cells (poA zeP) 26) = V := ⟨_, rfl⟩
          rw [hV] at hs x0 ⊢
          clear hV
          go_wp2_with fail
          refine (hok.out _).mono ?_
          rintro e w1 ⟨rfl, hb⟩
          have h1 := hid (hs.out.below hb)
          have y0 := h1.out.q0.cell r
          rw [hat] at y0
          have g0 := h1.out.q0.frozen r
          have h2 := h1.out.set r (.int .i64 (U : Int))
          rw [hput.out U] at h2
          replace h2 := hid h2
          clear hb hs x0 h1 hat
          go_wp2_with (go_at_call 37; refine (in_spec _ _ _ _).mono ?_; rintro e w' ⟨rfl, hww⟩; obtain rfl := hww.symm; first | rw [hr] | rw [show inB 2 0 4 = true by decide])
          go_region
          have h3 := hid h2.out.drew
          obtain ⟨W1, hW1⟩ : ∃ W1, (w1.setCell ⟨w.heap.size, r, none⟩ (.int .i64 (U : Int))).drew = W1 := ⟨_, rfl⟩
          rw [hW1] at h3 ⊢
          clear hW1 h2 y0 g0
          have y2 := h3.out.q0.cell r
          rw [hpat.out U] at y2
          have g2 := h3.out.q0.frozen r
          have h4 := h3.out.set r (.int .i64 (D : Int))
          rw [poA_put _ r _ hr8, hpp.out U D] at h4
          replace h4 := hid h4
          clear h3
          go_wp2
          go_region
          have h5 := hid h4.out.drew
          obtain ⟨W2, hW2⟩ : ∃ W2, (W1.setCell ⟨w.heap.size, r, none⟩ (.int .i64 (D : Int))).drew = W2 := ⟨_, rfl⟩
          rw [hW2] at h5 ⊢
          clear hW2 h4 y2 g2
          obtain ⟨C, hC⟩ : ∃ C, c.put (D : Int) r = C := ⟨_, rfl⟩
          rw [hC] at h5
          replace hC := hid hC
          have z0 := h5.out.q0.cell
          have y1 := h5.out.q1.cell
          have g1 := h5.out.q1.frozen
          have l1 := h5.out.q1.lt
          go_wp2
          refine bodyPost_ret (v := ans2 (C, 0)) (by simp [results, Try.results24, go_sem, y1]) rfl ⟨by rw [hC.out], ?_⟩
          repeat refine Below.setCell ?_ (by first | omega | (simp; done) | (simp; omega)) _
          exact h5.out.bel
      · have rU : bits .or .i64 (x : Int) 8 = (upN x 3 : Nat) := hU.out x hx32
        have rD : bits .andNot .i64 (x : Int) 8 = (dnN x 3 : Nat) := (dn_3 x hx32).1
        have rE : bits .andNot .i64 ((upN x 3 : Nat) : Int) 8 = (dnN x 3 : Nat) := by rw [(dn_3 _ hUl).1, (dn_3 x hx32).2]
        have eF : keyN x 3 false = upN x 3 := rfl
        have eT : keyN x 3 true = dnN x 3 := rfl
        generalize upN x 3 = U at *
        generalize dnN x 3 = D at *
        replace eF := hid eF
        replace eT := hid eT
        clear hU hx
        cases down
        · rw [eF.out]
          clear eF eT
          go_enter Try.func24, Try.ntmps24
          go_upto_region 1 with fail
          obtain ⟨V, hV⟩ : ∃ V, (w.alloc (.cells (poA c) 26)).alloc (.cells (poA zeP) 26) = V := ⟨_, rfl⟩
          rw [hV] at hs x0 ⊢
          clear hV
          go_wp2_with fail
          refine (hok.out _).mono ?_
          rintro e w1 ⟨rfl, hb⟩
          have h1 := hid (hs.out.below hb)
          have y0 := h1.out.q0.cell r
          rw [hat] at y0
          have g0 := h1.out.q0.frozen r
          have h2 := h1.out.set r (.int .i64 (U : Int))
          rw [hput.out U] at h2
          replace h2 := hid h2
          clear hb hs x0 h1 hat
          go_wp2_with (go_at_call 37; refine (in_spec _ _ _ _).mono ?_; rintro e w' ⟨rfl, hww⟩; obtain rfl := hww.symm; first | rw [hr] | rw [show inB 3 0 4 = true by decide])
          go_region
          have h3 := hid h2.out.drew
          obtain ⟨W1, hW1⟩ : ∃ W1, (w1.setCell ⟨w.heap.size, r, none⟩ (.int .i64 (U : Int))).drew = W1 := ⟨_, rfl⟩
          rw [hW1] at h3 ⊢
          clear hW1 h2 y0 g0
          obtain ⟨C, hC⟩ : ∃ C, c.put (U : Int) r = C := ⟨_, rfl⟩
          rw [hC] at h3
          replace hC := hid hC
          have z0 := h3.out.q0.cell
          have y1 := h3.out.q1.cell
          have g1 := h3.out.q1.frozen
          have l1 := h3.out.q1.lt
          go_wp2
          refine bodyPost_ret (v := ans2 (C, 0)) (by simp [results, Try.results24, go_sem, y1]) rfl ⟨by rw [hC.out], ?_⟩
          repeat refine Below.setCell ?_ (by first | omega | (simp; done) | (simp; omega)) _
          exact h3.out.bel
        · rw [eT.out]
          clear eF eT
          go_enter Try.func24, Try.ntmps24
          go_upto_region 1 with fail
          obtain ⟨V, hV⟩ : ∃ V, (w.alloc (.cells (poA c) 26)).alloc (.cells (poA zeP) 26) = V := ⟨_, rfl⟩
          rw [hV] at hs x0 ⊢
          clear hV
          go_wp2_with fail
          refine (hok.out _).mono ?_
          rintro e w1 ⟨rfl, hb⟩
          have h1 := hid (hs.out.below hb)
          have y0 := h1.out.q0.cell r
          rw [hat] at y0
          have g0 := h1.out.q0.frozen r
          have h2 := h1.out.set r (.int .i64 (U : Int))
          rw [hput.out U] at h2
          replace h2 := hid h2
          clear hb hs x0 h1 hat
          go_wp2_with (go_at_call 37; refine (in_spec _ _ _ _).mono ?_; rintro e w' ⟨rfl, hww⟩; obtain rfl := hww.symm; first | rw [hr] | rw [show inB 3 0 4 = true by decide])
          go_region
          have h3 := hid h2.out.drew
          obtain ⟨W1, hW1⟩ : ∃ W1, (w1.setCell ⟨w.heap.size, r, none⟩ (.int .i64 (U : Int))).drew = W1 := ⟨_, rfl⟩
          rw [hW1] at h3 ⊢
          clear hW1 h2 y0 g0
          have y2 := h3.out.q0.cell r
          rw [hpat.out U] at y2
          have g2 := h3.out.q0.frozen r
          have h4 := h3.out.set r (.int .i64 (D : Int))
          rw [poA_put _ r _ hr8, hpp.out U D] at h4
          replace h4 := hid h4
          clear h3
          go_wp2
          go_region
          have h5 := hid h4.out.drew
          obtain ⟨W2, hW2⟩ : ∃ W2, (W1.setCell ⟨w.heap.size, r, none⟩ (.int .i64 (D : Int))).drew = W2 := ⟨_, rfl⟩
          rw [hW2] at h5 ⊢
          clear hW2 h4 y2 g2
          obtain ⟨C, hC⟩ : ∃ C, c.put (D : Int) r = C := ⟨_, rfl⟩
          rw [hC] at h5
          replace hC := hid hC
          have z0 := h5.out.q0.cell
          have y1 := h5.out.q1.cell
          have g1 := h5.out.q1.frozen
          have l1 := h5.out.q1.lt
          go_wp2
          refine bodyPost_ret (v := ans2 (C, 0)) (by simp [results, Try.results24, go_sem, y1]) rfl ⟨by rw [hC.out], ?_⟩
          repeat refine Below.setCell ?_ (by first | omega | (simp; done) | (simp; omega)) _
          exact h5.out.bel
      · have rU : bits .or .i64 (x : Int) 16 = (upN x 4 : Nat) := hU.out x hx32
        have rD : bits .andNot .i64 (x : Int) 16 = (dnN x 4 : Nat) := (dn_4 x hx32).1
        have rE : bits .andNot .i64 ((upN x 4 : Nat) : Int) 16 = (dnN x 4 : Nat) := by rw [(dn_4 _ hUl).1, (dn_4 x hx32).2]
        have eF : keyN x 4 false = upN x 4 := rfl
        have eT : keyN x 4 true = dnN x 4 := rfl
        generalize upN x 4 = U at *
        generalize dnN x 4 = D at *
        replace eF := hid eF
        replace eT := hid eT
        clear hU hx
        cases down
        · rw [eF.out]
          clear eF eT
          go_enter Try.func24, Try.ntmps24
          go_upto_region 1 with fail
          obtain ⟨V, hV⟩ : ∃ V, (w.alloc (.cells (poA c) 26)).alloc (.cells (poA zeP) 26) = V := ⟨_, rfl⟩
          rw [hV] at hs x0 ⊢
          clear hV
          go_wp2_with fail
          refine (hok.out _).mono ?_
          rintro e w1 ⟨rfl, hb⟩
          have h1 := hid (hs.out.below hb)
          have y0 := h1.out.q0.cell r
          rw [hat] at y0
          have g0 := h1.out.q0.frozen r
          have h2 := h1.out.set r (.int .i64 (U : Int))
          rw [hput.out U] at h2
          replace h2 := hid h2
          clear hb hs x0 h1 hat
          go_wp2_with (go_at_call 37; refine (in_spec _ _ _ _).mono ?_; rintro e w' ⟨rfl, hww⟩; obtain rfl := hww.symm; first | rw [hr] | rw [show inB 4 0 4 = true by decide])
          go_region
          have h3 := hid h2.out.drew
          obtain ⟨W1, hW1⟩ : ∃ W1, (w1.setCell ⟨w.heap.size, r, none⟩ (.int .i64 (U : Int))).drew = W1 := ⟨_, rfl⟩
          rw [hW1] at h3 ⊢
          clear hW1 h2 y0 g0
          obtain ⟨C, hC⟩ : ∃ C, c.put (U : Int) r = C := ⟨_, rfl⟩
          rw [hC] at h3
          replace hC := hid hC
          have z0 := h3.out.q0.cell
          have y1 := h3.out.q1.cell
          have g1 := h3.out.q1.frozen
          have l1 := h3.out.q1.lt
          go_wp2
          refine bodyPost_ret (v := ans2 (C, 0)) (by simp [results, Try.results24, go_sem, y1]) rfl ⟨by rw [hC.out], ?_⟩
          repeat refine Below.setCell ?_ (by first | omega | (simp; done) | (simp; omega)) _
          exact h3.out.bel
        · rw [eT.out]
          clear eF eT
          go_enter Try.func24, Try.ntmps24
          go_upto_region 1 with fail
          obtain ⟨V, hV⟩ : ∃ V, (w.alloc (.cells (poA c) 26)).alloc (.cells (poA zeP) 26) = V := ⟨_, rfl⟩
          rw [hV] at hs x0 ⊢
          clear hV
          go_wp2_with fail
          refine (hok.out _).mono ?_
          rintro e w1 ⟨rfl, hb⟩
          have h1 := hid (hs.out.below hb)
          have y0 := h1.out.q0.cell r
          rw [hat] at y0
          have g0 := h1.out.q0.frozen r
          have h2 := h1.out.set r (.int .i64 (U : Int))
          rw [hput.out U] at h2
          replace h2 := hid h2
          clear hb hs x0 h1 hat
          go_wp2_with (go_at_call 37; refine (in_spec _ _ _ _).mono ?_; rintro e w' ⟨rfl, hww⟩; obtain rfl := hww.symm; first | rw [hr] | rw [show inB 4 0 4 = true by decide])
          go_region
          have h3 := hid h2.out.drew
          obtain ⟨W1, hW1⟩ : ∃ W1, (w1.setCell ⟨w.heap.size, r, none⟩ (.int .i64 (U : Int))).drew = W1 := ⟨_, rfl⟩
          rw [hW1] at h3 ⊢
          clear hW1 h2 y0 g0
          have y2 := h3.out.q0.cell r
          rw [hpat.out U] at y2
          have g2 := h3.out.q0.frozen r
          have h4 := h3.out.set r (.int .i64 (D : Int))
          rw [poA_put _ r _ hr8, hpp.out U D] at h4
          replace h4 := hid h4
          clear h3
          go_wp2
          go_region
          have h5 := hid h4.out.drew
          obtain ⟨W2, hW2⟩ : ∃ W2, (W1.setCell ⟨w.heap.size, r, none⟩ (.int .i64 (D : Int))).drew = W2 := ⟨_, rfl⟩
          rw [hW2] at h5 ⊢
          clear hW2 h4 y2 g2
          obtain ⟨C, hC⟩ : ∃ C, c.put (D : Int) r = C := ⟨_, rfl⟩
          rw [hC] at h5
          replace hC := hid hC
          have z0 := h5.out.q0.cell
          have y1 := h5.out.q1.cell
          have g1 := h5.out.q1.frozen
          have l1 := h5.out.q1.lt
          go_wp2
          refine bodyPost_ret (v := ans2 (C, 0)) (by simp [results, Try.results24, go_sem, y1]) rfl ⟨by rw [hC.out], ?_⟩
          repeat refine Below.setCell ?_ (by first | omega | (simp; done) | (simp; omega)) _
          exact h5.out.bel
def pfN (c : Po) (b : Bool) : Int := if okP c = true then (if b = true then 0 else 4) else 1
set_option maxRecDepth 100000 in
theorem pfault_impl (c : Po) (b : Bool) (w : World) : Calls Try.prog 26 #[poV c, .bool b] w fun e w' => e = .returned (.int .i64 (pfN c b)) ∧ Below w.heap.size w w' := by
  have hB := hid ((Below.refl w.heap.size w).alloc (Nat.le_refl _) (.cells (poA c) 26))
  have x0 := (Blk.new w (poA c) 26).cell
  have hok := hid (fun w1 => pok_impl c w1)
  have e : pfN c b = if okP c = true then (if b = true then 0 else 4) else 1 := rfl
  rw [e]
  clear e
  generalize okP c = Q at *
  go_enter Try.func26, Try.ntmps26
  go_upto_region 1 with fail
  obtain ⟨V, hV⟩ : ∃ V, w.alloc (Obj.cells (poA c) 26) = V := ⟨_, rfl⟩
  rw [hV] at hB x0 ⊢
  clear hV
  go_wp2_with fail
  refine (hok.out _).mono ?_
  rintro e w1 ⟨rfl, hb⟩
  have hb1 := hid (new_trans hB.out hb)
  clear hb hB x0
  cases Q
  · go_wp2
    go_ret
    exact ⟨rfl, hb1.out⟩
  · cases b
    · go_wp2
      go_ret
      exact ⟨rfl, hb1.out⟩
    · go_wp2
      go_ret
      exact ⟨rfl, hb1.out⟩
set_option maxRecDepth 100000 in
set_option maxHeartbeats 4000000 in
theorem press_impl (c : Po) (row key : Int) (down : Bool) (w : World) : Calls Try.prog 10 #[poV c, .int .i64 row, .int .i64 key, .bool down] w fun e w' => e = .returned (ans2 (press2 c row key down)) ∧ Below w.heap.size w w' := by
  have hs := hid (PSp.start w c 26 26)
  have x0 := hs.out.q0.cell
  have hpf := hid (fun w1 => pfault_impl c (inB row 0 7 && inB key 0 4) w1)
  cases hc : okP c
  · have e : press2 c row key down = (zeP, 1) := by unfold press2; rw [hc]; rfl
    rw [e]
    have e2 : ∀ b, pfN c b = 1 := fun b => by unfold pfN; rw [hc]; rfl
    clear e
    go_enter Try.func10, Try.ntmps10
    go_upto_region 1 with fail
    obtain ⟨V, hV⟩ : ∃ V, (w.alloc (.cells (poA c) 26)).alloc (.cells (poA zeP) 26) = V := ⟨_, rfl⟩
    rw [hV] at hs x0 ⊢
    clear hV
    cases hr : inB row 0 7
    · rw [hr, Bool.false_and] at hpf
      rw [e2] at hpf
      go_wp2_with (go_at_call 25; refine (iswP_impl _ _ _ _).mono ?_; rintro e w' ⟨rfl, hww⟩; obtain rfl := hww.symm; rw [hr])
      refine (hpf.out _).mono ?_
      rintro e w1 ⟨rfl, hb⟩
      have h1 := hid (hs.out.below hb)
      have y1 := h1.out.q1.cell
      have g1 := h1.out.q1.frozen
      have l1 := h1.out.q1.lt
      clear hb hs x0
      go_wp2
      refine bodyPost_ret (v := ans2 (zeP, 1)) (by simp [results, Try.results10, go_sem, y1]) rfl ⟨rfl, ?_⟩
      repeat refine Below.setCell ?_ (by first | omega | (simp; done) | (simp; omega)) _
      exact h1.out.bel
    · rw [hr, Bool.true_and] at hpf
      cases hk : inB key 0 4
      all_goals
        rw [hk] at hpf
        rw [e2] at hpf
        go_wp2_with (go_at_call 25; refine (iswP_impl _ _ _ _).mono ?_; rintro e w' ⟨rfl, hww⟩; obtain rfl := hww.symm; first | rw [hr] | rw [hk])
        refine (hpf.out _).mono ?_
        rintro e w1 ⟨rfl, hb⟩
        have h1 := hid (hs.out.below hb)
        have y1 := h1.out.q1.cell
        have g1 := h1.out.q1.frozen
        have l1 := h1.out.q1.lt
        clear hb hs x0
        go_wp2
        refine bodyPost_ret (v := ans2 (zeP, 1)) (by simp [results, Try.results10, go_sem, y1]) rfl ⟨rfl, ?_⟩
        repeat refine Below.setCell ?_ (by first | omega | (simp; done) | (simp; omega)) _
        exact h1.out.bel
  · have e1 : ∀ b, pfN c b = if b = true then 0 else 4 := fun b => by unfold pfN; rw [hc]; rfl
    cases hrk : inB row 0 7 && inB key 0 4
    · have e : press2 c row key down = (zeP, 4) := by unfold press2; rw [hc, hrk]; rfl
      rw [e]
      rw [hrk, e1, if_neg (by simp)] at hpf
      clear e e1
      go_enter Try.func10, Try.ntmps10
      go_upto_region 1 with fail
      obtain ⟨V, hV⟩ : ∃ V, (w.alloc (.cells (poA c) 26)).alloc (.cells (poA zeP) 26) = V := ⟨_, rfl⟩
      rw [hV] at hs x0 ⊢
      clear hV
      cases hr : inB row 0 7
      · go_wp2_with (go_at_call 25; refine (iswP_impl _ _ _ _).mono ?_; rintro e w' ⟨rfl, hww⟩; obtain rfl := hww.symm; rw [hr])
        refine (hpf.out _).mono ?_
        rintro e w1 ⟨rfl, hb⟩
        have h1 := hid (hs.out.below hb)
        have y1 := h1.out.q1.cell
        have g1 := h1.out.q1.frozen
        have l1 := h1.out.q1.lt
        clear hb hs x0
        go_wp2
        refine bodyPost_ret (v := ans2 (zeP, 4)) (by simp [results, Try.results10, go_sem, y1]) rfl ⟨rfl, ?_⟩
        repeat refine Below.setCell ?_ (by first | omega | (simp; done) | (simp; omega)) _
        exact h1.out.bel
      · rw [hr, Bool.true_and] at hrk
        go_wp2_with (go_at_call 25; refine (iswP_impl _ _ _ _).mono ?_; rintro e w' ⟨rfl, hww⟩; obtain rfl := hww.symm; first | rw [hr] | rw [hrk])
        refine (hpf.out _).mono ?_
        rintro e w1 ⟨rfl, hb⟩
        have h1 := hid (hs.out.below hb)
        have y1 := h1.out.q1.cell
        have g1 := h1.out.q1.frozen
        have l1 := h1.out.q1.lt
        clear hb hs x0
        go_wp2
        refine bodyPost_ret (v := ans2 (zeP, 4)) (by simp [results, Try.results10, go_sem, y1]) rfl ⟨rfl, ?_⟩
        repeat refine Below.setCell ?_ (by first | omega | (simp; done) | (simp; omega)) _
        exact h1.out.bel
    · rw [hrk, e1, if_pos rfl] at hpf
      clear e1
      rw [Bool.and_eq_true] at hrk
      obtain ⟨hr, hk⟩ := hrk
      obtain ⟨r, rfl, hr8⟩ : ∃ n : Nat, row = n ∧ n < 8 := by simp [inB] at hr; exact ⟨row.toNat, by omega, by omega⟩
      obtain ⟨k, rfl, hk5⟩ : ∃ n : Nat, key = n ∧ n < 5 := by simp [inB] at hk; exact ⟨key.toNat, by omega, by omega⟩
      obtain ⟨x, hx, hx32⟩ := okP_key hc r hr8
      have e : press2 c (r : Int) (k : Int) down = (c.put (keyN x k down : Nat) r, 0) := by unfold press2; rw [hc, hr, hk]; simp only [Bool.and_self, if_true, Int.toNat_natCast]; rw [hx, Int.toNat_natCast]
      rw [e]
      clear e
      have hat := poA_at c r hr8
      rw [hx] at hat
      have hput := hid (fun v : Nat => poA_put c r (v : Int) hr8)
      have hpat := hid (fun v : Nat => poA_put_at c r (v : Int) hr8)
      have hpp := hid (fun u v : Nat => put_put c r (u : Int) (v : Int) hr8)
      have hUl := upN_lt x hx32 k hk5
      have hU : Hid (∀ y : Nat, y < 32 → bits .or .i64 (y : Int) ((Nat.pow 2 k : Nat) : Int) = (upN y k : Nat)) := fun y hy => bOr y (Nat.pow 2 k) (by omega) (by rcases (by omega : k = 0 ∨ k = 1 ∨ k = 2 ∨ k = 3 ∨ k = 4) with rfl | rfl | rfl | rfl | rfl <;> decide)
      rcases (by omega : k = 0 ∨ k = 1 ∨ k = 2 ∨ k = 3 ∨ k = 4) with rfl | rfl | rfl | rfl | rfl
      · have rU : bits .or .i64 (x : Int) 1 = (upN x 0 : Nat) := hU.out x hx32
        have rD : bits .andNot .i64 (x : Int) 1 = (dnN x 0 : Nat) := (dn_0 x hx32).1
        have rE : bits .andNot .i64 ((upN x 0 : Nat) : Int) 1 = (dnN x 0 : Nat) := by rw [(dn_0 _ hUl).1, (dn_0 x hx32).2]
        have eF : keyN x 0 false = upN x 0 := rfl
        have eT : keyN x 0 true = dnN x 0 := rfl
        generalize upN x 0 = U at *
        generalize dnN x 0 = D at *
        replace eF := hid eF
        replace eT := hid eT
        clear hU hx rE
        cases down
        · rw [eF.out]
          clear eF eT
          go_enter Try.func10, Try.ntmps10
          go_upto_region 1 with fail
          obtain ⟨V, hV⟩ : ∃ V, (w.alloc (.cells (poA c) 26)).alloc (.cells (poA zeP) 26) = V := ⟨_, rfl⟩
          rw [hV] at hs x0 ⊢
          clear hV
          go_wp2_with (go_at_call 25; refine (iswP_impl _ _ _ _).mono ?_; rintro e w' ⟨rfl, hww⟩; obtain rfl := hww.symm; first | rw [hr] | rw [show inB 0 0 4 = true by decide])
          refine (hpf.out _).mono ?_
          rintro e w1 ⟨rfl, hb⟩
          have h1 := hid (hs.out.below hb)
          have y0 := h1.out.q0.cell r
          rw [hat] at y0
          have g0 := h1.out.q0.frozen r
          have h2 := h1.out.set r (.int .i64 (U : Int))
          rw [hput.out U] at h2
          replace h2 := hid h2
          clear hb hs x0 h1 hat
          go_wp2
          go_region
          have h3 := hid h2.out.drew
          obtain ⟨W1, hW1⟩ : ∃ W1, (w1.setCell ⟨w.heap.size, r, none⟩ (.int .i64 (U : Int))).drew = W1 := ⟨_, rfl⟩
          rw [hW1] at h3 ⊢
          clear hW1 h2 y0 g0
          obtain ⟨C, hC⟩ : ∃ C, c.put (U : Int) r = C := ⟨_, rfl⟩
          rw [hC] at h3
          replace hC := hid hC
          have z0 := h3.out.q0.cell
          have y1 := h3.out.q1.cell
          have g1 := h3.out.q1.frozen
          have l1 := h3.out.q1.lt
          go_wp2
          refine bodyPost_ret (v := ans2 (C, 0)) (by simp [results, Try.results10, go_sem, y1]) rfl ⟨by rw [hC.out], ?_⟩
          repeat refine Below.setCell ?_ (by first | omega | (simp; done) | (simp; omega)) _
          exact h3.out.bel
        · rw [eT.out]
          clear eF eT
          go_enter Try.func10, Try.ntmps10
          go_upto_region 1 with fail
          obtain ⟨V, hV⟩ : ∃ V, (w.alloc (.cells (poA c) 26)).alloc (.cells (poA zeP) 26) = V := ⟨_, rfl⟩
          rw [hV] at hs x0 ⊢
          clear hV
          go_wp2_with (go_at_call 25; refine (iswP_impl _ _ _ _).mono ?_; rintro e w' ⟨rfl, hww⟩; obtain rfl := hww.symm; first | rw [hr] | rw [show inB 0 0 4 = true by decide])
          refine (hpf.out _).mono ?_
          rintro e w1 ⟨rfl, hb⟩
          have h1 := hid (hs.out.below hb)
          have y0 := h1.out.q0.cell r
          rw [hat] at y0
          have g0 := h1.out.q0.frozen r
          have h2 := h1.out.set r (.int .i64 (D : Int))
          rw [hput.out D] at h2
          replace h2 := hid h2
          clear hb hs x0 h1 hat
          go_wp2
          go_region
          have h3 := hid h2.out.drew
          obtain ⟨W1, hW1⟩ : ∃ W1, (w1.setCell ⟨w.heap.size, r, none⟩ (.int .i64 (D : Int))).drew = W1 := ⟨_, rfl⟩
          rw [hW1] at h3 ⊢
          clear hW1 h2 y0 g0
          obtain ⟨C, hC⟩ : ∃ C, c.put (D : Int) r = C := ⟨_, rfl⟩
          rw [hC] at h3
          replace hC := hid hC
          have z0 := h3.out.q0.cell
          have y1 := h3.out.q1.cell
          have g1 := h3.out.q1.frozen
          have l1 := h3.out.q1.lt
          go_wp2
          refine bodyPost_ret (v := ans2 (C, 0)) (by simp [results, Try.results10, go_sem, y1]) rfl ⟨by rw [hC.out], ?_⟩
          repeat refine Below.setCell ?_ (by first | omega | (simp; done) | (simp; omega)) _
          exact h3.out.bel
      · have rU : bits .or .i64 (x : Int) 2 = (upN x 1 : Nat) := hU.out x hx32
        have rD : bits .andNot .i64 (x : Int) 2 = (dnN x 1 : Nat) := (dn_1 x hx32).1
        have rE : bits .andNot .i64 ((upN x 1 : Nat) : Int) 2 = (dnN x 1 : Nat) := by rw [(dn_1 _ hUl).1, (dn_1 x hx32).2]
        have eF : keyN x 1 false = upN x 1 := rfl
        have eT : keyN x 1 true = dnN x 1 := rfl
        generalize upN x 1 = U at *
        generalize dnN x 1 = D at *
        replace eF := hid eF
        replace eT := hid eT
        clear hU hx rE
        cases down
        · rw [eF.out]
          clear eF eT
          go_enter Try.func10, Try.ntmps10
          go_upto_region 1 with fail
          obtain ⟨V, hV⟩ : ∃ V, (w.alloc (.cells (poA c) 26)).alloc (.cells (poA zeP) 26) = V := ⟨_, rfl⟩
          rw [hV] at hs x0 ⊢
          clear hV
          go_wp2_with (go_at_call 25; refine (iswP_impl _ _ _ _).mono ?_; rintro e w' ⟨rfl, hww⟩; obtain rfl := hww.symm; first | rw [hr] | rw [show inB 1 0 4 = true by decide])
          refine (hpf.out _).mono ?_
          rintro e w1 ⟨rfl, hb⟩
          have h1 := hid (hs.out.below hb)
          have y0 := h1.out.q0.cell r
          rw [hat] at y0
          have g0 := h1.out.q0.frozen r
          have h2 := h1.out.set r (.int .i64 (U : Int))
          rw [hput.out U] at h2
          replace h2 := hid h2
          clear hb hs x0 h1 hat
          go_wp2
          go_region
          have h3 := hid h2.out.drew
          obtain ⟨W1, hW1⟩ : ∃ W1, (w1.setCell ⟨w.heap.size, r, none⟩ (.int .i64 (U : Int))).drew = W1 := ⟨_, rfl⟩
          rw [hW1] at h3 ⊢
          clear hW1 h2 y0 g0
          obtain ⟨C, hC⟩ : ∃ C, c.put (U : Int) r = C := ⟨_, rfl⟩
          rw [hC] at h3
          replace hC := hid hC
          have z0 := h3.out.q0.cell
          have y1 := h3.out.q1.cell
          have g1 := h3.out.q1.frozen
          have l1 := h3.out.q1.lt
          go_wp2
          refine bodyPost_ret (v := ans2 (C, 0)) (by simp [results, Try.results10, go_sem, y1]) rfl ⟨by rw [hC.out], ?_⟩
          repeat refine Below.setCell ?_ (by first | omega | (simp; done) | (simp; omega)) _
          exact h3.out.bel
        · rw [eT.out]
          clear eF eT
          go_enter Try.func10, Try.ntmps10
          go_upto_region 1 with fail
          obtain ⟨V, hV⟩ : ∃ V, (w.alloc (.cells (poA c) 26)).alloc (.cells (poA zeP) 26) = V := ⟨_, rfl⟩
          rw [hV] at hs x0 ⊢
          clear hV
          go_wp2_with (go_at_call 25; refine (iswP_impl _ _ _ _).mono ?_; rintro e w' ⟨rfl, hww⟩; obtain rfl := hww.symm; first | rw [hr] | rw [show inB 1 0 4 = true by decide])
          refine (hpf.out _).mono ?_
          rintro e w1 ⟨rfl, hb⟩
          have h1 := hid (hs.out.below hb)
          have y0 := h1.out.q0.cell r
          rw [hat] at y0
          have g0 := h1.out.q0.frozen r
          have h2 := h1.out.set r (.int .i64 (D : Int))
          rw [hput.out D] at h2
          replace h2 := hid h2
          clear hb hs x0 h1 hat
          go_wp2
          go_region
          have h3 := hid h2.out.drew
          obtain ⟨W1, hW1⟩ : ∃ W1, (w1.setCell ⟨w.heap.size, r, none⟩ (.int .i64 (D : Int))).drew = W1 := ⟨_, rfl⟩
          rw [hW1] at h3 ⊢
          clear hW1 h2 y0 g0
          obtain ⟨C, hC⟩ : ∃ C, c.put (D : Int) r = C := ⟨_, rfl⟩
          rw [hC] at h3
          replace hC := hid hC
          have z0 := h3.out.q0.cell
          have y1 := h3.out.q1.cell
          have g1 := h3.out.q1.frozen
          have l1 := h3.out.q1.lt
          go_wp2
          refine bodyPost_ret (v := ans2 (C, 0)) (by simp [results, Try.results10, go_sem, y1]) rfl ⟨by rw [hC.out], ?_⟩
          repeat refine Below.setCell ?_ (by first | omega | (simp; done) | (simp; omega)) _
          exact h3.out.bel
      · have rU : bits .or .i64 (x : Int) 4 = (upN x 2 : Nat) := hU.out x hx32
        have rD : bits .andNot .i64 (x : Int) 4 = (dnN x 2 : Nat) := (dn_2 x hx32).1
        have rE : bits .andNot .i64 ((upN x 2 : Nat) : Int) 4 = (dnN x 2 : Nat) := by rw [(dn_2 _ hUl).1, (dn_2 x hx32).2]
        have eF : keyN x 2 false = upN x 2 := rfl
        have eT : keyN x 2 true = dnN x 2 := rfl
        generalize upN x 2 = U at *
        generalize dnN x 2 = D at *
        replace eF := hid eF
        replace eT := hid eT
        clear hU hx rE
        cases down
        · rw [eF.out]
          clear eF eT
          go_enter Try.func10, Try.ntmps10
          go_upto_region 1 with fail
          obtain ⟨V, hV⟩ : ∃ V, (w.alloc (.cells (poA c) 26)).alloc (.cells (poA zeP) 26) = V := ⟨_, rfl⟩
          rw [hV] at hs x0 ⊢
          clear hV
          go_wp2_with (go_at_call 25; refine (iswP_impl _ _ _ _).mono ?_; rintro e w' ⟨rfl, hww⟩; obtain rfl := hww.symm; first | rw [hr] | rw [show inB 2 0 4 = true by decide])
          refine (hpf.out _).mono ?_
          rintro e w1 ⟨rfl, hb⟩
          have h1 := hid (hs.out.below hb)
          have y0 := h1.out.q0.cell r
          rw [hat] at y0
          have g0 := h1.out.q0.frozen r
          have h2 := h1.out.set r (.int .i64 (U : Int))
          rw [hput.out U] at h2
          replace h2 := hid h2
          clear hb hs x0 h1 hat
          go_wp2
          go_region
          have h3 := hid h2.out.drew
          obtain ⟨W1, hW1⟩ : ∃ W1, (w1.setCell ⟨w.heap.size, r, none⟩ (.int .i64 (U : Int))).drew = W1 := ⟨_, rfl⟩
          rw [hW1] at h3 ⊢
          clear hW1 h2 y0 g0
          obtain ⟨C, hC⟩ : ∃ C, c.put (U : Int) r = C := ⟨_, rfl⟩
          rw [hC] at h3
          replace hC := hid hC
          have z0 := h3.out.q0.cell
          have y1 := h3.out.q1.cell
          have g1 := h3.out.q1.frozen
          have l1 := h3.out.q1.lt
          go_wp2
          refine bodyPost_ret (v := ans2 (C, 0)) (by simp [results, Try.results10, go_sem, y1]) rfl ⟨by rw [hC.out], ?_⟩
          repeat refine Below.setCell ?_ (by first | omega | (simp; done) | (simp; omega)) _
          exact h3.out.bel
        · rw [eT.out]
          clear eF eT
          go_enter Try.func10, Try.ntmps10
          go_upto_region 1 with fail
          obtain ⟨V, hV⟩ : ∃ V, (w.alloc (.cells (poA c) 26)).alloc (.cells (poA zeP) 26) = V := ⟨_, rfl⟩
          rw [hV] at hs x0 ⊢
          clear hV
          go_wp2_with (go_at_call 25; refine (iswP_impl _ _ _ _).mono ?_; rintro e w' ⟨rfl, hww⟩; obtain rfl := hww.symm; first | rw [hr] | rw [show inB 2 0 4 = true by decide])
          refine (hpf.out _).mono ?_
          rintro e w1 ⟨rfl, hb⟩
          have h1 := hid (hs.out.below hb)
          have y0 := h1.out.q0.cell r
          rw [hat] at y0
          have g0 := h1.out.q0.frozen r
          have h2 := h1.out.set r (.int .i64 (D : Int))
          rw [hput.out D] at h2
          replace h2 := hid h2
          clear hb hs x0 h1 hat
          go_wp2
          go_region
          have h3 := hid h2.out.drew
          obtain ⟨W1, hW1⟩ : ∃ W1, (w1.setCell ⟨w.heap.size, r, none⟩ (.int .i64 (D : Int))).drew = W1 := ⟨_, rfl⟩
          rw [hW1] at h3 ⊢
          clear hW1 h2 y0 g0
          obtain ⟨C, hC⟩ : ∃ C, c.put (D : Int) r = C := ⟨_, rfl⟩
          rw [hC] at h3
          replace hC := hid hC
          have z0 := h3.out.q0.cell
          have y1 := h3.out.q1.cell
          have g1 := h3.out.q1.frozen
          have l1 := h3.out.q1.lt
          go_wp2
          refine bodyPost_ret (v := ans2 (C, 0)) (by simp [results, Try.results10, go_sem, y1]) rfl ⟨by rw [hC.out], ?_⟩
          repeat refine Below.setCell ?_ (by first | omega | (simp; done) | (simp; omega)) _
          exact h3.out.bel
      · have rU : bits .or .i64 (x : Int) 8 = (upN x 3 : Nat) := hU.out x hx32
        have rD : bits .andNot .i64 (x : Int) 8 = (dnN x 3 : Nat) := (dn_3 x hx32).1
        have rE : bits .andNot .i64 ((upN x 3 : Nat) : Int) 8 = (dnN x 3 : Nat) := by rw [(dn_3 _ hUl).1, (dn_3 x hx32).2]
        have eF : keyN x 3 false = upN x 3 := rfl
        have eT : keyN x 3 true = dnN x 3 := rfl
        generalize upN x 3 = U at *
        generalize dnN x 3 = D at *
        replace eF := hid eF
        replace eT := hid eT
        clear hU hx rE
        cases down
        · rw [eF.out]
          clear eF eT
          go_enter Try.func10, Try.ntmps10
          go_upto_region 1 with fail
          obtain ⟨V, hV⟩ : ∃ V, (w.alloc (.cells (poA c) 26)).alloc (.cells (poA zeP) 26) = V := ⟨_, rfl⟩
          rw [hV] at hs x0 ⊢
          clear hV
          go_wp2_with (go_at_call 25; refine (iswP_impl _ _ _ _).mono ?_; rintro e w' ⟨rfl, hww⟩; obtain rfl := hww.symm; first | rw [hr] | rw [show inB 3 0 4 = true by decide])
          refine (hpf.out _).mono ?_
          rintro e w1 ⟨rfl, hb⟩
          have h1 := hid (hs.out.below hb)
          have y0 := h1.out.q0.cell r
          rw [hat] at y0
          have g0 := h1.out.q0.frozen r
          have h2 := h1.out.set r (.int .i64 (U : Int))
          rw [hput.out U] at h2
          replace h2 := hid h2
          clear hb hs x0 h1 hat
          go_wp2
          go_region
          have h3 := hid h2.out.drew
          obtain ⟨W1, hW1⟩ : ∃ W1, (w1.setCell ⟨w.heap.size, r, none⟩ (.int .i64 (U : Int))).drew = W1 := ⟨_, rfl⟩
          rw [hW1] at h3 ⊢
          clear hW1 h2 y0 g0
          obtain ⟨C, hC⟩ : ∃ C, c.put (U : Int) r = C := ⟨_, rfl⟩
          rw [hC] at h3
          replace hC := hid hC
          have z0 := h3.out.q0.cell
          have y1 := h3.out.q1.cell
          have g1 := h3.out.q1.frozen
          have l1 := h3.out.q1.lt
          go_wp2
          refine bodyPost_ret (v := ans2 (C, 0)) (by simp [results, Try.results10, go_sem, y1]) rfl ⟨by rw [hC.out], ?_⟩
          repeat refine Below.setCell ?_ (by first | omega | (simp; done) | (simp; omega)) _
          exact h3.out.bel
        · rw [eT.out]
          clear eF eT
          go_enter Try.func10, Try.ntmps10
          go_upto_region 1 with fail
          obtain ⟨V, hV⟩ : ∃ V, (w.alloc (.cells (poA c) 26)).alloc (.cells (poA zeP) 26) = V := ⟨_, rfl⟩
          rw [hV] at hs x0 ⊢
          clear hV
          go_wp2_with (go_at_call 25; refine (iswP_impl _ _ _ _).mono ?_; rintro e w' ⟨rfl, hww⟩; obtain rfl := hww.symm; first | rw [hr] | rw [show inB 3 0 4 = true by decide])
          refine (hpf.out _).mono ?_
          rintro e w1 ⟨rfl, hb⟩
          have h1 := hid (hs.out.below hb)
          have y0 := h1.out.q0.cell r
          rw [hat] at y0
          have g0 := h1.out.q0.frozen r
          have h2 := h1.out.set r (.int .i64 (D : Int))
          rw [hput.out D] at h2
          replace h2 := hid h2
          clear hb hs x0 h1 hat
          go_wp2
          go_region
          have h3 := hid h2.out.drew
          obtain ⟨W1, hW1⟩ : ∃ W1, (w1.setCell ⟨w.heap.size, r, none⟩ (.int .i64 (D : Int))).drew = W1 := ⟨_, rfl⟩
          rw [hW1] at h3 ⊢
          clear hW1 h2 y0 g0
          obtain ⟨C, hC⟩ : ∃ C, c.put (D : Int) r = C := ⟨_, rfl⟩
          rw [hC] at h3
          replace hC := hid hC
          have z0 := h3.out.q0.cell
          have y1 := h3.out.q1.cell
          have g1 := h3.out.q1.frozen
          have l1 := h3.out.q1.lt
          go_wp2
          refine bodyPost_ret (v := ans2 (C, 0)) (by simp [results, Try.results10, go_sem, y1]) rfl ⟨by rw [hC.out], ?_⟩
          repeat refine Below.setCell ?_ (by first | omega | (simp; done) | (simp; omega)) _
          exact h3.out.bel
      · have rU : bits .or .i64 (x : Int) 16 = (upN x 4 : Nat) := hU.out x hx32
        have rD : bits .andNot .i64 (x : Int) 16 = (dnN x 4 : Nat) := (dn_4 x hx32).1
        have rE : bits .andNot .i64 ((upN x 4 : Nat) : Int) 16 = (dnN x 4 : Nat) := by rw [(dn_4 _ hUl).1, (dn_4 x hx32).2]
        have eF : keyN x 4 false = upN x 4 := rfl
        have eT : keyN x 4 true = dnN x 4 := rfl
        generalize upN x 4 = U at *
        generalize dnN x 4 = D at *
        replace eF := hid eF
        replace eT := hid eT
        clear hU hx rE
        cases down
        · rw [eF.out]
          clear eF eT
          go_enter Try.func10, Try.ntmps10
          go_upto_region 1 with fail
          obtain ⟨V, hV⟩ : ∃ V, (w.alloc (.cells (poA c) 26)).alloc (.cells (poA zeP) 26) = V := ⟨_, rfl⟩
          rw [hV] at hs x0 ⊢
          clear hV
          go_wp2_with (go_at_call 25; refine (iswP_impl _ _ _ _).mono ?_; rintro e w' ⟨rfl, hww⟩; obtain rfl := hww.symm; first | rw [hr] | rw [show inB 4 0 4 = true by decide])
          refine (hpf.out _).mono ?_
          rintro e w1 ⟨rfl, hb⟩
          have h1 := hid (hs.out.below hb)
          have y0 := h1.out.q0.cell r
          rw [hat] at y0
          have g0 := h1.out.q0.frozen r
          have h2 := h1.out.set r (.int .i64 (U : Int))
          rw [hput.out U] at h2
          replace h2 := hid h2
          clear hb hs x0 h1 hat
          go_wp2
          go_region
          have h3 := hid h2.out.drew
          obtain ⟨W1, hW1⟩ : ∃ W1, (w1.setCell ⟨w.heap.size, r, none⟩ (.int .i64 (U : Int))).drew = W1 := ⟨_, rfl⟩
          rw [hW1] at h3 ⊢
          clear hW1 h2 y0 g0
          obtain ⟨C, hC⟩ : ∃ C, c.put (U : Int) r = C := ⟨_, rfl⟩
          rw [hC] at h3
          replace hC := hid hC
          have z0 := h3.out.q0.cell
          have y1 := h3.out.q1.cell
          have g1 := h3.out.q1.frozen
          have l1 := h3.out.q1.lt
          go_wp2
          refine bodyPost_ret (v := ans2 (C, 0)) (by simp [results, Try.results10, go_sem, y1]) rfl ⟨by rw [hC.out], ?_⟩
          repeat refine Below.setCell ?_ (by first | omega | (simp; done) | (simp; omega)) _
          exact h3.out.bel
        · rw [eT.out]
          clear eF eT
          go_enter Try.func10, Try.ntmps10
          go_upto_region 1 with fail
          obtain ⟨V, hV⟩ : ∃ V, (w.alloc (.cells (poA c) 26)).alloc (.cells (poA zeP) 26) = V := ⟨_, rfl⟩
          rw [hV] at hs x0 ⊢
          clear hV
          go_wp2_with (go_at_call 25; refine (iswP_impl _ _ _ _).mono ?_; rintro e w' ⟨rfl, hww⟩; obtain rfl := hww.symm; first | rw [hr] | rw [show inB 4 0 4 = true by decide])
          refine (hpf.out _).mono ?_
          rintro e w1 ⟨rfl, hb⟩
          have h1 := hid (hs.out.below hb)
          have y0 := h1.out.q0.cell r
          rw [hat] at y0
          have g0 := h1.out.q0.frozen r
          have h2 := h1.out.set r (.int .i64 (D : Int))
          rw [hput.out D] at h2
          replace h2 := hid h2
          clear hb hs x0 h1 hat
          go_wp2
          go_region
          have h3 := hid h2.out.drew
          obtain ⟨W1, hW1⟩ : ∃ W1, (w1.setCell ⟨w.heap.size, r, none⟩ (.int .i64 (D : Int))).drew = W1 := ⟨_, rfl⟩
          rw [hW1] at h3 ⊢
          clear hW1 h2 y0 g0
          obtain ⟨C, hC⟩ : ∃ C, c.put (D : Int) r = C := ⟨_, rfl⟩
          rw [hC] at h3
          replace hC := hid hC
          have z0 := h3.out.q0.cell
          have y1 := h3.out.q1.cell
          have g1 := h3.out.q1.frozen
          have l1 := h3.out.q1.lt
          go_wp2
          refine bodyPost_ret (v := ans2 (C, 0)) (by simp [results, Try.results10, go_sem, y1]) rfl ⟨by rw [hC.out], ?_⟩
          repeat refine Below.setCell ?_ (by first | omega | (simp; done) | (simp; omega)) _
          exact h3.out.bel
end Go.Proofs.Ytdfadiicjkenfaa
