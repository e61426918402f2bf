/- Which port is wanted: what the program answers. -/
import Derived.Test.YtihpbiehdojllanDoorHs
namespace Go.Proofs.YtihpbiehdojllanDoor
open Go.ChangeShapes Go.WideShapes Go.ChangeAt Go.RowKit
set_option linter.unusedVariables false
set_option linter.unusedSimpArgs false

theorem aroundP_impl (v : Int) (r : Nat) (h : bits .and .i64 v 255 = (r : Int)) (w : World) : Calls Tryd.prog 24 #[.int .i64 v] w fun e w' => e = .returned (.int .i64 (r : Int)) ∧ w' = w := by
  go_enter Tryd.func24, Tryd.ntmps24
  go_wp2
  go_ret
  exact ⟨rfl, rfl⟩
theorem readP_impl (w : World) (lo hi B r s : Nat) (G Q : Nat → Nat) (M : Mem) (a : Nat) (h : Brd w lo hi B r s G Q M) (hk : okM M = true) (ha : a < 256) :
    Calls Tryd.prog 23 #[.pointer (some ⟨B, 0, none⟩), .int .i64 (a : Int)] w fun e w' => e = .returned (.int .i64 (peekN M a : Int)) ∧ w' = w := by
  have := read_impl w lo hi B r s G Q M (a : Int) h hk (by omega) (by omega)
  rw [(peek_byte hk ha).1] at this
  exact this
theorem cfM_nil (c : Cu) (M : Mem) : (okC c = true ∧ okM M = true ∧ cfM c M [] = 0) ∨ (cfM c M [] = 1 ∧ ∀ x y, pw3 c M = (if okC c = true then (if okM M = true then x else y) else y) → True) := by
  unfold cfM faultM
  cases okC c
  · exact .inr ⟨rfl, fun _ _ _ => trivial⟩
  · cases okM M
    · exact .inr ⟨rfl, fun _ _ _ => trivial⟩
    · exact .inl ⟨rfl, rfl, rfl⟩
theorem pw_bad {c : Cu} {M : Mem} (h : cfM c M [] = 1) : pw3 c M = .tuple #[.int .i64 0, .bool false, .int .i64 1] := by
  unfold cfM faultM at h
  unfold pw3
  cases h1 : okC c
  · rfl
  · cases h2 : okM M
    · rfl
    · rw [h1, h2] at h
      exact absurd h (by decide)
def st5 (W : World) (b : Nat) (a0 a1 a2 a3 a4 : Value) : World := ((((W.setCell ⟨b, 0, none⟩ a0).setCell ⟨b, 1, none⟩ a1).setCell ⟨b, 2, none⟩ a2).setCell ⟨b, 3, none⟩ a3).setCell ⟨b, 4, none⟩ a4
theorem st5_blk {W : World} {b : Nat} {z0 z1 z2 z3 z4 : Value} (h : Blk W b #[z0, z1, z2, z3, z4]) (a0 a1 a2 a3 a4 : Value) : Blk (st5 W b a0 a1 a2 a3 a4) b #[a0, a1, a2, a3, a4] :=
  ((((h.set 0 a0).set 1 a1).set 2 a2).set 3 a3).set 4 a4
theorem st5_other {W : World} {b k : Nat} {A : Array Value} (h : Blk W k A) (hne : k ≠ b) (a0 a1 a2 a3 a4 : Value) : Blk (st5 W b a0 a1 a2 a3 a4) k A :=
  ((((h.other (p := ⟨b, 0, none⟩) hne a0).other (p := ⟨b, 1, none⟩) hne a1).other (p := ⟨b, 2, none⟩) hne a2).other (p := ⟨b, 3, none⟩) hne a3).other (p := ⟨b, 4, none⟩) hne a4
theorem st5_below {w W : World} {n b : Nat} (h : Below n w W) (hb : n ≤ b) (a0 a1 a2 a3 a4 : Value) : Below n w (st5 W b a0 a1 a2 a3 a4) :=
  ((((h.setCell (p := ⟨b, 0, none⟩) hb a0).setCell (p := ⟨b, 1, none⟩) hb a1).setCell (p := ⟨b, 2, none⟩) hb a2).setCell (p := ⟨b, 3, none⟩) hb a3).setCell (p := ⟨b, 4, none⟩) hb a4
set_option maxRecDepth 100000 in
set_option maxHeartbeats 4000000 in
theorem pw_impl (c : Cu) (v : Value) (M : Mem) (w : World) (h : MemR w v M) (hf : Fit M) (hK : Kinds w) :
    Calls Tryd.prog 9 #[cuV c, v] w fun e w' => e = .returned (pw3 c M) ∧ Below w.heap.size w w' := by
  obtain ⟨a1, p1, a2, p2, rfl, _, _⟩ := h.form
  have hs := hid (two_newC w (cuA c) #[.slice a1 M.rom.length p1, .slice a2 M.ram.length p2, .int .i64 M.page, .int .i64 M.screen, .bool M.locked] 32 34)
  have x0 := hs.out.1.cell
  have x1 := hs.out.2.1.cell
  have hask : Hid (∀ W', Below w.heap.size w W' → Calls Tryd.prog 20 #[cuV c, memV (.slice a1 M.rom.length p1) (.slice a2 M.ram.length p2) M.page M.screen M.locked, .slice none 0 0] W' fun e w' => e = .returned (.int .i64 (cfM c M [])) ∧ Below W'.heap.size W' w') := fun W' hb => cfault_impl c _ M none 0 [] W' (h.below hb) hf (RowR.nil W') (by simp)
  rcases cfM_nil c M with ⟨h1, h2, h3⟩ | ⟨h3, _⟩
  rotate_left
  · rw [pw_bad h3]
    rw [h3] at hask
    clear h hf h3 hK
    go_enter Tryd.func9, Tryd.ntmps9
    go_upto_region 1 with fail
    obtain ⟨V, hV⟩ : ∃ V, ((w.alloc (.cells (cuA c) 32)).alloc (.cells #[.slice a1 M.rom.length p1, .slice a2 M.ram.length p2, .int .i64 M.page, .int .i64 M.screen, .bool M.locked] 34)) = V := ⟨_, rfl⟩
    rw [hV] at hs x0 x1 ⊢
    clear hV
    go_wp2_with fail
    refine (hask.out _ hs.out.2.2).mono ?_
    rintro e w1 ⟨rfl, hb⟩
    have hb1 := hid (new_trans hs.out.2.2 hb)
    clear hb hs x0 x1
    go_wp2
    go_ret3
    exact ⟨rfl, hb1.out⟩
  · rw [h3] at hask
    obtain ⟨o, a, b, m, l, hd, ho, hm⟩ : ∃ o a b m l, dcdV (peekN M c.cp.pc) (peekN M ((c.cp.pc + 1) % 256)) = insV o a b m l ∧ pwO c.cp M = o ∧ pwN c.cp M = m := ⟨_, _, _, _, _, rfl, rfl, rfl⟩
    have e : pw3 c M = if c.halt = true then .tuple #[.int .i64 0, .bool false, .int .i64 0] else if o = 17 then .tuple #[.int .i64 m, .bool true, .int .i64 0] else .tuple #[.int .i64 0, .bool false, .int .i64 0] := by unfold pw3; rw [if_pos h1, if_pos h2, ho, hm]
    have hpc := (okC_cp h1).2.2.2.2.2.2.2.2.2.2
    have hce := (okC_cp h1).1
    have hs1 : (c.cp.pc + 1) % 256 < 256 := Nat.mod_lt _ (by omega)
    have hbr : Hid (∀ W', Below w.heap.size w W' → Calls _ _ _ W' _) := fun W' hb => board_impl _ M W' (h.below hb) h2 hf
    have r1 : bits .and .i64 ((c.cp.pc : Int) + 1) 255 = (((c.cp.pc + 1) % 256 : Nat) : Int) := and255 (c.cp.pc + 1) (by omega)
    have wr1 : IntKind.i64.wrap ((c.cp.pc : Int) + 1) = (c.cp.pc : Int) + 1 := by rw [IntKind.wrap_i64]; omega
    have har := hid (fun w => aroundP_impl ((c.cp.pc : Int) + 1) ((c.cp.pc + 1) % 256) r1 w)
    have hrd : Hid (∀ (a : Nat) (ha : a < 256) w lo hi B r s G Q, Brd w lo hi B r s G Q M → Calls Tryd.prog 23 #[.pointer (some ⟨B, 0, none⟩), .int .i64 (a : Int)] w fun e w' => e = .returned (.int .i64 (peekN M a : Int)) ∧ w' = w) := fun a ha w lo hi B r s G Q hB => readP_impl w lo hi B r s G Q M a hB h2 ha
    have rd1 := hid (hrd.out c.cp.pc hpc)
    have rd2 := hid (hrd.out ((c.cp.pc + 1) % 256) hs1)
    have hde : Hid (∀ W', Below w.heap.size w W' → Calls _ _ _ W' _) := fun W' hb => dec0_impl (peekN M c.cp.pc) (peekN M ((c.cp.pc + 1) % 256)) W' (hK.below hb) (peek_byte h2 hpc).2 (peek_byte h2 hs1).2
    rw [hd] at hde
    have hcu : cuA c = cpA c.cp := by
      have := hce
      simp only [cuV, cpV, Value.agg.injEq] at this
      exact this
    have hhalt : c.cp.halt = c.halt := rfl
    rw [e]
    have hce2 : cuV c = cpV c.cp := hce
    rw [hce2] at hask ⊢
    rw [hcu] at hs x0 x1
    rw [← hhalt]
    clear e hd ho hm h1 h2 h3 h hf hK hrd hce hce2 hcu hhalt r1
    generalize c.cp = d at *
    generalize peekN M d.pc = first at *
    generalize peekN M ((d.pc + 1) % 256) = second at *
    generalize (d.pc + 1) % 256 = s1 at *
    have main : ∀ (hh : Bool) (h17 : Bool) (R : Value), d.halt = hh → (o == 17) = h17 → R = (if hh = true then .tuple #[.int .i64 0, .bool false, .int .i64 0] else if h17 = true then .tuple #[.int .i64 m, .bool true, .int .i64 0] else .tuple #[.int .i64 0, .bool false, .int .i64 0]) → Calls Tryd.prog 9 #[cpV d, memV (.slice a1 M.rom.length p1) (.slice a2 M.ram.length p2) M.page M.screen M.locked] w fun e w' => e = .returned R ∧ Below w.heap.size w w' := by
      intro hh h17 R e1 e2 hR
      replace e1 := hid e1
      have e3 : (o != 17) = !h17 := by rw [← e2]; rfl
      replace hR := hid hR
      go_enter Tryd.func9, Tryd.ntmps9
      go_upto_region 1 with fail
      obtain ⟨V, hV⟩ : ∃ V, ((w.alloc (.cells (cpA d) 32)).alloc (.cells #[.slice a1 M.rom.length p1, .slice a2 M.ram.length p2, .int .i64 M.page, .int .i64 M.screen, .bool M.locked] 34)) = V := ⟨_, rfl⟩
      rw [hV] at hs x0 x1 ⊢
      clear hV
      go_wp2_with fail
      refine (hask.out _ hs.out.2.2).mono ?_
      rintro e w1 ⟨rfl, hb⟩
      have hb1 := hid (new_trans hs.out.2.2 hb)
      have q0 := hid (hs.out.1.below hb hs.out.1.lt)
      have q1 := hid (hs.out.2.1.below hb hs.out.2.1.lt)
      have y0 := q0.out.cell
      have y1 := q1.out.cell
      clear hb hs x0 x1 hask
      go_wp2_with fail
      refine (hbr.out _ hb1.out).mono ?_
      rintro e w2 ⟨hi, B, r, s, G, Q, rfl, hBr, hb⟩
      have hb2 := hid (new_trans hb1.out hb)
      have q2 := hid (q0.out.below hb q0.out.lt)
      have z0 := q2.out.cell
      have l0 := q2.out.lt
      have hBr2 : Hid (∀ W', Below w2.heap.size w2 W' → Brd W' w1.heap.size hi B r s G Q M) := fun W' hb' => by
        have hhi : hi ≤ w2.heap.size := Nat.le_trans hBr.ord.1 (Nat.le_of_lt hBr.blk.lt)
        refine ⟨hBr.lies.kept (fun b h1 h2 => hb'.block b (by omega)), hBr.blk.below hb' hBr.blk.lt, fun q hq => ?_, hBr.ord⟩
        obtain ⟨cap, hc⟩ := hBr.bank q hq
        exact ⟨cap, hc.below hb' hc.lt⟩
      clear hb hb1 q0 q1 y0 y1 hBr hbr
      go_upto_region 5 with fail
      have hA : Hid (∀ W', Below w2.heap.size w2 W' → Below w.heap.size w W') := fun W' hb' => new_trans hb2.out hb'
      have hD : Hid (Below w2.heap.size w2 w2.drew) := (Below.refl _ _).drew
      have hX : Hid (Below w2.heap.size w2 (w2.alloc (.cells #[.int .i64 0, .int .i64 0, .int .i64 0, .int .i64 0, .int .i64 0] 45)).drew) := ((Below.refl _ _).alloc (Nat.le_refl _) _).drew
      have hXb : Hid (Blk (w2.alloc (.cells #[.int .i64 0, .int .i64 0, .int .i64 0, .int .i64 0, .int .i64 0] 45)).drew w2.heap.size #[.int .i64 0, .int .i64 0, .int .i64 0, .int .i64 0, .int .i64 0]) := Blk.below (n := (w2.alloc (.cells #[.int .i64 0, .int .i64 0, .int .i64 0, .int .i64 0, .int .i64 0] 45)).heap.size) (Blk.new w2 _ _) ⟨rfl, rfl, rfl, Nat.le_refl _, fun _ _ => rfl⟩ (Blk.new w2 _ _).lt
      go_cut [9] (fun x wx => ∃ X, x = .pointer (some ⟨X, 0, none⟩) ∧ Blk wx X #[.int .i64 o, .int .i64 a, .int .i64 b, .int .i64 m, .int .i64 l] ∧ Blk wx w.heap.size (cpA d) ∧ Below w.heap.size w wx)
      case first =>
        --FIRST
        go_region_with (first | (go_at_call 24; (try rw [wr1]); refine (har.out _).mono ?_; rintro e w' ⟨rfl, hww⟩; obtain rfl := hww.symm) | (go_at_call_of 23 (Value.int .i64 (d.pc : Int)); refine (rd1.out _ _ _ _ _ _ _ _ (hBr2.out _ (by first | exact hD.out | exact hX.out))).mono ?_; rintro e w' ⟨rfl, hww⟩; obtain rfl := hww.symm) | (go_at_call_of 23 (Value.int .i64 (s1 : Int)); refine (rd2.out _ _ _ _ _ _ _ _ (hBr2.out _ (by first | exact hD.out | exact hX.out))).mono ?_; rintro e w' ⟨rfl, hww⟩; obtain rfl := hww.symm) | (go_at_call 22; refine (hde.out _ (hA.out _ (by first | exact hD.out | exact hX.out))).mono ?_; rintro e w9 ⟨rfl, hb9⟩; first | (have hB9 : Hid (Below w2.heap.size w2 w9) := new_trans hD.out hb9; have q9 := hid (q2.out.below hB9.out q2.out.lt); have z9 := q9.out.cell; have l9 := q9.out.lt; clear hb9) | (have hB9 : Hid (Below w2.heap.size w2 w9) := new_trans hX.out hb9; have q9 := hid (q2.out.below hB9.out q2.out.lt); have z9 := q9.out.cell; have l9 := q9.out.lt; have x9 := hid (hXb.out.below hb9 hXb.out.lt); have y9 := x9.out.cell; have f9 := x9.out.frozen; have k9 := x9.out.lt; clear hb9)))
        all_goals go_wp2_with fail
        all_goals go_meet
        all_goals first
          | exact ⟨w2.heap.size, rfl, st5_blk x9.out _ _ _ _ _, st5_other q9.out (Nat.ne_of_lt l0) _ _ _ _ _, st5_below (hA.out _ hB9.out) (Nat.le_of_lt l0) _ _ _ _ _⟩
          | exact ⟨w9.heap.size, rfl, Blk.new _ _ _, q9.out.alloc _, (hA.out _ hB9.out).alloc (hA.out _ hB9.out).size _⟩
        --END
      case rest =>
        obtain ⟨X, rfl, hx, hc, hb⟩ := hcut
        have x1 := hx.cell
        have x2 := hc.cell
        have hbz := hid hb
        have e4 := e1.out
        have hR2 := hR.out
        clear hb hx hc hA hD hX hXb z0 l0 q2 hb2 hBr2 hde rd1 rd2 har e1 hR
        cases hh <;> cases h17
        all_goals
          simp only [Bool.false_eq_true, if_false, if_true, reduceIte] at hR2
          subst hR2
          go_wp2
          go_ret3
          exact ⟨rfl, hbz.out⟩
    refine main d.halt (o == 17) _ rfl rfl ?_
    cases d.halt
    · by_cases h17 : o = 17
      · rw [h17]; rfl
      · have : (o == 17) = false := by simp [h17]
        rw [this, if_neg h17]
        rfl
    · rfl
end Go.Proofs.YtihpbiehdojllanDoor
