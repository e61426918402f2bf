/- Which port is wanted: what the program answers. -/
import Derived.Test.YtgpmpfikeindfaaGreatDoorV46
import Derived.Test.YtgpmpfikeindfaaGreatDoorWawv
import Derived.Test.YtgpmpfikeindfaaGreatDoorV24
import Derived.Test.YtgpmpfikeindfaaGreatDoorV20
import Derived.Test.YtgpmpfikeindfaaGreatDoorV44
import Derived.Test.YtgpmpfikeindfaaGreatDoorSrcv
import Derived.Deep.DrawnRows
import Derived.OpenShut
namespace Go.Proofs.YtgpmpfikeindfaaGreatDoor
open Go.ChangeShapes Go.WideShapes Go.ChangeAt Go.RowKit
set_option linter.unusedVariables false
set_option linter.unusedSimpArgs false

theorem aroundP_impl (v : Int) (r : Nat) (h : bits .and .i64 v 255 = (r : Int)) (w : World) : Calls Tryz.prog 54 #[.int .i64 v] w fun e w' => e = .returned (.int .i64 (r : Int)) ∧ w' = w := by
  go_enter Tryz.func54, Tryz.ntmps54
  go_wp2
  go_ret
  exact ⟨rfl, rfl⟩
theorem readP_impl (w : World) (lo hi B r s : Nat) (G Q : Nat → Nat) (M : Mem) (a : Nat) (h : Brd w lo hi B r s G Q M) (hk : okM M = true) (ha : a < 256) :
    Calls Tryz.prog 53 #[.pointer (some ⟨B, 0, none⟩), .int .i64 (a : Int)] w fun e w' => e = .returned (.int .i64 (peekN M a : Int)) ∧ w' = w := by
  have := read_impl w lo hi B r s G Q M (a : Int) h hk (by omega) (by omega)
  rw [(peek_byte hk ha).1] at this
  exact this
theorem cfM_nil (c : Cu) (M : Mem) : (okC c = true ∧ okM M = true ∧ cfM c M [] = 0) ∨ (cfM c M [] = 1 ∧ ∀ x y, pw3 c M = (if okC c = true then (if okM M = true then x else y) else y) → True) := by
  unfold cfM faultM
  cases okC c
  · exact .inr ⟨rfl, fun _ _ _ => trivial⟩
  · cases okM M
    · exact .inr ⟨rfl, fun _ _ _ => trivial⟩
    · exact .inl ⟨rfl, rfl, rfl⟩
theorem pw_bad {c : Cu} {M : Mem} (h : cfM c M [] = 1) : pw3 c M = .tuple #[.int .i64 0, .bool false, .int .i64 1] := by
  unfold cfM faultM at h
  unfold pw3
  cases h1 : okC c
  · rfl
  · cases h2 : okM M
    · rfl
    · rw [h1, h2] at h
      exact absurd h (by decide)
def st5 (W : World) (b : Nat) (a0 a1 a2 a3 a4 : Value) : World := ((((W.setCell ⟨b, 0, none⟩ a0).setCell ⟨b, 1, none⟩ a1).setCell ⟨b, 2, none⟩ a2).setCell ⟨b, 3, none⟩ a3).setCell ⟨b, 4, none⟩ a4
theorem st5_blk {W : World} {b : Nat} {z0 z1 z2 z3 z4 : Value} (h : Blk W b #[z0, z1, z2, z3, z4]) (a0 a1 a2 a3 a4 : Value) : Blk (st5 W b a0 a1 a2 a3 a4) b #[a0, a1, a2, a3, a4] :=
  ((((h.set 0 a0).set 1 a1).set 2 a2).set 3 a3).set 4 a4
theorem st5_other {W : World} {b k : Nat} {A : Array Value} (h : Blk W k A) (hne : k ≠ b) (a0 a1 a2 a3 a4 : Value) : Blk (st5 W b a0 a1 a2 a3 a4) k A :=
  ((((h.other (p := ⟨b, 0, none⟩) hne a0).other (p := ⟨b, 1, none⟩) hne a1).other (p := ⟨b, 2, none⟩) hne a2).other (p := ⟨b, 3, none⟩) hne a3).other (p := ⟨b, 4, none⟩) hne a4
theorem st5_below {w W : World} {n b : Nat} (h : Below n w W) (hb : n ≤ b) (a0 a1 a2 a3 a4 : Value) : Below n w (st5 W b a0 a1 a2 a3 a4) :=
  ((((h.setCell (p := ⟨b, 0, none⟩) hb a0).setCell (p := ⟨b, 1, none⟩) hb a1).setCell (p := ⟨b, 2, none⟩) hb a2).setCell (p := ⟨b, 3, none⟩) hb a3).setCell (p := ⟨b, 4, none⟩) hb a4
theorem mc_there5 {W : World} {b : Nat} {A : Array Value} (h : Blk W b A) (hn : A.size = 5) : W.there b 0 5 := fun j hj => by
  refine ⟨?_, h.frozen _⟩
  rw [h.cell, Array.getElem?_eq_getElem (by omega)]
  rfl
theorem lay5_at {W : World} {b : Nat} {z0 z1 z2 z3 z4 : Value} (h : Blk W b #[z0, z1, z2, z3, z4]) (a0 a1 a2 a3 a4 : Value) : Blk (W.setCells b 0 [a0, a1, a2, a3, a4]) b #[a0, a1, a2, a3, a4] := ((((h.set 0 a0).set 1 a1).set 2 a2).set 3 a3).set 4 a4
theorem lay_belowH {lo b : Nat} {w : World} (vs : List Value) : ∀ (o : Nat) (W : World), lo ≤ b → Below lo w W → Below lo w (W.setCells b o vs) := by
  induction vs with
  | nil => exact fun o W _ h => h
  | cons u t ih => exact fun o W hb h => ih _ _ hb (h.setCell (p := ⟨b, o, none⟩) hb u)
/-- what comes next, looked at by a processor at work -/
def pwQ (c : Cp) (M : Mem) : Value := if c.halt = true then .tuple #[.int .i64 0, .bool false] else if decO (peekN M c.pc) = 17 then .tuple #[.int .i64 (decN (peekN M c.pc) (peekN M ((c.pc + 1) % 256))), .bool true] else .tuple #[.int .i64 0, .bool false]
set_option maxRecDepth 100000 in
set_option maxHeartbeats 4000000 in
theorem pwant_impl (Y B lo hi r s n : Nat) (G Q : Nat → Nat) (d : Cp) (M : Mem) (T : Value) (w : World) (hY : Blk w Y (proT d B n T)) (hB : Brd w lo hi B r s G Q M) (hhi : hi ≤ w.heap.size) (hok : okM M = true) (hpc : d.pc < 256) (hK : Kinds w) :
    Calls Tryz.prog 27 #[.pointer (some ⟨Y, 0, none⟩)] w fun e w' => e = .returned (pwQ d M) ∧ Below w.heap.size w w' := by
  have hs1 : (d.pc + 1) % 256 < 256 := Nat.mod_lt _ (by omega)
  have r1 : bits .and .i64 ((d.pc : Int) + 1) 255 = (((d.pc + 1) % 256 : Nat) : Int) := and255 (d.pc + 1) (by omega)
  have wr1 : IntKind.i64.wrap ((d.pc : Int) + 1) = (d.pc : Int) + 1 := by rw [IntKind.wrap_i64]; omega
  have har := hid (fun w => aroundP_impl ((d.pc : Int) + 1) ((d.pc + 1) % 256) r1 w)
  have hrd : Hid (∀ (a : Nat) (ha : a < 256) w lo hi B r s G Q, Brd w lo hi B r s G Q M → Calls Tryz.prog 53 #[.pointer (some ⟨B, 0, none⟩), .int .i64 (a : Int)] w fun e w' => e = .returned (.int .i64 (peekN M a : Int)) ∧ w' = w) := fun a ha w lo hi B r s G Q hB => readP_impl w lo hi B r s G Q M a hB hok ha
  have rd1 := hid (hrd.out d.pc hpc)
  have rd2 := hid (hrd.out ((d.pc + 1) % 256) hs1)
  have hde : Hid (∀ W', Below w.heap.size w W' → Calls _ _ _ W' _) := fun W' hb => dec0_impl (peekN M d.pc) (peekN M ((d.pc + 1) % 256)) W' (hK.below hb) (peek_byte hok hpc).2 (peek_byte hok hs1).2
  obtain ⟨o, a, b, m, l, hd, h1, h4⟩ : ∃ o a b m l, dcdV (peekN M d.pc) (peekN M ((d.pc + 1) % 256)) = insV o a b m l ∧ decO (peekN M d.pc) = o ∧ decN (peekN M d.pc) (peekN M ((d.pc + 1) % 256)) = m := ⟨_, _, _, _, _, rfl, rfl, rfl⟩
  rw [hd] at hde
  have hR : pwQ d M = if d.halt = true then .tuple #[.int .i64 0, .bool false] else if o = 17 then .tuple #[.int .i64 m, .bool true] else .tuple #[.int .i64 0, .bool false] := by unfold pwQ; rw [h1, h4]
  have hBr : Hid (∀ W', Below w.heap.size w W' → Brd W' lo hi B r s G Q M) := fun W' hb' => by
    refine ⟨hB.lies.kept (fun b h1 h2 => hb'.block b (by omega)), hB.blk.below hb' hB.blk.lt, fun q hq => ?_, hB.ord⟩
    obtain ⟨cap, hc⟩ := hB.bank q hq
    exact ⟨cap, hc.below hb' hc.lt⟩
  rw [hR]
  clear hR hd h1 h4 hB hK hrd r1 hok hhi
  generalize peekN M d.pc = first at *
  generalize peekN M ((d.pc + 1) % 256) = second at *
  generalize (d.pc + 1) % 256 = s1 at *
  replace hY := hid hY
  cases hh : d.halt <;> by_cases h17 : o = 17
  all_goals
    first
      | (have e3 : (o != 17) = false := by simp [h17]) | (have e3 : (o != 17) = true := by simp [h17])
    first | rw [if_neg (by decide), if_pos h17] | rw [if_neg (by decide), if_neg h17] | rw [if_pos rfl]
    clear h17
    replace hh := hid hh
    go_enter Tryz.func27, Tryz.ntmps27
    go_upto_region 1 with fail
    refine new_region 23 24 4 #[.int .i64 0, .int .i64 0, .int .i64 0, .int .i64 0, .int .i64 0] (fun W => Hid (Below w.heap.size w W)) (fun e W => Blk W e #[.int .i64 o, .int .i64 a, .int .i64 b, .int .i64 m, .int .i64 l] ∧ Below w.heap.size w W) (by kernel_rfl) (by kernel_rfl) (by kernel_rfl) (by kernel_rfl) (by kernel_rfl) (by kernel_rfl) (by kernel_rfl) (by kernel_rfl) (by decide) (by kernel_rfl) (by kernel_rfl) (hid ((Below.refl _ _).drew)) (fun W hW => hW.out.size) ?_
    iterate 9 (refine new_take (v := ?_) (by decide) (by decide) (by kernel_rfl) (by kernel_rfl) ?_ ?_; rotate_left; (focus (intro W hW; have b1 : W.cell? ⟨Y, 10, none⟩ = some (.int .i64 (d.pc : Int)) := (hY.out.below hW.out hY.out.lt).cell 10; have b2 : W.cell? ⟨Y, 14, none⟩ = some (.pointer (some ⟨B, 0, none⟩)) := (hY.out.below hW.out hY.out.lt).cell 14; go_simp; first | done | with_reducible rfl)); (try simp only [Act.put, List.setIfInBounds_toArray, List.set_cons_zero, List.set_cons_succ]))
    refine new_call (f := 53) (args := #[.pointer (some ⟨B, 0, none⟩), .int .i64 (d.pc : Int)]) (.int .i64 (first : Int)) (by decide) (by decide) (by kernel_rfl) (by kernel_rfl) ?_ ?_ ?_; (focus (intro W; go_simp; first | done | with_reducible rfl)); (focus (intro W hW; exact (rd1.out W _ _ _ _ _ _ _ (hBr.out W hW.out)).mono (fun r W' hr => ⟨hr.1, by rw [hr.2]; exact hW, by rw [hr.2]; exact Below.refl _ _⟩))); (try simp only [Act.put, List.setIfInBounds_toArray, List.set_cons_zero, List.set_cons_succ])
    iterate 10 (refine new_take (v := ?_) (by decide) (by decide) (by kernel_rfl) (by kernel_rfl) ?_ ?_; rotate_left; (focus (intro W hW; have b1 : W.cell? ⟨Y, 10, none⟩ = some (.int .i64 (d.pc : Int)) := (hY.out.below hW.out hY.out.lt).cell 10; have b2 : W.cell? ⟨Y, 14, none⟩ = some (.pointer (some ⟨B, 0, none⟩)) := (hY.out.below hW.out hY.out.lt).cell 14; go_simp; first | done | with_reducible rfl)); (try simp only [Act.put, List.setIfInBounds_toArray, List.set_cons_zero, List.set_cons_succ]))
    refine new_call (f := 54) (args := #[.int .i64 ((d.pc : Int) + 1)]) (.int .i64 (s1 : Int)) (by decide) (by decide) (by kernel_rfl) (by kernel_rfl) ?_ ?_ ?_; (focus (intro W; go_simp; first | done | with_reducible rfl)); (focus (intro W hW; exact (har.out W).mono (fun r W' hr => ⟨hr.1, by rw [hr.2]; exact hW, by rw [hr.2]; exact Below.refl _ _⟩))); (try simp only [Act.put, List.setIfInBounds_toArray, List.set_cons_zero, List.set_cons_succ])
    refine new_call (f := 53) (args := #[.pointer (some ⟨B, 0, none⟩), .int .i64 (s1 : Int)]) (.int .i64 (second : Int)) (by decide) (by decide) (by kernel_rfl) (by kernel_rfl) ?_ ?_ ?_; (focus (intro W; go_simp; first | done | with_reducible rfl)); (focus (intro W hW; exact (rd2.out W _ _ _ _ _ _ _ (hBr.out W hW.out)).mono (fun r W' hr => ⟨hr.1, by rw [hr.2]; exact hW, by rw [hr.2]; exact Below.refl _ _⟩))); (try simp only [Act.put, List.setIfInBounds_toArray, List.set_cons_zero, List.set_cons_succ])
    refine new_call (f := 52) (args := #[.int .i64 (first : Int), .int .i64 (second : Int)]) (insV o a b m l) (by decide) (by decide) (by kernel_rfl) (by kernel_rfl) ?_ ?_ ?_; (focus (intro W; go_simp; first | done | with_reducible rfl)); (focus (intro W hW; exact (hde.out W hW.out).mono (fun r W' hr => ⟨hr.1, new_trans hW.out hr.2, hr.2⟩))); (try simp only [Act.put, List.setIfInBounds_toArray, List.set_cons_zero, List.set_cons_succ])
    refine new_make (by decide) (by kernel_rfl) ?_ ?_; (focus (intro W hW; refine ⟨64, ?_, hid (hW.out.alloc hW.out.size _)⟩; go_simp; first | done | with_reducible rfl)); (try simp only [Act.put, List.setIfInBounds_toArray, List.set_cons_zero, List.set_cons_succ])
    refine new_store (by decide) (by decide) (by kernel_rfl) ?_ ?_; (focus (intro e he W hW K hK; refine wp_store_mid 64 _ _ rfl e 0 #[.int .i64 o, .int .i64 a, .int .i64 b, .int .i64 m, .int .i64 l] rfl rfl (mc_there5 hW.2 rfl) (by show _ = some 5; kernel_rfl) (by simp [Value.oneCell']) ?_; exact hK _ ⟨lay5_at hW.2 _ _ _ _ _, lay_belowH _ _ _ he hW.1.out⟩)); (try simp only [Act.put, List.setIfInBounds_toArray, List.set_cons_zero, List.set_cons_succ])
    refine new_end (fun e W he hW => ?_)
    have y1 := hW.1.cell
    have hBe := hid hW.2
    have yh : W.cell? ⟨Y, 13, none⟩ = some (.bool d.halt) := (hY.out.below hW.2 hY.out.lt).cell 13
    rw [hh.out] at yh
    clear hW
    go_wp2
    go_ret2
    exact ⟨rfl, hBe.out⟩
set_option maxRecDepth 100000 in
set_option maxHeartbeats 4000000 in
theorem pw_impl (c : Cu) (v : Value) (M : Mem) (w : World) (h : MemR w v M) (hf : Fit M) (hK : Kinds w) :
    Calls Tryz.prog 9 #[cuV c, v] w fun e w' => e = .returned (pw3 c M) ∧ Below w.heap.size w w' := by
  have hM0 := h
  obtain ⟨a1, p1, a2, p2, rfl, _, _⟩ := h.form
  have hs := hid (two_newC w (cuA c) #[.slice a1 M.rom.length p1, .slice a2 M.ram.length p2, .int .i64 M.page, .int .i64 M.screen, .bool M.locked] 25 30)
  have x0 := hs.out.1.cell
  have x1 := hs.out.2.1.cell
  have hask : Hid (∀ W', Below w.heap.size w W' → Calls Tryz.prog 19 #[cuV c, memV (.slice a1 M.rom.length p1) (.slice a2 M.ram.length p2) M.page M.screen M.locked, .slice none 0 0] W' fun e w' => e = .returned (.int .i64 (cfM c M [])) ∧ Below W'.heap.size W' w') := fun W' hb => cfault_impl c _ M none 0 [] W' (h.below hb) hf (RowR.nil _) (by simp)
  rcases cfM_nil c M with ⟨h1, h2, h3⟩ | ⟨h3, _⟩
  rotate_left
  · rw [pw_bad h3]
    rw [h3] at hask
    clear h hM0 hf h3 hK
    go_enter Tryz.func9, Tryz.ntmps9
    go_upto_region 1 with fail
    obtain ⟨V, hV⟩ : ∃ V, ((w.alloc (.cells (cuA c) 25)).alloc (.cells #[.slice a1 M.rom.length p1, .slice a2 M.ram.length p2, .int .i64 M.page, .int .i64 M.screen, .bool M.locked] 30)) = V := ⟨_, rfl⟩
    rw [hV] at hs x0 x1 ⊢
    clear hV
    go_wp2_with fail
    refine (hask.out _ hs.out.2.2).mono ?_
    rintro e w1 ⟨rfl, hb⟩
    have hb1 := hid (new_trans hs.out.2.2 hb)
    clear hb hs x0 x1
    go_wp2
    go_ret3
    exact ⟨rfl, hb1.out⟩
  · rw [h3] at hask
    have hpc := (okC_cp h1).2.2.2.2.2.2.2.2.2.2
    have hcu : cuA c = cpA c.cp := by
      have := (okC_cp h1).1
      simp only [cuV, cpV, Value.agg.injEq] at this
      exact this
    have hce2 : cuV c = cpV c.cp := (okC_cp h1).1
    obtain ⟨n1, b1, hQ⟩ : ∃ n b, pwQ c.cp M = .tuple #[.int .i64 n, .bool b] := by
      unfold pwQ
      split
      · exact ⟨_, _, rfl⟩
      split
      · exact ⟨_, _, rfl⟩
      · exact ⟨_, _, rfl⟩
    have e : pw3 c M = .tuple #[.int .i64 n1, .bool b1, .int .i64 0] := by
      have hQ2 := hQ
      unfold pwQ at hQ2
      unfold pw3 pwO pwN
      rw [if_pos h1, if_pos h2]
      have hh : c.cp.halt = c.halt := rfl
      rw [hh] at hQ2
      split at hQ2
      · rename_i k; rw [if_pos k]; injection hQ2 with hQ2; injection hQ2 with hQ2; injection hQ2 with q1 q2; injection q2 with q2 _; rw [q1, q2]
      · rename_i k
        rw [if_neg k]
        split at hQ2
        · rename_i k2; rw [if_pos k2]; injection hQ2 with hQ2; injection hQ2 with hQ2; injection hQ2 with q1 q2; injection q2 with q2 _; rw [q1, q2]
        · rename_i k2; rw [if_neg k2]; injection hQ2 with hQ2; injection hQ2 with hQ2; injection hQ2 with q1 q2; injection q2 with q2 _; rw [q1, q2]
    rw [e]
    have hnp : Hid (∀ W', Below w.heap.size w W' → Calls _ _ _ W' _) := fun W' hb => newp_impl c.cp (memV (.slice a1 M.rom.length p1) (.slice a2 M.ram.length p2) M.page M.screen M.locked) M 0 W' (h.below hb) h2 hf
    have hpw : Hid (∀ (Y B lo hi r s : Nat) (G Q : Nat → Nat) (W : World), Below w.heap.size w W → Blk W Y (proT c.cp B 0 .nilFunc) → Brd W lo hi B r s G Q M → Calls Tryz.prog 27 #[.pointer (some ⟨Y, 0, none⟩)] W fun e w' => e = .returned (.tuple #[.int .i64 n1, .bool b1]) ∧ Below W.heap.size W w') := fun Y B lo hi r s G Q W hb q1 q2 => by
      have := pwant_impl Y B lo hi r s 0 G Q c.cp M .nilFunc W q1 q2 (Nat.le_trans q2.ord.1 (Nat.le_of_lt q2.blk.lt)) h2 hpc (hK.below hb)
      rw [hQ] at this
      exact this
    rw [hce2] at hask ⊢
    rw [hcu] at hs x0 x1
    clear h hM0 hf h1 h2 h3 hK hQ e hcu hce2 hpc
    generalize c.cp = d at *
    go_enter Tryz.func9, Tryz.ntmps9
    go_upto_region 1 with fail
    obtain ⟨V, hV⟩ : ∃ V, ((w.alloc (.cells (cpA d) 25)).alloc (.cells #[.slice a1 M.rom.length p1, .slice a2 M.ram.length p2, .int .i64 M.page, .int .i64 M.screen, .bool M.locked] 30)) = V := ⟨_, rfl⟩
    rw [hV] at hs x0 x1 ⊢
    clear hV
    go_wp2_with fail
    refine (hask.out _ hs.out.2.2).mono ?_
    rintro e w1 ⟨rfl, hb⟩
    have hb1 := hid (new_trans hs.out.2.2 hb)
    have q0 := hid (hs.out.1.below hb hs.out.1.lt)
    have q1 := hid (hs.out.2.1.below hb hs.out.2.1.lt)
    have y0 := q0.out.cell
    have y1 := q1.out.cell
    clear hb hs x0 x1 hask
    go_wp2_with fail
    refine (hnp.out _ hb1.out).mono ?_
    rintro e w2 ⟨lo, hi, B, r, s, G, Q, Y, rfl, hBr, hYb, _, _, _, hb⟩
    have hb2 := hid (new_trans hb1.out hb)
    replace hBr := hid hBr
    replace hYb := hid hYb
    clear hb hb1 q0 q1 y0 y1 hnp
    go_wp2_with fail
    refine (hpw.out Y B lo hi r s G Q _ hb2.out hYb.out hBr.out).mono ?_
    rintro e w3 ⟨rfl, hb⟩
    have hb3 := hid (new_trans hb2.out hb)
    clear hb hb2 hBr hYb hpw
    go_wp2
    go_ret3
    exact ⟨rfl, hb3.out⟩
end Go.Proofs.YtgpmpfikeindfaaGreatDoor

/- What the program answers where an address lies, what is read there, whether it is shared, and what a write makes of a memory. -/
namespace Go.Proofs.YtgpmpfikeindfaaGreatDoor
open Go.ChangeShapes Go.WideShapes Go.ChangeAt Go.RowKit
set_option linter.unusedVariables false
set_option linter.unusedSimpArgs false

theorem row_one (W : World) (a : Int) (t : TypeId) : RowR (W.alloc (.cells #[.int .i64 a] t)) (.slice (some ⟨W.heap.size, 0, none⟩) 1 1) [a] :=
  ⟨_, 1, rfl, .inr ⟨W.heap.size, 0, rfl, fun i hi => by
    have hi : i < 1 := hi
    obtain rfl : i = 0 := by omega
    exact cell_new1 W _ t⟩⟩
theorem row_one2 (W : World) (o : Obj) (a : Int) (t : TypeId) : RowR ((W.alloc o).alloc (.cells #[.int .i64 a] t)) (.slice (some ⟨W.heap.size + 1, 0, none⟩) 1 1) [a] := by
  have := row_one (W.alloc o) a t
  rw [World.size_alloc] at this
  exact this
theorem row_one3 (W : World) (o o' : Obj) (a : Int) (t : TypeId) : RowR (((W.alloc o).alloc o').alloc (.cells #[.int .i64 a] t)) (.slice (some ⟨W.heap.size + 1 + 1, 0, none⟩) 1 1) [a] := by
  have := row_one ((W.alloc o).alloc o') a t
  simp only [World.size_alloc] at this
  exact this
theorem row_two3 (W : World) (o o' : Obj) (a b : Int) (t : TypeId) : RowR (((W.alloc o).alloc o').alloc (.cells #[.int .i64 a, .int .i64 b] t)) (.slice (some ⟨W.heap.size + 1 + 1, 0, none⟩) 2 2) [a, b] := by
  have h := (Blk.new ((W.alloc o).alloc o') #[.int .i64 a, .int .i64 b] t).cell
  simp only [World.size_alloc] at h
  refine ⟨_, 2, rfl, .inr ⟨W.heap.size + 1 + 1, 0, rfl, fun i hi => ?_⟩⟩
  have hi : i < 2 := hi
  rcases (by omega : i = 0 ∨ i = 1) with rfl | rfl
  · exact h 0
  · exact h 1
/-- memoryFault with one number beside -/
theorem fault1_impl (v : Value) (M : Mem) (b cap : Nat) (a : Int) (w : World) (h : MemR w v M) (hf : Fit M) (hz : RowR w (.slice (some ⟨b, 0, none⟩) 1 cap) [a]) :
    Calls Tryz.prog 34 #[v, .slice (some ⟨b, 0, none⟩) 1 cap] w fun e w' => e = .returned (.int .i64 (askM M a)) ∧ Below w.heap.size w w' := by
  rw [← fault_one]
  exact fault_impl v M (some ⟨b, 0, none⟩) cap [a] w h hf hz (by simp)
theorem fault2_impl (v : Value) (M : Mem) (b cap : Nat) (a x : Int) (w : World) (h : MemR w v M) (hf : Fit M) (hz : RowR w (.slice (some ⟨b, 0, none⟩) 2 cap) [a, x]) :
    Calls Tryz.prog 34 #[v, .slice (some ⟨b, 0, none⟩) 2 cap] w fun e w' => e = .returned (.int .i64 (pokeC M a x)) ∧ Below w.heap.size w w' := by
  have e : pokeC M a x = faultM M [a, x] := by
    unfold pokeC faultM askM
    cases okM M
    · simp
    · cases ha : inB a 0 255
      · simp [ha]
      · cases hx : inB x 0 255 <;> simp [ha, hx]
  rw [e]
  exact fault_impl v M (some ⟨b, 0, none⟩) cap [a, x] w h hf hz (by simp)
theorem Brd.below {w w' : World} {lo hi B r s : Nat} {G Q : Nat → Nat} {M : Mem} (h : Brd w lo hi B r s G Q M) (hb : Below w.heap.size w w') : Brd w' lo hi B r s G Q M := by
  have hB := h.blk.lt
  have ho := h.ord
  exact ⟨h.lies.kept (fun b _ h1 => hb.block b (by omega)), h.blk.below hb hB, fun q hq => by
    obtain ⟨cap, hc⟩ := h.bank q hq
    exact ⟨cap, hc.below hb hc.lt⟩, ho⟩
end Go.Proofs.YtgpmpfikeindfaaGreatDoor

/- What the program answers of a write and of paging. -/
namespace Go.Proofs.YtgpmpfikeindfaaGreatDoor
open Go.ChangeShapes Go.WideShapes Go.ChangeAt Go.RowKit
set_option linter.unusedVariables false
set_option linter.unusedSimpArgs false

theorem three_new {w w1 : World} {A0 A1 : Array Value} {t t1 : TypeId} {o : Obj} (hb : Below (((w.alloc (.cells A0 t)).alloc (.cells A1 t1)).alloc o).heap.size (((w.alloc (.cells A0 t)).alloc (.cells A1 t1)).alloc o) w1) :
    Blk w1 w.heap.size A0 ∧ Blk w1 (w.heap.size + 1) A1 ∧ Below w.heap.size w w1 := by
  have hs : (((w.alloc (.cells A0 t)).alloc (.cells A1 t1)).alloc o).heap.size = w.heap.size + 1 + 1 + 1 := by simp
  have q1 := Blk.new (w.alloc (.cells A0 t)) A1 t1
  simp only [World.size_alloc] at q1
  refine ⟨(((Blk.new w A0 t).alloc _).alloc _).below hb (by omega), (q1.alloc _).below hb (by omega), ?_⟩
  exact ((((Below.refl _ _).alloc (Nat.le_refl _) _).alloc (by simp) _).alloc (by simp; omega) _).trans (hb.mono (by omega))
theorem pokeC_cases (M : Mem) (a v : Int) : (pokeC M a v = 0 ∧ okM M = true ∧ (0 ≤ a ∧ a ≤ 255) ∧ inB v 0 255 = true) ∨ (pokeC M a v ≠ 0 ∧ (pokeC M a v == 0) = false) := by
  unfold pokeC
  rcases ask_cases M a with ⟨hk, ho, h0, h1⟩ | ⟨hk, hk2⟩
  · rw [if_pos hk]
    cases hv : inB v 0 255
    · right; simp
    · left; exact ⟨by simp, ho, ⟨h0, h1⟩, rfl⟩
  · rw [if_neg hk]
    exact .inr ⟨hk, hk2⟩
set_option maxRecDepth 100000 in
theorem poke_impl (v : Value) (M : Mem) (a x : Int) (w : World) (h : MemR w v M) (hf : Fit M) :
    Calls Tryz.prog 15 #[v, .int .i64 a, .int .i64 x] w fun e w' => ∃ u, e = .returned (.tuple #[u, .int .i64 (pokeC M a x)]) ∧ MemO w' w.heap.size w'.heap.size u (pokeR M a x) ∧ Below w.heap.size w w' := by
  obtain ⟨a1, p1, a2, p2, rfl, _, _⟩ := h.form
  have hB : Hid (∀ o o' o'', Below w.heap.size w (((w.alloc o).alloc o').alloc o'')) := fun o o' o'' => (((Below.refl _ _).alloc (Nat.le_refl _) _).alloc (by simp) _).alloc (by simp; omega) _
  have hM : Hid (∀ W', Below w.heap.size w W' → MemR W' (memV (.slice a1 M.rom.length p1) (.slice a2 M.ram.length p2) M.page M.screen M.locked) M) := fun W' hb => h.below hb
  have hF : Hid (Fit M) := hf
  clear h hf
  rcases pokeC_cases M a x with ⟨hk, ho, ⟨h0, h1⟩, hv⟩ | ⟨hk, hk2⟩
  · have e : pokeR M a x = pokeM M a x := by unfold pokeR; rw [if_pos hk]
    rw [e, hk]
    have hk' := hid hk
    clear e hk
    go_enter Tryz.func15, Tryz.ntmps15
    go_wp2_with fail
    refine (fault2_impl _ M _ _ a x _ (hM.out _ (hB.out _ _ _)) hF.out (row_two3 _ _ _ _ _ _)).mono ?_
    rintro e w1 ⟨rfl, hb1⟩
    rw [hk'.out]
    obtain ⟨q0, q1, hB1⟩ := three_new hb1
    have x0 := q0.cell
    have hz1 := q1.lt
    replace q1 := hid q1
    replace hB1 := hid hB1
    clear hb1 q0
    go_wp2_with fail
    refine (board_impl _ M _ (hM.out _ hB1.out) ho hF.out).mono ?_
    rintro e w2 ⟨hi, B, r, s, G, Q, rfl, hBr, hb2⟩
    have q2 := hid (q1.out.below hb2 hz1)
    have hB2 := hid (new_trans hB1.out hb2)
    have hl1 := hb2.size
    replace hBr := hid hBr
    clear x0 hb2 hB1 q1
    go_wp2_with fail
    refine (write_impl _ _ _ _ _ _ _ _ M a x hBr.out ho h0 h1).mono ?_
    rintro e w3 ⟨rfl, hBr3, hb3⟩
    have q3 := q2.out.below hb3 hz1
    have hB3 := hid (hB2.out.trans (hb3.mono (by omega)))
    have hpok := poke_ok (a := a) ho hv
    have hlr : (pokeM M a x).rom.length = 64 := bytes_len (ok_parts hpok).1
    have hlm : (pokeM M a x).ram.length = 4 := (ok_parts hpok).2.1
    have hmem := hid (by have := hBr3.lies.memO; rw [hlr, hlm] at this; exact this)
    have hord := hBr3.ord.1
    have y := hBr3.blk.cell
    have f3 := q3.frozen
    have x3 := q3.cell
    have hw1 : w.heap.size + 1 < w1.heap.size := hz1
    have hBl := hBr3.blk.lt
    have hlo := hBr3.lies.br
    clear hBr hBr3 hb3 q2 q3 hB2 hlr hlm
    go_wp2
    refine bodyPost_ret (v := .tuple #[memV (.slice (some ⟨r, 0, none⟩) 64 64) (.slice (some ⟨s, 0, none⟩) 4 4) (pokeM M a x).page (pokeM M a x).screen (pokeM M a x).locked, .int .i64 0]) (by simp [results, Tryz.results15, go_sem, x3]) rfl ⟨_, rfl, ?_, ?_⟩
    · refine (hmem.out.kept (fun b hb1 hb2 => ?_)).mono (by omega) (by (iterate 5 rw [sizeSet]); omega)
      iterate 5 rw [Below.heap_setCell _ _ _ _ (by simp; omega)]
    · iterate 5 refine Below.setCell ?_ (by first | omega | (simp; done) | (simp; omega)) _
      exact hB3.out
  · have e : pokeR M a x = mem0 := by unfold pokeR; rw [if_neg hk]
    rw [e]
    clear e
    generalize hx : pokeC M a x = y at *
    replace hx := hid hx
    go_enter Tryz.func15, Tryz.ntmps15
    go_wp2_with fail
    refine (fault2_impl _ M _ _ a x _ (hM.out _ (hB.out _ _ _)) hF.out (row_two3 _ _ _ _ _ _)).mono ?_
    rintro e w1 ⟨rfl, hb1⟩
    rw [hx.out]
    obtain ⟨q0, q1, hB1⟩ := three_new hb1
    have x1 := q1.cell
    have f1 := q1.frozen
    replace hB1 := hid hB1
    clear hb1 q0 q1
    go_wp2
    refine bodyPost_ret (v := .tuple #[memV (.slice none 0 0) (.slice none 0 0) 0 0 false, .int .i64 y]) (by simp [results, Tryz.results15, go_sem, x1]) rfl ⟨_, rfl, MemO.zero _ _ _, ?_⟩
    iterate 5 refine Below.setCell ?_ (by first | omega | (simp; done) | (simp; omega)) _
    exact hB1.out
theorem memO_fields {W : World} {lo hi : Nat} {vr vm : Value} {pg sc : Int} {l : Bool} {M : Mem} (h : MemO W lo hi (memV vr vm M.page M.screen M.locked) M) : MemO W lo hi (memV vr vm pg sc l) { M with page := pg, screen := sc, locked := l } := by
  rcases h with ⟨e, e1, e2⟩ | ⟨vr', vm', r, s, G, e, h1, h2, r2⟩
  · injection e with e
    have e3 : vr = .slice none 0 0 := by
      have := congrArg (·[0]?) e
      simpa using this
    have e4 : vm = .slice none 0 0 := by
      have := congrArg (·[1]?) e
      simpa using this
    exact .inl ⟨by rw [e3, e4], e1, e2⟩
  · injection e with e
    have e3 : vr = vr' := by
      have := congrArg (·[0]?) e
      simpa using this
    have e4 : vm = vm' := by
      have := congrArg (·[1]?) e
      simpa using this
    subst e3 e4
    exact .inr ⟨_, _, r, s, G, rfl, h1, h2, r2⟩
end Go.Proofs.YtgpmpfikeindfaaGreatDoor

/- The laws' choice 'at' out of the bytes that came in: it is a number of these bytes alone, in its bounds; beside the source. -/
namespace Go.Proofs.YtgpmpfikeindfaaGreatDoor
open Go.ChangeShapes Go.WideShapes Go.ChangeAt Go.RowKit
set_option linter.unusedVariables false

/-- the i-th byte of a slice that came in -/
def atB (w : World) (a : Option Addr) (i : Nat) : Int :=
  match a with
  | some x => (match w.cell? ⟨x.block, x.off + i, none⟩ with
    | some (.int _ c) => c
    | _ => 0)
  | none => 0
/-- what 'at' chooses -/
def atV (w : World) (a : Option Addr) (len i : Nat) (n : Int) : Int :=
  if n ≤ 1 then 0 else if len = 0 then (i : Int) * 7 % n else (atB w a (i % len) * 31 + atB w a ((i + 1) % len) + ((i / len : Nat) : Int)) % n
theorem atV_below {w w' : World} {B : Nat} {a : Option Addr} {len : Nat} (h : CodeAt w B a len) (hb : Below B w w') (i : Nat) (n : Int) : atV w' a len i n = atV w a len i n := by
  unfold atV
  split
  · rfl
  · split
    · rfl
    · rename_i h1 h0
      rcases h with h | ⟨b, off, rfl, hb1, hc⟩
      · omega
      · have k : ∀ j, atB w' (some ⟨b, off, none⟩) j = atB w (some ⟨b, off, none⟩) j := by
          intro j
          unfold atB
          simp only
          rw [hb.cell (p := ⟨b, off + j, none⟩) hb1]
        rw [k, k]
theorem atV_bd {w : World} {a : Option Addr} {len i : Nat} {n : Int} (h : 2 ≤ n) : 0 ≤ atV w a len i n ∧ atV w a len i n < n := by
  unfold atV
  rw [if_neg (by omega)]
  split
  · exact ⟨Int.emod_nonneg _ (by omega), Int.emod_lt_of_pos _ (by omega)⟩
  · exact ⟨Int.emod_nonneg _ (by omega), Int.emod_lt_of_pos _ (by omega)⟩

set_option maxRecDepth 100000 in
theorem at_val (a : Option Addr) (len cap : Nat) (i : Nat) (n : Int) (B : Nat) (w : World) (hc : CodeAt w B a len) (hl : len ≤ 1048576) (hi : i ≤ 1000000) (hn : n ≤ 1000000000) :
    Calls Tryz.prog 6 #[.slice a len cap, .int .i64 i, .int .i64 n] w fun e w' => e = .returned (.int .i64 (atV w a len i n)) ∧ Below B w w' := by
  by_cases h1 : n ≤ 1
  · have e : atV w a len i n = 0 := by unfold atV; rw [if_pos h1]
    rw [e]
    go_enter Tryz.func6, Tryz.ntmps6
    go_wp2
    go_ret
    exact ⟨rfl, Below.refl _ _⟩
  · by_cases h0 : len = 0
    · have e : atV w a len i n = (i : Int) * 7 % n := by unfold atV; rw [if_neg h1, if_pos h0]
      rw [e]
      subst h0
      clear e
      go_enter Tryz.func6, Tryz.ntmps6
      go_wp2
      go_ret
      exact ⟨rfl, Below.refl _ _⟩
    · rcases hc with h | ⟨b, off, rfl, hb, hc⟩
      · omega
      have hlp : (0 : Int) < (len : Int) := by omega
      have hlne : ((len : Int) == 0) = false := by simp; omega
      have hq1 : (i : Int) % (len : Int) = ((i % len : Nat) : Int) := by simp
      have hq2 : ((i : Int) + 1) % (len : Int) = (((i + 1) % len : Nat) : Int) := by simp
      have hq3 : (i : Int) / (len : Int) = ((i / len : Nat) : Int) := by simp
      have hq1b : i % len < len := Nat.mod_lt _ (by omega)
      have hq2b : (i + 1) % len < len := Nat.mod_lt _ (by omega)
      have hq3b : i / len ≤ 1000000 := Nat.le_trans (Nat.div_le_self _ _) hi
      obtain ⟨c1, hc10, hc11, hc12⟩ := hc (i % len) hq1b
      obtain ⟨c2, hc20, hc21, hc22⟩ := hc ((i + 1) % len) hq2b
      have e : atV w (some ⟨b, off, none⟩) len i n = (c1 * 31 + c2 + ((i / len : Nat) : Int)) % n := by
        unfold atV
        rw [if_neg h1, if_neg h0]
        have k1 : atB w (some ⟨b, off, none⟩) (i % len) = c1 := by unfold atB; simp only; rw [hc12]
        have k2 : atB w (some ⟨b, off, none⟩) ((i + 1) % len) = c2 := by unfold atB; simp only; rw [hc22]
        rw [k1, k2]
      rw [e]
      clear e hc
      generalize i % len = q1 at *
      generalize (i + 1) % len = q2 at *
      generalize i / len = q3 at *
      go_enter Tryz.func6, Tryz.ntmps6
      go_wp2
      go_region
      go_wp2
      go_ret
      exact ⟨rfl, (Below.refl _ _).drew⟩
end Go.Proofs.YtgpmpfikeindfaaGreatDoor
