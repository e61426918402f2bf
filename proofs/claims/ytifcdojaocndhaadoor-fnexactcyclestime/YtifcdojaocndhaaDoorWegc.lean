/- What a port reads of a machine. -/
import Derived.Test.YtifcdojaocndhaaDoorWadc
import Derived.Test.YtifcdojaocndhaaDoorC34
import Derived.Test.YtifcdojaocndhaaDoorWaac
import Derived.Test.YtifcdojaocndhaaDoorC06
import Derived.Test.YtifcdojaocndhaaDoorOfc
import Derived.Test.YtifcdojaocndhaaDoorC08
import Derived.Test.YtifcdojaocndhaaDoorC10
import Derived.Test.YtifcdojaocndhaaDoorC20
import Derived.Test.YtifcdojaocndhaaDoorC32
import Derived.Test.YtifcdojaocndhaaDoorC16
namespace Go.Proofs.YtifcdojaocndhaaDoor
open Go.ChangeShapes Go.WideShapes Go.ChangeAt Go.RowKit
set_option linter.unusedVariables false
set_option linter.unusedSimpArgs false

theorem fetI_bd {t : Int} (h0 : 0 ≤ t) (h1 : t ≤ 639) (h : fetI t ≠ -1) : 0 ≤ fetI t ∧ fetI t ≤ 63 := by
  revert h
  unfold fetI scrI inB
  split
  · rename_i hh
    obtain ⟨h2, h3⟩ := hh
    simp only [Bool.and_eq_true, decide_eq_true_eq] at h2
    intro _
    omega
  · intro hh; exact absurd rfl hh
theorem kind2_at {n : Nat} (hn : n < 256) : kind2 n = .tuple #[.int .i64 (kindN n : Nat), .int .i64 0] := by
  unfold kind2
  rw [if_pos (by simp [inB]; omega), Int.toNat_natCast]
theorem kindN_lt (n : Nat) : kindN n < 6 := by
  unfold kindN
  cases ptN n 0 <;> cases ptN n 1 <;> cases ptN n 2 <;> cases ptN n 3 <;> cases ptN n 4 <;> simp
theorem sg_regs {W : World} {b : Nat} {x : Mc} {vr vm vd ve : Value} (q : Blk W b (mcA x vr vm vd ve)) (s : Nat) (hs : s < 8) : W.cell? ⟨b, 31 + s, none⟩ = some (.int .i64 (x.g.reg s)) := by
  rcases (by omega : s = 0 ∨ s = 1 ∨ s = 2 ∨ s = 3 ∨ s = 4 ∨ s = 5 ∨ s = 6 ∨ s = 7) with rfl | rfl | rfl | rfl | rfl | rfl | rfl | rfl
  all_goals exact q.cell _
/-- the byte that the screen fetches, where it lies -/
theorem scr_at {W : World} {x : Mc} {vr vm : Value} (h : MemR W (memV vr vm x.m.page x.m.screen x.m.locked) x.m) (hk : okM x.m = true) {k : Nat} (hk64 : k < 64) : ∃ (j : Nat) (b off cap b3 off3 cap3 : Nat) (zz : List Int), x.m.screen = j ∧ j < 4 ∧ x.m.ram.length = 4 ∧ vm = .slice (some ⟨b, off, none⟩) 4 cap ∧ zz.length = 64 ∧ zz = x.m.ram.getD j [] ∧ W.cell? ⟨b, off + j, none⟩ = some (.slice (some ⟨b3, off3, none⟩) 64 cap3) ∧ W.cell? ⟨b3, off3 + k, none⟩ = some (.int .i64 (zz.getD k 0)) := by
  obtain ⟨hp1, hp2, hp3, hp4, hp5⟩ := ok_parts hk
  obtain ⟨ur, um, e, h1, h2⟩ := h
  simp only [memV, Value.agg.injEq, Array.mk.injEq, List.cons.injEq] at e
  obtain ⟨rfl, rfl, _⟩ := e
  obtain ⟨a2, p2, rfl, _⟩ := id h2
  obtain ⟨j, hj⟩ : ∃ j : Nat, x.m.screen = (j : Int) := ⟨x.m.screen.toNat, by omega⟩
  have hj4 : j < x.m.ram.length := by omega
  have hrow := bytes_len (hp5 j hj4)
  obtain ⟨b, off, a3, p3, rfl, c1, hb, r3⟩ := rows_at h2 hj4
  obtain ⟨b3, off3, rfl, c3, hb3⟩ := row_at r3 (k := k) (by omega)
  rw [hrow] at c1
  rw [hp2]
  exact ⟨j, b, off, p2, b3, off3, p3, _, hj, by omega, rfl, rfl, hrow, rfl, c1, c3⟩
theorem portM_0 {x : Mc} {n : Nat} (h : kindN n = 0) : portM x n = ((readN (fun k => (x.p.key k).toNat) x.c.r7.toNat x.d.level : Nat) : Int) := by unfold portM; rw [if_pos h]
theorem portM_1 {x : Mc} {n : Nat} (h : kindN n = 1) : portM x n = x.p.joy := by unfold portM; rw [if_neg (by omega), if_pos h]
theorem portM_3 {x : Mc} {n s : Nat} (h : kindN n = 3) (hs : x.g.sel = s) : portM x n = x.g.reg s := by unfold portM; rw [if_neg (by omega), if_neg (by omega), if_pos h, hs, Int.toNat_natCast]
theorem portM_5 {x : Mc} {n : Nat} (h0 : kindN n ≠ 0) (h1 : kindN n ≠ 1) (h3 : kindN n ≠ 3) (t0 : 0 ≤ x.t) (t1 : x.t ≤ 639) (h : fetI x.t = -1) : portM x n = 255 := by
  unfold portM
  rw [if_neg h0, if_neg h1, if_neg h3, show x.t % 640 = x.t by omega, if_pos h]
theorem portM_6 {x : Mc} {n k j : Nat} (h0 : kindN n ≠ 0) (h1 : kindN n ≠ 1) (h3 : kindN n ≠ 3) (t0 : 0 ≤ x.t) (t1 : x.t ≤ 639) (h : fetI x.t = k) (hj : x.m.screen = j) : portM x n = (x.m.ram.getD j []).getD k 0 := by
  unfold portM
  rw [if_neg h0, if_neg h1, if_neg h3, show x.t % 640 = x.t by omega, if_neg (by omega), h, hj]
  rfl
theorem cu_r7 {c : Cu} (h : okC c = true) : 0 ≤ c.r7 ∧ c.r7 ≤ 255 := by
  have h7 : inB c.r7 0 255 = true := by
    cases hq : inB c.r7 0 255
    · rw [regs_no (k := 7) (by decide) hq] at h; cases h
    · rfl
  simpa [inB] using h7
theorem ret_intM {a b : Int} (h : a = b) : Ending.returned (.int .i64 a) = Ending.returned (.int .i64 b) := by rw [h]
theorem kind_else {n : Nat} (h0 : kindN n ≠ 0) (h1 : kindN n ≠ 1) (h3 : kindN n ≠ 3) : kindN n = 2 ∨ kindN n = 4 ∨ kindN n = 5 := by
  have := kindN_lt n
  omega
set_option maxRecDepth 100000 in
set_option maxHeartbeats 4000000 in
theorem lport_spec {p : Nat → Bool} (x : Mc) (v : Value) (n : Nat) (w : World) (h : MacR p w v x) (hw : WkM x) (ht : x.t ≤ 639) (hn : n < 256) : Calls Tryd.prog 67 #[v, .int .i64 (n : Int)] w fun r w' => r = .returned (.int .i64 (portM x n)) ∧ Below w.heap.size w w' := by
  obtain ⟨vr, vm, vd, ve, rfl, hm, hd, he⟩ := h
  have hL := hid (MLk.start hm (RowR.mono hd (veil_le w p)) he.unveil 41)
  have hK := hid (fun W => (kind_spec (n : Int) W))
  rw [kind2_at hn] at hK
  have ht0 := hw.t.1
  have hkey := hid (fun k (hk : k < 8) => (show x.p.key k = ((fun k => (x.p.key k).toNat) k : Nat) ∧ (fun k => (x.p.key k).toNat) k < 32 from by have := ((okPo_iff x.p).1 hw.p).1 k hk; constructor <;> simp only [] <;> omega))
  have h7 := hid (show x.c.r7 = (x.c.r7.toNat : Nat) ∧ x.c.r7.toNat < 256 from by have := cu_r7 hw.c; constructor <;> omega)
  replace hw := hid hw
  clear hm hd he
  go_enter Tryd.func67, Tryd.ntmps67
  go_upto_region 1 with fail
  obtain ⟨V, hV⟩ : ∃ V, w.alloc (Obj.cells (mcA x vr vm vd ve) 41) = V := ⟨_, rfl⟩
  rw [hV] at hL ⊢
  clear hV
  go_wp2_with fail
  refine (hK.out _).mono ?_
  rintro r w1 ⟨rfl, hb⟩
  have hL := hid (hL.out.below hb)
  clear hb hK
  by_cases k0 : kindN n = 0
  · obtain ⟨z, hz⟩ : ∃ z, x.c.r7.toNat = z := ⟨_, rfl⟩
    have hR := hid (portM_0 (x := x) k0)
    rw [hz] at h7 hR
    clear hz
    rw [k0]
    have x1 := hid (mc_po hL.out.q)
    have x2 : _ = some (Value.int .i64 x.c.r7) := hL.out.q.cell 7
    have x3 : _ = some (Value.bool x.d.level) := hL.out.q.cell 51
    rw [h7.out.1] at x2
    go_wp2_with (refine wpList_load_mid rfl 32 _ rfl w.heap.size 19 rfl (poA x.p).toList _ x1.out Tryd.underlying32 rfl (szPo x.p) ?_)
    refine (keys_spec x.p (fun k => (x.p.key k).toNat) z x.d.level _ hkey.out h7.out.2).mono ?_
    rintro r w2 ⟨rfl, hb⟩
    have hB := hid (new_trans hL.out.bel hb)
    clear hb x1 x2 x3
    go_wp2
    go_ret
    exact ⟨ret_intM hR.out.symm, hB.out⟩
  by_cases k1 : kindN n = 1
  · have hR := hid (portM_1 (x := x) k1)
    rw [k1]
    have x1 : _ = some (Value.int .i64 x.p.joy) := hL.out.q.cell 27
    go_wp2
    go_ret
    exact ⟨ret_intM hR.out.symm, hL.out.bel⟩
  by_cases k3 : kindN n = 3
  · obtain ⟨s, hs, hs8⟩ := okS_sel hw.out.g
    have hR := hid (portM_3 (x := x) k3 hs)
    rw [k3]
    have x1 : _ = some (Value.int .i64 x.g.sel) := hL.out.q.cell 39
    have x2 := sg_regs hL.out.q s hs8
    rw [hs] at x1
    go_wp2
    go_ret
    exact ⟨ret_intM hR.out.symm, hL.out.bel⟩
  have hke := kind_else k0 k1 k3
  have x1 : _ = some (Value.int .i64 x.t) := hL.out.q.cell 53
  by_cases hf : fetI x.t = -1
  · have hR := hid (portM_5 (x := x) k0 k1 k3 ht0 ht hf)
    clear k0 k1 k3
    rcases hke with hke | hke | hke
    all_goals
      rw [hke]
      go_wp2_with fail
      refine (fetch_spec x.t _ ht0 ht).mono ?_
      rintro r w2 ⟨rfl, rfl⟩
      rw [hf]
      go_wp2
      go_ret
      exact ⟨ret_intM hR.out.symm, hL.out.bel⟩
  · have hfb := fetI_bd ht0 ht hf
    obtain ⟨k, hk⟩ : ∃ k : Nat, fetI x.t = (k : Int) := ⟨(fetI x.t).toNat, by omega⟩
    obtain ⟨j, b, off, cap, b3, off3, cap3, zz, hj, hj4, hrl, rfl, hzl, hzz, c1, c3⟩ := scr_at hL.out.m hw.out.m (k := k) (by omega)
    have hR := portM_6 (x := x) k0 k1 k3 ht0 ht hk hj
    rw [← hzz] at hR
    clear hzz k0 k1 k3 hf
    have hk64 : k < 64 := by omega
    have hnk : ¬ ((k : Int) < 0) := by omega
    have x2 : _ = some (Value.int .i64 x.m.screen) := hL.out.q.cell 17
    have x3 : _ = some (Value.slice (some ⟨b, off, none⟩) 4 cap) := hL.out.q.cell 15
    rw [hj] at x2
    generalize zz.getD k 0 = z at *
    replace hR := hid hR
    rcases hke with hke | hke | hke
    all_goals
      rw [hke]
      go_wp2_with fail
      refine (fetch_spec x.t _ ht0 ht).mono ?_
      rintro r w2 ⟨rfl, rfl⟩
      rw [hk]
      go_wp2
      go_ret
      exact ⟨ret_intM hR.out.symm, hL.out.bel⟩
set_option maxRecDepth 100000 in
set_option maxHeartbeats 4000000 in
theorem fetched_impl {p : Nat → Bool} (x : Mc) (v : Value) (w : World) (h : MacR p w v x) (hw : WkM x) (ht : x.t ≤ 639) (hF : FPat w) : Calls Tryd.prog 125 #[v] w fun r w' => r = .returned (.int .i64 (if fetI x.t = -1 then 255 else (x.m.ram.getD x.m.screen.toNat []).getD (fetI x.t).toNat 0)) ∧ Below w.heap.size w w' := by
  obtain ⟨vr, vm, vd, ve, rfl, hm, hd, he⟩ := h
  have hL := hid (MLk.start hm (RowR.mono hd (veil_le w p)) he.unveil 41)
  have ht0 := hw.t.1
  have hI := hid (fun W (hb : Below w.heap.size w W) => fetch_impl x.t W (fpat_below hF hb))
  have h2 : fet2 x.t = .tuple #[.int .i64 (fetI x.t), .int .i64 0] := by
    unfold fet2
    rw [if_pos (by simp [inB]; omega)]
  rw [h2] at hI
  clear hm hd he h2 hF
  generalize hZ : (if fetI x.t = -1 then 255 else (x.m.ram.getD x.m.screen.toNat []).getD (fetI x.t).toNat 0) = Z
  go_enter Tryd.func125, Tryd.ntmps125
  go_upto_region 1 with fail
  obtain ⟨V, hV⟩ : ∃ V, w.alloc (Obj.cells (mcA x vr vm vd ve) 41) = V := ⟨_, rfl⟩
  rw [hV] at hL ⊢
  clear hV
  have x1 : _ = some (Value.int .i64 x.t) := hL.out.q.cell 53
  by_cases hf : fetI x.t = -1
  · rw [if_pos hf] at hZ
    replace hZ := hid hZ
    rw [hf] at hI
    replace hw := hid hw
    clear hf
    go_wp2_with fail
    refine (hI.out _ hL.out.bel).mono ?_
    rintro r w2 ⟨rfl, rfl⟩
    go_wp2
    go_ret
    exact ⟨ret_intM hZ.out, hL.out.bel⟩
  · have hfb := fetI_bd ht0 ht hf
    rw [if_neg hf] at hZ
    obtain ⟨k, hk⟩ : ∃ k : Nat, fetI x.t = (k : Int) := ⟨(fetI x.t).toNat, by omega⟩
    obtain ⟨j, b, off, cap, b3, off3, cap3, zz, hj, hj4, hrl, rfl, hzl, hzz, c1, c3⟩ := scr_at hL.out.m hw.m (k := k) (by omega)
    rw [hk, hj, Int.toNat_natCast, Int.toNat_natCast, ← hzz] at hZ
    rw [hk] at hI
    have hk64 : k < 64 := by omega
    have hnk : ¬ ((k : Int) = -1) := by omega
    have x2 : _ = some (Value.int .i64 x.m.screen) := hL.out.q.cell 17
    have x3 : _ = some (Value.slice (some ⟨b, off, none⟩) 4 cap) := hL.out.q.cell 15
    rw [hj] at x2
    clear hzz hf hfb hk hj hrl hzl hw
    generalize zz.getD k 0 = z at *
    replace hZ := hid hZ
    go_wp2_with fail
    refine (hI.out _ hL.out.bel).mono ?_
    rintro r w2 ⟨rfl, rfl⟩
    clear hI
    go_wp2
    go_ret
    exact ⟨ret_intM hZ.out, hL.out.bel⟩
theorem portM_7 {x : Mc} {n : Nat} (h0 : kindN n ≠ 0) (h1 : kindN n ≠ 1) (h3 : kindN n ≠ 3) (t0 : 0 ≤ x.t) (t1 : x.t ≤ 639) : portM x n = if fetI x.t = -1 then 255 else (x.m.ram.getD x.m.screen.toNat []).getD (fetI x.t).toNat 0 := by
  unfold portM
  rw [if_neg h0, if_neg h1, if_neg h3, show x.t % 640 = x.t by omega]
set_option maxRecDepth 100000 in
set_option maxHeartbeats 4000000 in
theorem port_implM {p : Nat → Bool} (x : Mc) (v : Value) (n : Nat) (w : World) (h : MacR p w v x) (hw : WkM x) (ht : x.t ≤ 639) (hn : n < 256) (hP : PBit w) (hF : FPat w) : Calls Tryd.prog 69 #[v, .int .i64 (n : Int)] w fun r w' => r = .returned (.int .i64 (portM x n)) ∧ Below w.heap.size w w' := by
  obtain ⟨vr, vm, vd, ve, rfl, hm, hd, he⟩ := h
  have hL := hid (MLk.start hm (RowR.mono hd (veil_le w p)) he.unveil 41)
  have hK := hid (fun W => (kind_impl (n : Int) W))
  rw [kind2_at hn] at hK
  have hR0 : Hid (kindN n = 0 → read2 x.p x.c.r7 x.d.level = (portM x n, 0)) := fun k0 => by
    have h7 := cu_r7 hw.c
    rw [portM_0 k0]
    unfold read2
    rw [if_pos hw.p, if_pos (by simp [inB]; omega)]
  have hR3 : Hid (kindN n = 3 → readS2 x.g = (portM x n, 0)) := fun k3 => by
    obtain ⟨s, hs, hs8⟩ := okS_sel hw.g
    rw [portM_3 k3 hs]
    unfold readS2
    rw [if_pos hw.g, hs, Int.toNat_natCast]
  have hKe := hid (fun W (hb : Below w.heap.size w W) => readk_impl x.p x.c.r7 x.d.level W)
  have hSg := hid (fun W (hb : Below w.heap.size w W) => rreg_impl x.g W (PBit.below hP hb))
  have hFe := hid (fun W (hq : MLk w W x vr vm vd ve) => fetched_impl (p := fun _ => false) x (mcV x vr vm vd ve) W ⟨vr, vm, vd, ve, rfl, hq.m, hq.d.mono (fun b i u hu => by rw [veil_cell]; exact hu), hq.e.mono (fun b i u hu => by rw [veil_cell]; exact hu)⟩ hw ht (fpat_below hF hq.bel))
  have ht0 := hw.t.1
  replace hw := hid hw
  clear hm hd he hP hF
  go_enter Tryd.func69, Tryd.ntmps69
  go_upto_region 1 with fail
  obtain ⟨V, hV⟩ : ∃ V, w.alloc (Obj.cells (mcA x vr vm vd ve) 41) = V := ⟨_, rfl⟩
  rw [hV] at hL ⊢
  clear hV
  go_wp2_with fail
  refine (hK.out _).mono ?_
  rintro r w1 ⟨rfl, hb⟩
  have hL := hid (hL.out.below hb)
  clear hb hK
  by_cases k0 : kindN n = 0
  · have hR := hR0.out k0
    rw [hR] at hKe
    clear hR hR3 hSg hFe
    rw [k0]
    have x1 := hid (mc_po hL.out.q)
    have x2 : _ = some (Value.int .i64 x.c.r7) := hL.out.q.cell 7
    have x3 : _ = some (Value.bool x.d.level) := hL.out.q.cell 51
    go_wp2_with (refine wpList_load_mid rfl 32 _ rfl w.heap.size 19 rfl (poA x.p).toList _ x1.out Tryd.underlying32 rfl (szPo x.p) ?_)
    refine (hKe.out _ hL.out.bel).mono ?_
    rintro r w2 ⟨rfl, hb⟩
    have hB := hid (new_trans hL.out.bel hb)
    clear hb x1 x2 x3
    go_wp2
    go_ret
    exact ⟨rfl, hB.out⟩
  by_cases k1 : kindN n = 1
  · have hR := hid (portM_1 (x := x) k1)
    rw [k1]
    have x1 : _ = some (Value.int .i64 x.p.joy) := hL.out.q.cell 27
    go_wp2
    go_ret
    exact ⟨ret_intM hR.out.symm, hL.out.bel⟩
  by_cases k3 : kindN n = 3
  · have hR := hR3.out k3
    rw [hR] at hSg
    clear hR hR0 hKe hFe
    rw [k3]
    have x1 := hid (mc_sg hL.out.q)
    go_wp2_with (refine wpList_load_mid rfl 36 _ rfl w.heap.size 31 rfl (sgA x.g).toList _ x1.out Tryd.underlying36 rfl (szSg x.g) ?_)
    refine (hSg.out _ hL.out.bel).mono ?_
    rintro r w2 ⟨rfl, hb⟩
    have hB := hid (new_trans hL.out.bel hb)
    clear hb x1
    go_wp2
    go_ret
    exact ⟨rfl, hB.out⟩
  have hke := kind_else k0 k1 k3
  have hR := portM_7 (x := x) k0 k1 k3 ht0 ht
  rw [← hR] at hFe
  clear hR hR0 hR3 hKe hSg k0 k1 k3
  have x1 := hid (mc_all hL.out.q)
  rcases hke with hke | hke | hke
  all_goals
    rw [hke]
    go_wp2_with (refine wpList_load_mid rfl 41 _ rfl w.heap.size 0 rfl (mcA x vr vm vd ve).toList _ x1.out Tryd.underlying41 rfl (szMc _ _ _ _ _) ?_)
    refine (hFe.out _ hL.out).mono ?_
    rintro r w2 ⟨rfl, hb⟩
    have hB := hid (new_trans hL.out.bel hb)
    clear hb x1
    go_wp2
    go_ret
    exact ⟨rfl, hB.out⟩
end Go.Proofs.YtifcdojaocndhaaDoor
