/- NewMachine, both sides: the walks. -/
import Derived.Test.YtifcdojaocndhaaDoorWicm
namespace Go.Proofs.YtifcdojaocndhaaDoor
open Go.ChangeShapes Go.WideShapes Go.ChangeAt Go.RowKit Go.Joins
set_option linter.unusedVariables false
set_option linter.unusedSimpArgs false

theorem rdom0 {a : Option Addr} {c b : Nat} : ¬ rdom (.slice a 0 c) b := by
  rintro ⟨n, c', e⟩
  injection e with _ e2 _
  omega
theorem OwnI.mono {base base' : Nat} {W : World} {v : Value} {P : List Int} (h : OwnI base W v P) (hb : base' ≤ base) : OwnI base' W v P := by
  rcases h with h | ⟨g, hg, h⟩
  · exact .inl h
  · exact .inr ⟨g, by omega, h⟩
theorem newmac_zero {w W : World} (hb : Below w.heap.size w W) (hz : w.heap.size < W.heap.size) : NewMac w W w.heap.size W.heap.size mc0 nlV nlV nlV nlV :=
  ⟨⟨MemO.zero _ _ _, .inl ⟨rfl, _, _, rfl⟩, .inl ⟨rfl, _, _, rfl⟩, Nat.le_refl _, fun b hb => absurd hb rdom0, fun b hb => absurd hb rdom0, fun b hb => absurd hb rdom0⟩, hz, Nat.le_refl _, fun b hb => absurd hb rdom0, fun b hb => absurd hb rdom0, hb⟩
theorem newmac_full {w W : World} {lo hi : Nat} {M : Mem} {d : Dk} {vr vm vd ve : Value} (hm : MemO W lo hi (memV vr vm M.page M.screen M.locked) M) (hd : OwnI hi W vd d.pulses) (he : ∃ a c, ve = .slice a 0 c) (h1 : w.heap.size ≤ lo) (hz : lo < hi) (hh : hi ≤ W.heap.size) (hb : Below w.heap.size w W) : NewMac w W lo hi (nmX M d) vr vm vd ve := by
  obtain ⟨a, c, rfl⟩ := he
  exact ⟨⟨hm, hd.weak, .inl ⟨rfl, a, c, rfl⟩, hh, fun b hb => by have := (hd.dom hb).1; omega, fun b hb => absurd hb rdom0, fun b _ hb => absurd hb rdom0⟩, hz, h1, fun b hb => by have := (hd.dom hb).1; omega, fun b hb => absurd hb rdom0, hb⟩
theorem OutD.below {O : Nat} {w W W' : World} (h : Below w.heap.size w W) (ho : OutD (fun b => b = O) W W') (hO : w.heap.size ≤ O) : Below w.heap.size w W' :=
  ⟨ho.os.trans h.os, ho.tape.trans h.tape, ho.output.trans h.output, Nat.le_trans h.size ho.size, fun b hb => (ho.block b (Nat.lt_of_lt_of_le hb h.size) (by omega)).trans (h.block b hb)⟩
theorem PBit.outD {O : Nat} {W W' : World} (h : PBit W) (ho : OutD (fun b => b = O) W W') (hn : 0 ≠ O) : PBit W' := fun i hi => by
  rw [World.cell?_of_block (a := ⟨0, i, none⟩) (ho.block _ h.lt hn)]
  exact h i hi
def newMc0 (s : ByteArray) (l : List (Int × ByteArray)) : Mc × Int := if newC s = 0 then (if (new2 l).2 = 0 then (nmX (newM s) (new2 l).1, 0) else (mc0, (new2 l).2)) else (mc0, newC s)
def newMc (s : ByteArray) (l : List (Int × ByteArray)) : Mc × Int := if 65536 < s.size ∨ 4096 < l.length then (mc0, 2) else newMc0 s l
def AnsMac (w : World) (x : Mc) (c : Int) (r : Ending) (w' : World) : Prop := ∃ lo hi vr vm vd ve, r = .returned (.tuple #[mcV x vr vm vd ve, .int .i64 c]) ∧ NewMac w w' lo hi x vr vm vd ve
theorem newcpu_spec (w : World) : Calls Tryd.prog 75 #[] w fun e w' => e = .returned (cuV cuNew) ∧ Below w.heap.size w w' := by
  go_enter Tryd.func75, Tryd.ntmps75
  go_wp2
  exact bodyPost_ret (v := cuV cuNew) (by simp [results, Tryd.results75, go_sem, cuNew]) rfl ⟨rfl, (Below.refl _ _).alloc (Nat.le_refl _) _⟩
theorem newcpu_impl (w : World) : Calls Tryd.prog 32 #[] w fun e w' => e = .returned (cuV cuNew) ∧ Below w.heap.size w w' := by
  go_enter Tryd.func32, Tryd.ntmps32
  go_wp2
  exact bodyPost_ret (v := cuV cuNew) (by simp [results, Tryd.results32, go_sem, cuNew]) rfl ⟨rfl, (Below.refl _ _).alloc (Nat.le_refl _) _⟩
set_option maxRecDepth 100000 in
set_option maxHeartbeats 4000000 in
theorem lnew_spec (s : ByteArray) (a : Option Addr) (cap : Nat) (l : List (Int × ByteArray)) (w : World) (hs : s.size ≤ maxLen) (hR : BkR w a l) (hl : l.length ≤ 1048576) (hsz : ∀ y ∈ l, y.2.size ≤ maxLen) : Calls Tryd.prog 28 #[.string s, .slice a l.length cap] w (AnsMac w (newMc0 s l).1 (newMc0 s l).2) := by
  have q0 := hid (Blk.new w mcZ 41)
  have hB0 := hid ((Below.refl w.heap.size w).alloc (Nat.le_refl _) (.cells mcZ 41))
  have hR' := hid (fun W (hb : Below w.heap.size w W) => hR.below hb)
  have hN := hid (fun W => new_spec s W hs)
  have hD := hid (fun W (hb : Below w.heap.size w W) => newd_spec a cap l W (hR.below hb) hl hsz)
  clear hR hsz
  obtain ⟨C, hC9⟩ : ∃ C, newC s = C := ⟨_, rfl⟩
  obtain ⟨M, hM9⟩ : ∃ M, newM s = M := ⟨_, rfl⟩
  obtain ⟨D, hD9⟩ : ∃ D, (new2 l).1 = D := ⟨_, rfl⟩
  obtain ⟨C2, hC29⟩ : ∃ C2, (new2 l).2 = C2 := ⟨_, rfl⟩
  have hans : newMc0 s l = if C = 0 then (if C2 = 0 then (nmX M D, 0) else (mc0, C2)) else (mc0, C) := by unfold newMc0; rw [hC9, hM9, hD9, hC29]
  rw [hC9, hM9] at hN
  rw [hD9, hC29] at hD
  rw [hans]
  clear hC9 hM9 hD9 hC29 hans
  by_cases hc : C = 0
  rotate_left
  · rw [if_neg hc]
    have hcn : (C != 0) = true := by simpa using hc
    clear hc hD
    go_enter Tryd.func28, Tryd.ntmps28
    go_upto_region 1 with fail
    obtain ⟨V, hV⟩ : ∃ V, w.alloc (.cells mcZ 41) = V := ⟨_, rfl⟩
    rw [hV] at q0 hB0 ⊢
    clear hV
    go_wp2_with fail
    refine (hN.out _).mono ?_
    rintro e w1 ⟨u, rfl, hm, hb⟩
    obtain ⟨b1, p1, b2, p2, rfl, _, _⟩ := hm.reads.form
    have hbx := (Below.refl w1.heap.size w1).alloc (Nat.le_refl _) (.cells #[.slice b1 M.rom.length p1, .slice b2 M.ram.length p2, .int .i64 M.page, .int .i64 M.screen, .bool M.locked] 30)
    have q6 := Blk.new w1 #[.slice b1 M.rom.length p1, .slice b2 M.ram.length p2, .int .i64 M.page, .int .i64 M.screen, .bool M.locked] 30
    have q1 := (q0.out.below hb q0.out.lt).below hbx (Nat.lt_of_lt_of_le q0.out.lt hb.size)
    have hm1 := hm.below hbx (Nat.le_refl _)
    have hB1 := new_trans (new_trans hB0.out hb) hbx
    have hz0 := q0.out.lt
    have hz1 := hb.size
    have hz2 : (w1.alloc (.cells #[.slice b1 M.rom.length p1, .slice b2 M.ram.length p2, .int .i64 M.page, .int .i64 M.screen, .bool M.locked] 30)).heap.size = w1.heap.size + 1 := by simp
    obtain ⟨b6, hb6⟩ : ∃ b, w1.heap.size = b := ⟨_, rfl⟩
    obtain ⟨W1, hW1⟩ : ∃ W, w1.alloc (.cells #[.slice b1 M.rom.length p1, .slice b2 M.ram.length p2, .int .i64 M.page, .int .i64 M.screen, .bool M.locked] 30) = W := ⟨_, rfl⟩
    rw [hb6] at q6 hm1 hz1 hz2
    rw [hW1] at q6 q1 hm1 hB1 hz2
    clear hm hb hbx hN
    go_upto_region 2 with fail
    (try rw [hb6])
    (try rw [hW1])
    clear hb6 hW1
    have q1 := hid q1
    have q6 := hid q6
    have hm1 := hid hm1
    have hB1 := hid hB1
    replace hz0 := hid hz0
    replace hz1 := hid hz1
    replace hz2 := hid hz2

    have qy := q1.out
    rw [mcZ_eq] at qy
    have qth := hid (mc_there qy (o := 0) (n := (mcA mc0 nlV nlV nlV nlV).size) (by show 0 + 58 ≤ 58; omega))
    go_wp2_with (guard_target = wpList _ _ _ (Oper.mk _ (Op.store 41 _ _) _ _ _ _ :: _) _ _; refine wpList_store_mid rfl 41 _ _ rfl w.heap.size 0 (mcA mc0 nlV nlV nlV nlV) rfl rfl qth.out (szMcA mc0 nlV nlV nlV nlV) (mc_oneV mc0 rfl rfl rfl rfl) ?_)
    have qz := lay_blk w.heap.size (mcA mc0 nlV nlV nlV nlV).toList _ 0 _ qy
    rw [mlay_x] at qz
    obtain ⟨tt, ht⟩ := qz
    have hbz := lay_below (mcA mc0 nlV nlV nlV nlV).toList 0 _ (Nat.le_refl _) hB1.out
    refine bodyPost_ret (v := .tuple #[.agg (mcA mc0 nlV nlV nlV nlV), .int .i64 C]) (results_cell_tmp Tryd.results28 _ _ w.heap.size tt (mcA mc0 nlV nlV nlV nlV) (0, 0) _ _ rfl rfl ht Tryd.underlying41 rfl (szMcA _ _ _ _ _)) rfl ⟨_, _, _, _, _, _, rfl, newmac_zero hbz (by rw [lay_size]; exact q1.out.lt)⟩
  subst hc
  rw [if_pos rfl]
  by_cases hc : C2 = 0
  rotate_left
  · rw [if_neg hc]
    have hcn : (C2 != 0) = true := by simpa using hc
    clear hc
    go_enter Tryd.func28, Tryd.ntmps28
    go_upto_region 1 with fail
    obtain ⟨V, hV⟩ : ∃ V, w.alloc (.cells mcZ 41) = V := ⟨_, rfl⟩
    rw [hV] at q0 hB0 ⊢
    clear hV
    go_wp2_with fail
    refine (hN.out _).mono ?_
    rintro e w1 ⟨u, rfl, hm, hb⟩
    obtain ⟨b1, p1, b2, p2, rfl, _, _⟩ := hm.reads.form
    have hbx := (Below.refl w1.heap.size w1).alloc (Nat.le_refl _) (.cells #[.slice b1 M.rom.length p1, .slice b2 M.ram.length p2, .int .i64 M.page, .int .i64 M.screen, .bool M.locked] 30)
    have q6 := Blk.new w1 #[.slice b1 M.rom.length p1, .slice b2 M.ram.length p2, .int .i64 M.page, .int .i64 M.screen, .bool M.locked] 30
    have q1 := (q0.out.below hb q0.out.lt).below hbx (Nat.lt_of_lt_of_le q0.out.lt hb.size)
    have hm1 := hm.below hbx (Nat.le_refl _)
    have hB1 := new_trans (new_trans hB0.out hb) hbx
    have hz0 := q0.out.lt
    have hz1 := hb.size
    have hz2 : (w1.alloc (.cells #[.slice b1 M.rom.length p1, .slice b2 M.ram.length p2, .int .i64 M.page, .int .i64 M.screen, .bool M.locked] 30)).heap.size = w1.heap.size + 1 := by simp
    obtain ⟨b6, hb6⟩ : ∃ b, w1.heap.size = b := ⟨_, rfl⟩
    obtain ⟨W1, hW1⟩ : ∃ W, w1.alloc (.cells #[.slice b1 M.rom.length p1, .slice b2 M.ram.length p2, .int .i64 M.page, .int .i64 M.screen, .bool M.locked] 30) = W := ⟨_, rfl⟩
    rw [hb6] at q6 hm1 hz1 hz2
    rw [hW1] at q6 q1 hm1 hB1 hz2
    clear hm hb hbx hN
    go_upto_region 2 with fail
    (try rw [hb6])
    (try rw [hW1])
    clear hb6 hW1
    have q1 := hid q1
    have q6 := hid q6
    have hm1 := hid hm1
    have hB1 := hid hB1
    replace hz0 := hid hz0
    replace hz1 := hid hz1
    replace hz2 := hid hz2
    go_wp2_with fail
    refine (hD.out _ hB1.out).mono ?_
    rintro e w2 ⟨v2, rfl, hG⟩
    have hb := hG.bel
    have hd := OwnI.of hG
    obtain ⟨a2, c2, rfl⟩ := hG.form
    have hbx := (Below.refl w2.heap.size w2).alloc (Nat.le_refl _) (.cells #[.slice a2 D.pulses.length c2, .int .i64 D.index, .int .i64 D.left, .bool D.level, .bool D.plays] 38)
    have q8 := Blk.new w2 #[.slice a2 D.pulses.length c2, .int .i64 D.index, .int .i64 D.left, .bool D.level, .bool D.plays] 38
    have q2 := (q1.out.below hb q1.out.lt).below hbx (Nat.lt_of_lt_of_le q1.out.lt hb.size)
    have q62 := (q6.out.below hb q6.out.lt).below hbx (Nat.lt_of_lt_of_le q6.out.lt hb.size)
    have hm2 : MemO (w2.alloc (.cells #[.slice a2 D.pulses.length c2, .int .i64 D.index, .int .i64 D.left, .bool D.level, .bool D.plays] 38)) V.heap.size W1.heap.size (memV (.slice b1 M.rom.length p1) (.slice b2 M.ram.length p2) M.page M.screen M.locked) M := ((hm1.out.mono (Nat.le_refl _) (by have := hz2.out; omega)).below hb (Nat.le_refl _)).below hbx hb.size
    have hd2 := hd.below hbx
    have hB2 := new_trans (new_trans hB1.out hb) hbx
    have hz3 := hb.size
    have hz4 : (w2.alloc (.cells #[.slice a2 D.pulses.length c2, .int .i64 D.index, .int .i64 D.left, .bool D.level, .bool D.plays] 38)).heap.size = w2.heap.size + 1 := by simp
    obtain ⟨b8, hb8⟩ : ∃ b, w2.heap.size = b := ⟨_, rfl⟩
    obtain ⟨W2, hW2⟩ : ∃ W, w2.alloc (.cells #[.slice a2 D.pulses.length c2, .int .i64 D.index, .int .i64 D.left, .bool D.level, .bool D.plays] 38) = W := ⟨_, rfl⟩
    rw [hb8] at q8 hz3 hz4
    rw [hW2] at q8 q2 q62 hm2 hd2 hB2 hz4
    clear hd hb hbx hD hG q1 q6 hm1 hB1
    go_upto_region 5 with fail
    (try rw [hb8])
    (try rw [hW2])
    clear hb8 hW2
    replace q2 := hid q2
    replace q62 := hid q62
    replace q8 := hid q8
    replace hm2 := hid hm2
    replace hd2 := hid hd2
    replace hB2 := hid hB2
    replace hz3 := hid hz3
    replace hz4 := hid hz4

    have qy := q2.out
    rw [mcZ_eq] at qy
    have qth := hid (mc_there qy (o := 0) (n := (mcA mc0 nlV nlV nlV nlV).size) (by show 0 + 58 ≤ 58; omega))
    go_wp2_with (guard_target = wpList _ _ _ (Oper.mk _ (Op.store 41 _ _) _ _ _ _ :: _) _ _; refine wpList_store_mid rfl 41 _ _ rfl w.heap.size 0 (mcA mc0 nlV nlV nlV nlV) rfl rfl qth.out (szMcA mc0 nlV nlV nlV nlV) (mc_oneV mc0 rfl rfl rfl rfl) ?_)
    have qz := lay_blk w.heap.size (mcA mc0 nlV nlV nlV nlV).toList _ 0 _ qy
    rw [mlay_x] at qz
    obtain ⟨tt, ht⟩ := qz
    have hbz := lay_below (mcA mc0 nlV nlV nlV nlV).toList 0 _ (Nat.le_refl _) hB2.out
    refine bodyPost_ret (v := .tuple #[.agg (mcA mc0 nlV nlV nlV nlV), .int .i64 C2]) (results_cell_tmp Tryd.results28 _ _ w.heap.size tt (mcA mc0 nlV nlV nlV nlV) (0, 0) _ _ rfl rfl ht Tryd.underlying41 rfl (szMcA _ _ _ _ _)) rfl ⟨_, _, _, _, _, _, rfl, newmac_zero hbz (by rw [lay_size]; exact q2.out.lt)⟩
  subst hc
  rw [if_pos rfl]
  go_enter Tryd.func28, Tryd.ntmps28
  go_upto_region 1 with fail
  obtain ⟨V, hV⟩ : ∃ V, w.alloc (.cells mcZ 41) = V := ⟨_, rfl⟩
  rw [hV] at q0 hB0 ⊢
  clear hV
  go_wp2_with fail
  refine (hN.out _).mono ?_
  rintro e w1 ⟨u, rfl, hm, hb⟩
  obtain ⟨b1, p1, b2, p2, rfl, _, _⟩ := hm.reads.form
  have hbx := (Below.refl w1.heap.size w1).alloc (Nat.le_refl _) (.cells #[.slice b1 M.rom.length p1, .slice b2 M.ram.length p2, .int .i64 M.page, .int .i64 M.screen, .bool M.locked] 30)
  have q6 := Blk.new w1 #[.slice b1 M.rom.length p1, .slice b2 M.ram.length p2, .int .i64 M.page, .int .i64 M.screen, .bool M.locked] 30
  have q1 := (q0.out.below hb q0.out.lt).below hbx (Nat.lt_of_lt_of_le q0.out.lt hb.size)
  have hm1 := hm.below hbx (Nat.le_refl _)
  have hB1 := new_trans (new_trans hB0.out hb) hbx
  have hz0 := q0.out.lt
  have hz1 := hb.size
  have hz2 : (w1.alloc (.cells #[.slice b1 M.rom.length p1, .slice b2 M.ram.length p2, .int .i64 M.page, .int .i64 M.screen, .bool M.locked] 30)).heap.size = w1.heap.size + 1 := by simp
  obtain ⟨b6, hb6⟩ : ∃ b, w1.heap.size = b := ⟨_, rfl⟩
  obtain ⟨W1, hW1⟩ : ∃ W, w1.alloc (.cells #[.slice b1 M.rom.length p1, .slice b2 M.ram.length p2, .int .i64 M.page, .int .i64 M.screen, .bool M.locked] 30) = W := ⟨_, rfl⟩
  rw [hb6] at q6 hm1 hz1 hz2
  rw [hW1] at q6 q1 hm1 hB1 hz2
  clear hm hb hbx hN
  go_upto_region 2 with fail
  (try rw [hb6])
  (try rw [hW1])
  clear hb6 hW1
  have q1 := hid q1
  have q6 := hid q6
  have hm1 := hid hm1
  have hB1 := hid hB1
  replace hz0 := hid hz0
  replace hz1 := hid hz1
  replace hz2 := hid hz2
  go_wp2_with fail
  refine (hD.out _ hB1.out).mono ?_
  rintro e w2 ⟨v2, rfl, hG⟩
  have hb := hG.bel
  have hd := OwnI.of hG
  obtain ⟨a2, c2, rfl⟩ := hG.form
  have hbx := (Below.refl w2.heap.size w2).alloc (Nat.le_refl _) (.cells #[.slice a2 D.pulses.length c2, .int .i64 D.index, .int .i64 D.left, .bool D.level, .bool D.plays] 38)
  have q8 := Blk.new w2 #[.slice a2 D.pulses.length c2, .int .i64 D.index, .int .i64 D.left, .bool D.level, .bool D.plays] 38
  have q2 := (q1.out.below hb q1.out.lt).below hbx (Nat.lt_of_lt_of_le q1.out.lt hb.size)
  have q62 := (q6.out.below hb q6.out.lt).below hbx (Nat.lt_of_lt_of_le q6.out.lt hb.size)
  have hm2 : MemO (w2.alloc (.cells #[.slice a2 D.pulses.length c2, .int .i64 D.index, .int .i64 D.left, .bool D.level, .bool D.plays] 38)) V.heap.size W1.heap.size (memV (.slice b1 M.rom.length p1) (.slice b2 M.ram.length p2) M.page M.screen M.locked) M := ((hm1.out.mono (Nat.le_refl _) (by have := hz2.out; omega)).below hb (Nat.le_refl _)).below hbx hb.size
  have hd2 := hd.below hbx
  have hB2 := new_trans (new_trans hB1.out hb) hbx
  have hz3 := hb.size
  have hz4 : (w2.alloc (.cells #[.slice a2 D.pulses.length c2, .int .i64 D.index, .int .i64 D.left, .bool D.level, .bool D.plays] 38)).heap.size = w2.heap.size + 1 := by simp
  obtain ⟨b8, hb8⟩ : ∃ b, w2.heap.size = b := ⟨_, rfl⟩
  obtain ⟨W2, hW2⟩ : ∃ W, w2.alloc (.cells #[.slice a2 D.pulses.length c2, .int .i64 D.index, .int .i64 D.left, .bool D.level, .bool D.plays] 38) = W := ⟨_, rfl⟩
  rw [hb8] at q8 hz3 hz4
  rw [hW2] at q8 q2 q62 hm2 hd2 hB2 hz4
  clear hd hb hbx hD hG q1 q6 hm1 hB1
  go_upto_region 5 with fail
  (try rw [hb8])
  (try rw [hW2])
  clear hb8 hW2
  replace q2 := hid q2
  replace q62 := hid q62
  replace q8 := hid q8
  replace hm2 := hid hm2
  replace hd2 := hid hd2
  replace hB2 := hid hB2
  replace hz3 := hid hz3
  replace hz4 := hid hz4
  go_upto_region 7 with fail
  refine nm_reg _ W2 _ w.heap.size b6 b8 M D (.slice b1 M.rom.length p1) (.slice b2 M.ram.length p2) (.slice a2 D.pulses.length c2) rfl rfl rfl q2.out q62.out q8.out (by have := hz0.out; have := hz1.out; omega) (by have := hz0.out; have := hz1.out; have := hz2.out; have := hz3.out; omega) rfl rfl rfl (fun W hW => newcpu_spec W) (fun W hW => newpo_spec W) (fun W hW => news_spec W) (by simp) ?_
  intro w9 e9 hO9 q9 he9
  simp only [putsA, Act.put, List.setIfInBounds_toArray, List.set_cons_zero, List.set_cons_succ]
  have hm9 := hm2.out.kept (w' := w9) (fun b h0 h1 => hO9.block b (by have := hz3.out; have := hz4.out; omega) (by have := hz0.out; omega))
  have hd9 := hd2.out.kept (W' := w9) (fun b hb => hO9.block b (hd2.out.dom hb).2.lt (by have := (hd2.out.dom hb).1; have := hz0.out; have := hz1.out; have := hz2.out; omega))
  have hB9 := OutD.below hB2.out hO9 (Nat.le_refl _)
  have hN9 := newmac_full (w := w) hm9 hd9 he9 (by have := hz0.out; omega) (by have := hz0.out; have := hz1.out; have := hz2.out; omega) (by have := hO9.size; have := hz3.out; have := hz4.out; omega) hB9
  replace hN9 := hid hN9
  replace q9 := hid q9
  clear hm9 hd9 hB9 hO9 he9 q2 q62 q8 hm2 hd2 hB2
  go_wp2_with fail
  obtain ⟨tt, ht⟩ := q9.out
  exact bodyPost_ret (v := .tuple #[.agg (mcA (nmX M D) (.slice b1 M.rom.length p1) (.slice b2 M.ram.length p2) (.slice a2 D.pulses.length c2) e9), .int .i64 0]) (results_cell_tmp Tryd.results28 _ _ w.heap.size tt _ (0, 0) _ _ rfl rfl ht Tryd.underlying41 rfl (szMcA _ _ _ _ _)) rfl ⟨_, _, _, _, _, _, rfl, hN9.out⟩
set_option maxRecDepth 100000 in
set_option maxHeartbeats 4000000 in
theorem newM_impl (s : ByteArray) (a : Option Addr) (cap : Nat) (l : List (Int × ByteArray)) (w : World) (hs : s.size ≤ maxLen) (hR : BkR w a l) (hl : l.length ≤ 1048576) (hsz : ∀ y ∈ l, y.2.size ≤ maxLen) (hT : Tim w) (hg : 3 < w.heap.size) (hB : PBit w) : Calls Tryd.prog 10 #[.string s, .slice a l.length cap] w (AnsMac w (newMc s l).1 (newMc s l).2) := by
  have q0 := hid (Blk.new w mcZ 41)
  have hB0 := hid ((Below.refl w.heap.size w).alloc (Nat.le_refl _) (.cells mcZ 41))
  have hR' := hid (fun W (hb : Below w.heap.size w W) => hR.below hb)
  have hN := hid (fun W => new_impl s W hs)
  have hD := hid (fun W (hb : Below w.heap.size w W) => newd_impl a cap l W (hR.below hb) hl hsz (hT.kept (hb.block _ hg)) (Nat.lt_of_lt_of_le hg hb.size))
  have hBt := hid (fun W (hb : Below w.heap.size w W) => PBit.below hB hb)
  have hBn := hid (show 0 ≠ w.heap.size from by have := hB.lt; omega)
  clear hT hg hB
  clear hR hsz
  by_cases hf : 65536 < s.size ∨ 4096 < l.length
  · have e : newMc s l = (mc0, 2) := by unfold newMc; rw [if_pos hf]
    rw [e]
    clear e hN hD hR' hBt hBn
    have hsi : (s.size : Int) ≤ 9223372036854775807 := by unfold maxLen at hs; omega
    rcases (show (65536 : Int) < (s.size : Int) ∨ (¬ (65536 : Int) < (s.size : Int) ∧ (4096 : Int) < (l.length : Int)) by omega) with h1 | ⟨h1, h2⟩
    all_goals
      go_enter Tryd.func10, Tryd.ntmps10
      go_upto_region 1 with fail
      obtain ⟨V, hV⟩ : ∃ V, w.alloc (.cells mcZ 41) = V := ⟨_, rfl⟩
      rw [hV] at q0 hB0 ⊢
      clear hV
      have qy := q0.out
      rw [mcZ_eq] at qy
      have qth := hid (mc_there qy (o := 0) (n := (mcA mc0 nlV nlV nlV nlV).size) (by show 0 + 58 ≤ 58; omega))
      go_wp2_with (guard_target = wpList _ _ _ (Oper.mk _ (Op.store 41 _ _) _ _ _ _ :: _) _ _; refine wpList_store_mid rfl 41 _ _ rfl w.heap.size 0 (mcA mc0 nlV nlV nlV nlV) rfl rfl qth.out (szMcA mc0 nlV nlV nlV nlV) (mc_oneV mc0 rfl rfl rfl rfl) ?_)
      have qz := lay_blk w.heap.size (mcA mc0 nlV nlV nlV nlV).toList _ 0 _ qy
      rw [mlay_x] at qz
      obtain ⟨tt, ht⟩ := qz
      have hbz := lay_below (mcA mc0 nlV nlV nlV nlV).toList 0 _ (Nat.le_refl _) hB0.out
      refine bodyPost_ret (v := .tuple #[.agg (mcA mc0 nlV nlV nlV nlV), .int .i64 2]) (results_cell_tmp Tryd.results10 _ _ w.heap.size tt (mcA mc0 nlV nlV nlV nlV) (0, 0) _ _ rfl rfl ht Tryd.underlying41 rfl (szMcA _ _ _ _ _)) rfl ⟨_, _, _, _, _, _, rfl, newmac_zero hbz (by rw [lay_size]; exact q0.out.lt)⟩
  have h1 : ¬ (65536 : Int) < (s.size : Int) := by omega
  have h2 : ¬ (4096 : Int) < (l.length : Int) := by omega
  have e0 : newMc s l = newMc0 s l := by unfold newMc; rw [if_neg hf]
  rw [e0]
  clear e0 hf
  obtain ⟨C, hC9⟩ : ∃ C, newC s = C := ⟨_, rfl⟩
  obtain ⟨M, hM9⟩ : ∃ M, newM s = M := ⟨_, rfl⟩
  obtain ⟨D, hD9⟩ : ∃ D, (new2 l).1 = D := ⟨_, rfl⟩
  obtain ⟨C2, hC29⟩ : ∃ C2, (new2 l).2 = C2 := ⟨_, rfl⟩
  have hans : newMc0 s l = if C = 0 then (if C2 = 0 then (nmX M D, 0) else (mc0, C2)) else (mc0, C) := by unfold newMc0; rw [hC9, hM9, hD9, hC29]
  rw [hC9, hM9] at hN
  rw [hD9, hC29] at hD
  rw [hans]
  clear hC9 hM9 hD9 hC29 hans
  by_cases hc : C = 0
  rotate_left
  · rw [if_neg hc]
    have hcn : (C != 0) = true := by simpa using hc
    clear hc hD
    go_enter Tryd.func10, Tryd.ntmps10
    go_upto_region 1 with fail
    obtain ⟨V, hV⟩ : ∃ V, w.alloc (.cells mcZ 41) = V := ⟨_, rfl⟩
    rw [hV] at q0 hB0 ⊢
    clear hV
    go_wp2_with fail
    refine (hN.out _).mono ?_
    rintro e w1 ⟨u, rfl, hm, hb⟩
    obtain ⟨b1, p1, b2, p2, rfl, _, _⟩ := hm.reads.form
    have hbx := (Below.refl w1.heap.size w1).alloc (Nat.le_refl _) (.cells #[.slice b1 M.rom.length p1, .slice b2 M.ram.length p2, .int .i64 M.page, .int .i64 M.screen, .bool M.locked] 30)
    have q6 := Blk.new w1 #[.slice b1 M.rom.length p1, .slice b2 M.ram.length p2, .int .i64 M.page, .int .i64 M.screen, .bool M.locked] 30
    have q1 := (q0.out.below hb q0.out.lt).below hbx (Nat.lt_of_lt_of_le q0.out.lt hb.size)
    have hm1 := hm.below hbx (Nat.le_refl _)
    have hB1 := new_trans (new_trans hB0.out hb) hbx
    have hz0 := q0.out.lt
    have hz1 := hb.size
    have hz2 : (w1.alloc (.cells #[.slice b1 M.rom.length p1, .slice b2 M.ram.length p2, .int .i64 M.page, .int .i64 M.screen, .bool M.locked] 30)).heap.size = w1.heap.size + 1 := by simp
    obtain ⟨b6, hb6⟩ : ∃ b, w1.heap.size = b := ⟨_, rfl⟩
    obtain ⟨W1, hW1⟩ : ∃ W, w1.alloc (.cells #[.slice b1 M.rom.length p1, .slice b2 M.ram.length p2, .int .i64 M.page, .int .i64 M.screen, .bool M.locked] 30) = W := ⟨_, rfl⟩
    rw [hb6] at q6 hm1 hz1 hz2
    rw [hW1] at q6 q1 hm1 hB1 hz2
    clear hm hb hbx hN
    go_upto_region 4 with fail
    (try rw [hb6])
    (try rw [hW1])
    clear hb6 hW1
    have q1 := hid q1
    have q6 := hid q6
    have hm1 := hid hm1
    have hB1 := hid hB1
    replace hz0 := hid hz0
    replace hz1 := hid hz1
    replace hz2 := hid hz2

    have qy := q1.out
    rw [mcZ_eq] at qy
    have qth := hid (mc_there qy (o := 0) (n := (mcA mc0 nlV nlV nlV nlV).size) (by show 0 + 58 ≤ 58; omega))
    go_wp2_with (guard_target = wpList _ _ _ (Oper.mk _ (Op.store 41 _ _) _ _ _ _ :: _) _ _; refine wpList_store_mid rfl 41 _ _ rfl w.heap.size 0 (mcA mc0 nlV nlV nlV nlV) rfl rfl qth.out (szMcA mc0 nlV nlV nlV nlV) (mc_oneV mc0 rfl rfl rfl rfl) ?_)
    have qz := lay_blk w.heap.size (mcA mc0 nlV nlV nlV nlV).toList _ 0 _ qy
    rw [mlay_x] at qz
    obtain ⟨tt, ht⟩ := qz
    have hbz := lay_below (mcA mc0 nlV nlV nlV nlV).toList 0 _ (Nat.le_refl _) hB1.out
    refine bodyPost_ret (v := .tuple #[.agg (mcA mc0 nlV nlV nlV nlV), .int .i64 C]) (results_cell_tmp Tryd.results10 _ _ w.heap.size tt (mcA mc0 nlV nlV nlV nlV) (0, 0) _ _ rfl rfl ht Tryd.underlying41 rfl (szMcA _ _ _ _ _)) rfl ⟨_, _, _, _, _, _, rfl, newmac_zero hbz (by rw [lay_size]; exact q1.out.lt)⟩
  subst hc
  rw [if_pos rfl]
  by_cases hc : C2 = 0
  rotate_left
  · rw [if_neg hc]
    have hcn : (C2 != 0) = true := by simpa using hc
    clear hc
    go_enter Tryd.func10, Tryd.ntmps10
    go_upto_region 1 with fail
    obtain ⟨V, hV⟩ : ∃ V, w.alloc (.cells mcZ 41) = V := ⟨_, rfl⟩
    rw [hV] at q0 hB0 ⊢
    clear hV
    go_wp2_with fail
    refine (hN.out _).mono ?_
    rintro e w1 ⟨u, rfl, hm, hb⟩
    obtain ⟨b1, p1, b2, p2, rfl, _, _⟩ := hm.reads.form
    have hbx := (Below.refl w1.heap.size w1).alloc (Nat.le_refl _) (.cells #[.slice b1 M.rom.length p1, .slice b2 M.ram.length p2, .int .i64 M.page, .int .i64 M.screen, .bool M.locked] 30)
    have q6 := Blk.new w1 #[.slice b1 M.rom.length p1, .slice b2 M.ram.length p2, .int .i64 M.page, .int .i64 M.screen, .bool M.locked] 30
    have q1 := (q0.out.below hb q0.out.lt).below hbx (Nat.lt_of_lt_of_le q0.out.lt hb.size)
    have hm1 := hm.below hbx (Nat.le_refl _)
    have hB1 := new_trans (new_trans hB0.out hb) hbx
    have hz0 := q0.out.lt
    have hz1 := hb.size
    have hz2 : (w1.alloc (.cells #[.slice b1 M.rom.length p1, .slice b2 M.ram.length p2, .int .i64 M.page, .int .i64 M.screen, .bool M.locked] 30)).heap.size = w1.heap.size + 1 := by simp
    obtain ⟨b6, hb6⟩ : ∃ b, w1.heap.size = b := ⟨_, rfl⟩
    obtain ⟨W1, hW1⟩ : ∃ W, w1.alloc (.cells #[.slice b1 M.rom.length p1, .slice b2 M.ram.length p2, .int .i64 M.page, .int .i64 M.screen, .bool M.locked] 30) = W := ⟨_, rfl⟩
    rw [hb6] at q6 hm1 hz1 hz2
    rw [hW1] at q6 q1 hm1 hB1 hz2
    clear hm hb hbx hN
    go_upto_region 4 with fail
    (try rw [hb6])
    (try rw [hW1])
    clear hb6 hW1
    have q1 := hid q1
    have q6 := hid q6
    have hm1 := hid hm1
    have hB1 := hid hB1
    replace hz0 := hid hz0
    replace hz1 := hid hz1
    replace hz2 := hid hz2
    go_wp2_with fail
    refine (hD.out _ hB1.out).mono ?_
    rintro e w2 ⟨v2, rfl, hG⟩
    have hb := hG.bel
    have hd := OwnI.of hG
    obtain ⟨a2, c2, rfl⟩ := hG.form
    have hbx := (Below.refl w2.heap.size w2).alloc (Nat.le_refl _) (.cells #[.slice a2 D.pulses.length c2, .int .i64 D.index, .int .i64 D.left, .bool D.level, .bool D.plays] 38)
    have q8 := Blk.new w2 #[.slice a2 D.pulses.length c2, .int .i64 D.index, .int .i64 D.left, .bool D.level, .bool D.plays] 38
    have q2 := (q1.out.below hb q1.out.lt).below hbx (Nat.lt_of_lt_of_le q1.out.lt hb.size)
    have q62 := (q6.out.below hb q6.out.lt).below hbx (Nat.lt_of_lt_of_le q6.out.lt hb.size)
    have hm2 : MemO (w2.alloc (.cells #[.slice a2 D.pulses.length c2, .int .i64 D.index, .int .i64 D.left, .bool D.level, .bool D.plays] 38)) V.heap.size W1.heap.size (memV (.slice b1 M.rom.length p1) (.slice b2 M.ram.length p2) M.page M.screen M.locked) M := ((hm1.out.mono (Nat.le_refl _) (by have := hz2.out; omega)).below hb (Nat.le_refl _)).below hbx hb.size
    have hd2 := hd.below hbx
    have hB2 := new_trans (new_trans hB1.out hb) hbx
    have hz3 := hb.size
    have hz4 : (w2.alloc (.cells #[.slice a2 D.pulses.length c2, .int .i64 D.index, .int .i64 D.left, .bool D.level, .bool D.plays] 38)).heap.size = w2.heap.size + 1 := by simp
    obtain ⟨b8, hb8⟩ : ∃ b, w2.heap.size = b := ⟨_, rfl⟩
    obtain ⟨W2, hW2⟩ : ∃ W, w2.alloc (.cells #[.slice a2 D.pulses.length c2, .int .i64 D.index, .int .i64 D.left, .bool D.level, .bool D.plays] 38) = W := ⟨_, rfl⟩
    rw [hb8] at q8 hz3 hz4
    rw [hW2] at q8 q2 q62 hm2 hd2 hB2 hz4
    clear hd hb hbx hD hG q1 q6 hm1 hB1
    go_upto_region 7 with fail
    (try rw [hb8])
    (try rw [hW2])
    clear hb8 hW2
    replace q2 := hid q2
    replace q62 := hid q62
    replace q8 := hid q8
    replace hm2 := hid hm2
    replace hd2 := hid hd2
    replace hB2 := hid hB2
    replace hz3 := hid hz3
    replace hz4 := hid hz4

    have qy := q2.out
    rw [mcZ_eq] at qy
    have qth := hid (mc_there qy (o := 0) (n := (mcA mc0 nlV nlV nlV nlV).size) (by show 0 + 58 ≤ 58; omega))
    go_wp2_with (guard_target = wpList _ _ _ (Oper.mk _ (Op.store 41 _ _) _ _ _ _ :: _) _ _; refine wpList_store_mid rfl 41 _ _ rfl w.heap.size 0 (mcA mc0 nlV nlV nlV nlV) rfl rfl qth.out (szMcA mc0 nlV nlV nlV nlV) (mc_oneV mc0 rfl rfl rfl rfl) ?_)
    have qz := lay_blk w.heap.size (mcA mc0 nlV nlV nlV nlV).toList _ 0 _ qy
    rw [mlay_x] at qz
    obtain ⟨tt, ht⟩ := qz
    have hbz := lay_below (mcA mc0 nlV nlV nlV nlV).toList 0 _ (Nat.le_refl _) hB2.out
    refine bodyPost_ret (v := .tuple #[.agg (mcA mc0 nlV nlV nlV nlV), .int .i64 C2]) (results_cell_tmp Tryd.results10 _ _ w.heap.size tt (mcA mc0 nlV nlV nlV nlV) (0, 0) _ _ rfl rfl ht Tryd.underlying41 rfl (szMcA _ _ _ _ _)) rfl ⟨_, _, _, _, _, _, rfl, newmac_zero hbz (by rw [lay_size]; exact q2.out.lt)⟩
  subst hc
  rw [if_pos rfl]
  go_enter Tryd.func10, Tryd.ntmps10
  go_upto_region 1 with fail
  obtain ⟨V, hV⟩ : ∃ V, w.alloc (.cells mcZ 41) = V := ⟨_, rfl⟩
  rw [hV] at q0 hB0 ⊢
  clear hV
  go_wp2_with fail
  refine (hN.out _).mono ?_
  rintro e w1 ⟨u, rfl, hm, hb⟩
  obtain ⟨b1, p1, b2, p2, rfl, _, _⟩ := hm.reads.form
  have hbx := (Below.refl w1.heap.size w1).alloc (Nat.le_refl _) (.cells #[.slice b1 M.rom.length p1, .slice b2 M.ram.length p2, .int .i64 M.page, .int .i64 M.screen, .bool M.locked] 30)
  have q6 := Blk.new w1 #[.slice b1 M.rom.length p1, .slice b2 M.ram.length p2, .int .i64 M.page, .int .i64 M.screen, .bool M.locked] 30
  have q1 := (q0.out.below hb q0.out.lt).below hbx (Nat.lt_of_lt_of_le q0.out.lt hb.size)
  have hm1 := hm.below hbx (Nat.le_refl _)
  have hB1 := new_trans (new_trans hB0.out hb) hbx
  have hz0 := q0.out.lt
  have hz1 := hb.size
  have hz2 : (w1.alloc (.cells #[.slice b1 M.rom.length p1, .slice b2 M.ram.length p2, .int .i64 M.page, .int .i64 M.screen, .bool M.locked] 30)).heap.size = w1.heap.size + 1 := by simp
  obtain ⟨b6, hb6⟩ : ∃ b, w1.heap.size = b := ⟨_, rfl⟩
  obtain ⟨W1, hW1⟩ : ∃ W, w1.alloc (.cells #[.slice b1 M.rom.length p1, .slice b2 M.ram.length p2, .int .i64 M.page, .int .i64 M.screen, .bool M.locked] 30) = W := ⟨_, rfl⟩
  rw [hb6] at q6 hm1 hz1 hz2
  rw [hW1] at q6 q1 hm1 hB1 hz2
  clear hm hb hbx hN
  go_upto_region 4 with fail
  (try rw [hb6])
  (try rw [hW1])
  clear hb6 hW1
  have q1 := hid q1
  have q6 := hid q6
  have hm1 := hid hm1
  have hB1 := hid hB1
  replace hz0 := hid hz0
  replace hz1 := hid hz1
  replace hz2 := hid hz2
  go_wp2_with fail
  refine (hD.out _ hB1.out).mono ?_
  rintro e w2 ⟨v2, rfl, hG⟩
  have hb := hG.bel
  have hd := OwnI.of hG
  obtain ⟨a2, c2, rfl⟩ := hG.form
  have hbx := (Below.refl w2.heap.size w2).alloc (Nat.le_refl _) (.cells #[.slice a2 D.pulses.length c2, .int .i64 D.index, .int .i64 D.left, .bool D.level, .bool D.plays] 38)
  have q8 := Blk.new w2 #[.slice a2 D.pulses.length c2, .int .i64 D.index, .int .i64 D.left, .bool D.level, .bool D.plays] 38
  have q2 := (q1.out.below hb q1.out.lt).below hbx (Nat.lt_of_lt_of_le q1.out.lt hb.size)
  have q62 := (q6.out.below hb q6.out.lt).below hbx (Nat.lt_of_lt_of_le q6.out.lt hb.size)
  have hm2 : MemO (w2.alloc (.cells #[.slice a2 D.pulses.length c2, .int .i64 D.index, .int .i64 D.left, .bool D.level, .bool D.plays] 38)) V.heap.size W1.heap.size (memV (.slice b1 M.rom.length p1) (.slice b2 M.ram.length p2) M.page M.screen M.locked) M := ((hm1.out.mono (Nat.le_refl _) (by have := hz2.out; omega)).below hb (Nat.le_refl _)).below hbx hb.size
  have hd2 := hd.below hbx
  have hB2 := new_trans (new_trans hB1.out hb) hbx
  have hz3 := hb.size
  have hz4 : (w2.alloc (.cells #[.slice a2 D.pulses.length c2, .int .i64 D.index, .int .i64 D.left, .bool D.level, .bool D.plays] 38)).heap.size = w2.heap.size + 1 := by simp
  obtain ⟨b8, hb8⟩ : ∃ b, w2.heap.size = b := ⟨_, rfl⟩
  obtain ⟨W2, hW2⟩ : ∃ W, w2.alloc (.cells #[.slice a2 D.pulses.length c2, .int .i64 D.index, .int .i64 D.left, .bool D.level, .bool D.plays] 38) = W := ⟨_, rfl⟩
  rw [hb8] at q8 hz3 hz4
  rw [hW2] at q8 q2 q62 hm2 hd2 hB2 hz4
  clear hd hb hbx hD hG q1 q6 hm1 hB1
  go_upto_region 7 with fail
  (try rw [hb8])
  (try rw [hW2])
  clear hb8 hW2
  replace q2 := hid q2
  replace q62 := hid q62
  replace q8 := hid q8
  replace hm2 := hid hm2
  replace hd2 := hid hd2
  replace hB2 := hid hB2
  replace hz3 := hid hz3
  replace hz4 := hid hz4
  go_upto_region 9 with fail
  refine ni_reg _ W2 _ w.heap.size b6 b8 M D (.slice b1 M.rom.length p1) (.slice b2 M.ram.length p2) (.slice a2 D.pulses.length c2) rfl rfl rfl q2.out q62.out q8.out (by have := hz0.out; have := hz1.out; omega) (by have := hz0.out; have := hz1.out; have := hz2.out; have := hz3.out; omega) rfl rfl rfl (fun W hW => newcpu_impl W) (fun W hW => newpo_impl W) (fun W hW => newsg_impl W ((hBt.out _ hB2.out).outD hW hBn.out)) (by simp) ?_
  intro w9 e9 hO9 q9
  simp only [putsA, Act.put, List.setIfInBounds_toArray, List.set_cons_zero, List.set_cons_succ]
  have hm9 := hm2.out.kept (w' := w9) (fun b h0 h1 => hO9.block b (by have := hz3.out; have := hz4.out; omega) (by have := hz0.out; omega))
  have hd9 := hd2.out.kept (W' := w9) (fun b hb => hO9.block b (hd2.out.dom hb).2.lt (by have := (hd2.out.dom hb).1; have := hz0.out; have := hz1.out; have := hz2.out; omega))
  have hB9 := OutD.below hB2.out hO9 (Nat.le_refl _)
  have hN9 := newmac_full (w := w) hm9 hd9 ⟨none, 0, rfl⟩ (by have := hz0.out; omega) (by have := hz0.out; have := hz1.out; have := hz2.out; omega) (by have := hO9.size; have := hz3.out; have := hz4.out; omega) hB9
  replace hN9 := hid hN9
  replace q9 := hid q9
  clear hm9 hd9 hB9 hO9 q2 q62 q8 hm2 hd2 hB2
  go_wp2_with fail
  obtain ⟨tt, ht⟩ := q9.out
  exact bodyPost_ret (v := .tuple #[.agg (mcA (nmX M D) (.slice b1 M.rom.length p1) (.slice b2 M.ram.length p2) (.slice a2 D.pulses.length c2) nlV), .int .i64 0]) (results_cell_tmp Tryd.results10 _ _ w.heap.size tt _ (0, 0) _ _ rfl rfl ht Tryd.underlying41 rfl (szMcA _ _ _ _ _)) rfl ⟨_, _, _, _, _, _, rfl, hN9.out⟩
end Go.Proofs.YtifcdojaocndhaaDoor
