/- The runs of what was compressed, one by one to whoever asks for them: the program's iterator. -/
import Derived.Test.YtghcagibdcblnaaGreatDoorF39
namespace Go.Proofs.YtghcagibdcblnaaGreatDoor
open Go.ChangeShapes Go.WideShapes Go.ChangeAt Go.RowKit Go.Shelf
attribute [local go_sem] Oper.semAt_some
set_option linter.unusedVariables false
set_option linter.unusedSimpArgs false

abbrev rn0 : Value := .agg #[.int .u8 0, .int .i64 0]
/-- whoever asks for runs: it takes them as long as there is room, and leaves at an error, or where there is no room -/
structure SinkE (base L N : Nat) (fix : List Nat) (e0 e1 e2 : Addr) (S : World → Value → List Int → Prop) (X : World → Int → Prop) : Prop where
  cong : ∀ {W W' : World} {v : Value} {acc : List Int}, S W v acc → SameOn base fix v W W' → S W' v acc
  lt : ∀ {W : World} {v : Value} {acc : List Int}, S W v acc → (∀ b, b ∈ fix → base ≤ b ∧ b < W.heap.size) ∧ (∀ g, v.ownBlock = some g → base ≤ g ∧ g < W.heap.size) ∧ base ≤ W.heap.size
  errs : ∀ {W : World} {v : Value} {acc : List Int}, S W v acc → Errs W e0 e1 e2
  ok : ∀ (m : Nat) {W : World} {v : Value} {acc : List Int} (b : Int) (n : Nat), S W v acc → n ≤ 255 → acc.length + n ≤ N → YieldAt Fence.wide m Tryz.prog L #[rnV b n, .nilIface] W fun e W' => e = .returned (.bool true) ∧ ∃ v', S W' v' (acc ++ List.replicate n b) ∧ Kp fix W v W' v'
  big : ∀ (m : Nat) {W : World} {v : Value} {acc : List Int} (b : Int) (n : Nat), S W v acc → n ≤ 255 → acc.length ≤ N → N < acc.length + n → YieldAt Fence.wide m Tryz.prog L #[rnV b n, .nilIface] W fun e W' => e = .returned (.bool false) ∧ X W' 8
  cut : ∀ (m : Nat) {W : World} {v : Value} {acc : List Int}, S W v acc → YieldAt Fence.wide m Tryz.prog L #[rn0, iX e2] W fun e W' => e = .returned (.bool false) ∧ X W' 9
theorem SinkE.below {base L N : Nat} {fix : List Nat} {e0 e1 e2 : Addr} {S : World → Value → List Int → Prop} {X : World → Int → Prop} (K : SinkE base L N fix e0 e1 e2 S X) {W W' : World} {v : Value} {acc : List Int} (h : S W v acc) (hb : Below W.heap.size W W') : S W' v acc :=
  K.cong h ⟨hb.os, hb.tape, hb.output, hb.size, fun b hl => hb.block b (Nat.lt_of_lt_of_le hl (K.lt h).2.2), fun b hm => hb.block b ((K.lt h).1 b hm).2, fun g e => hb.block g ((K.lt h).2.1 g e).2⟩
theorem runsTaken_impl (t : ByteArray) (w : World) : Calls Tryz.prog 91 #[.string t] w fun e w' => e = .returned (.func (.func 101) #[] #[.pointer (some ⟨w.heap.size, 0, none⟩)]) ∧ w' = w.alloc (.cells #[.string t] 9) := by
  go_enter Tryz.func91, Tryz.ntmps91
  go_wp2
  go_ret
  exact ⟨rfl, rfl⟩
/-- what is taken at a place, and what becomes of the whole by it -/
theorem exp_next {t : ByteArray} {N i : Nat} {acc : List Int} (ht : t.size ≤ 65536) (hi : i < t.size) (e0 e1 e2 : Addr) :
    (∃ (z n : Nat) (b : Int), 1 ≤ z ∧ i + z ≤ t.size ∧ n ≤ 255 ∧ (∀ W, Errs W e0 e1 e2 → Calls Tryz.prog 102 #[cur t (i : Int)] W fun e w' => e = .returned (.tuple #[cur t ((i + z : Nat) : Int), rnV b n, .nilIface]) ∧ Below W.heap.size W w') ∧ expE N ((bts t).drop i) acc = if N < acc.length + n then ([], 8) else expE N ((bts t).drop (i + z)) (acc ++ List.replicate n b)) ∨
    ((∀ W, Errs W e0 e1 e2 → Calls Tryz.prog 102 #[cur t (i : Int)] W fun e w' => e = .returned (.tuple #[cur t (i : Int), rn0, iX e2]) ∧ Below W.heap.size W w') ∧ expE N ((bts t).drop i) acc = ([], 9)) := by
  have hpf := pf_at hi
  by_cases hm : i + 1 < t.size ∧ byt t i = 237 ∧ byt t (i + 1) = 237
  · rw [decide_eq_true hm] at hpf
    by_cases h3 : i + 3 < t.size
    · left
      have hb2 := byt_bd t (i + 2)
      obtain ⟨n, hn⟩ : ∃ n : Nat, byt t (i + 2) = (n : Int) := ⟨(byt t (i + 2)).toNat, by omega⟩
      refine ⟨4, n, byt t (i + 3), by omega, by omega, by omega, fun W hE => ?_, ?_⟩
      · refine tr_ok t i 4 n (byt t (i + 3)) true e0 e1 e2 W hE ht hi hpf rfl (by omega) (fun W2 => ?_)
        have hs : (t.extract i (i + 4)).size = 4 := by simp [ByteArray.size_extract]; omega
        have hr := read4_impl (t.extract i (i + 4)) n W2 hs (by rw [byt_extract t (by omega) (by omega)]; exact hn) (by omega)
        rw [byt_extract t (by omega) (by omega)] at hr
        exact hr
      · rw [expT_run h3 hm.2.1 hm.2.2, hn, Int.toNat_natCast]
    · right
      exact ⟨fun W hE => tr_cut t i e0 e1 e2 W hE ht hi hpf (by omega), expT_cut hm.1 h3 hm.2.1 hm.2.2⟩
  · left
    rw [decide_eq_false hm] at hpf
    refine ⟨1, 1, byt t i, by omega, by omega, by omega, fun W hE => ?_, ?_⟩
    · refine tr_ok t i 1 1 (byt t i) false e0 e1 e2 W hE ht hi hpf rfl (by omega) (fun W2 => ?_)
      have hs : (t.extract i (i + 1)).size = 1 := by simp [ByteArray.size_extract]; omega
      have hr := read1_impl (t.extract i (i + 1)) W2 hs
      rw [byt_extract t (by omega) (by omega)] at hr
      exact hr
    · rw [expT_one hi hm]
      rfl
def curAt (v : Value) (w : World) : Nat := match v with
  | .pointer (some a) => (match w.cell? ⟨a.block, 1, none⟩ with | some (.int _ i) => i.toNat | _ => 0)
  | _ => 0
set_option maxRecDepth 100000 in
set_option maxHeartbeats 4000000 in
theorem takeit_impl {base L N : Nat} {fix : List Nat} {e0 e1 e2 : Addr} {S : World → Value → List Int → Prop} {X : World → Int → Prop} (K : SinkE base L N fix e0 e1 e2 S X) (t : ByteArray) (BT : Nat) (W : World) (v : Value) (h : S W v []) (hq : Blk W BT #[.string t]) (hf : BT ∉ fix) (hn : v.ownBlock ≠ some BT) (hbt : base ≤ BT) (ht : t.size ≤ 65536) (d : Nat) :
    CallsIn Fence.wide (d + 2) Tryz.prog 101 #[.func (.yield L) #[] #[], .pointer (some ⟨BT, 0, none⟩)] W fun e W' => e = .returned (.tuple #[]) ∧ ((∃ v' PL, S W' v' PL ∧ expE N (bts t) [] = if PL.length = N then (PL, 0) else ([], 8)) ∨ (∃ c, X W' c ∧ expE N (bts t) [] = ([], c))) := by
  have hnx := hid (fun i (acc : List Int) (hi : i < t.size) => exp_next (t := t) (N := N) (i := i) (acc := acc) ht hi e0 e1 e2)
  have hend : Hid (∀ acc, expE N ((bts t).drop t.size) acc = if acc.length = N then (acc, 0) else ([], 8)) := fun acc => expT_end
  have h00 : Hid (expE N ((bts t).drop 0) [] = expE N (bts t) []) := by simp [Hid]
  generalize hRES : expE N (bts t) [] = RES at *
  clear hRES
  have x0 := hq.cell
  have l0 := hq.lt
  obtain ⟨lt1, lt2, lt3⟩ := K.lt h
  have hst : Hid (∃ (i cb : Nat) (v' : Value) (acc : List Int), i ≤ t.size ∧ Value.pointer (some ⟨W.heap.size, 0, none⟩) = .pointer (some ⟨cb, 0, none⟩) ∧ Blk (W.alloc (.cells #[.string t, .int .i64 0] 52)) cb #[.string t, .int .i64 (i : Int)] ∧ (cb ∉ fix ∧ v'.ownBlock ≠ some cb ∧ base ≤ cb ∧ cb ≠ BT) ∧ Blk (W.alloc (.cells #[.string t, .int .i64 0] 52)) BT #[.string t] ∧ v'.ownBlock ≠ some BT ∧ acc.length ≤ N ∧ expE N ((bts t).drop i) acc = RES ∧ S (W.alloc (.cells #[.string t, .int .i64 0] 52)) v' acc) := by
    refine ⟨0, W.heap.size, v, [], by omega, rfl, Blk.new W _ _, ⟨fun hm => by have := (lt1 _ hm).2; omega, fun e => by have := (lt2 _ e).2; omega, lt3, by omega⟩, hq.alloc _, hn, by simp, h00.out, K.below h ((Below.refl _ _).alloc (Nat.le_refl _) _)⟩
  replace K := hid K
  replace hf := hid hf
  clear lt1 lt2 lt3 h hn hq h00
  refine callsIn_of_wp Tryz.func101 rfl trivial ?_ rfl
  simp only [Tryz.ntmps101, List.size_toArray, List.length_cons, List.length_nil, Nat.reduceAdd, Nat.reduceSub, Array.replicate_succ, Array.replicate_zero, List.push_toArray, List.append_toArray, List.nil_append, List.cons_append]
  gi_wp2
  clear x0 l0
  gi_loopw [3] (fun cv wr => ∃ (i cb : Nat) (v' : Value) (acc : List Int), i ≤ t.size ∧ cv = .pointer (some ⟨cb, 0, none⟩) ∧ Blk wr cb #[.string t, .int .i64 (i : Int)] ∧ (cb ∉ fix ∧ v'.ownBlock ≠ some cb ∧ base ≤ cb ∧ cb ≠ BT) ∧ Blk wr BT #[.string t] ∧ v'.ownBlock ≠ some BT ∧ acc.length ≤ N ∧ expE N ((bts t).drop i) acc = RES ∧ S wr v' acc) (fun cv wr => t.size - curAt cv wr)
  case atStart => exact hst.out
  case round =>
    obtain ⟨i, cb, v1, acc, hi, rfl, qc, hcb, qB, hvB, hal, hres, hS⟩ := hrel
    clear hst
    have xc := qc.cell
    have lc := qc.lt
    have xB := qB.cell
    have lB := qB.lt
    have hcw : Hid (wr.cell? ⟨cb, 1, none⟩ = some (.int .i64 (i : Int))) := by unfold Hid; rw [xc]; rfl
    by_cases hlt : i < t.size
    · have hE := hid (K.out.errs hS)
      have hltI : (i : Int) < (t.size : Int) := by omega
      rcases hnx.out i acc hlt with ⟨z, n, b, hz1, hz2, hn, hTR, hexp⟩ | ⟨hTR, hexp⟩
      · obtain ⟨q, hq⟩ : ∃ q : Nat, i + z = q := ⟨_, rfl⟩
        rw [hq] at hTR hexp hz2
        have hqi : i < q := by omega
        clear hq hz1
        replace hTR := hid hTR
        replace qc := hid qc
        replace qB := hid qB
        replace hS := hid hS
        replace hcb := hid hcb
        replace hvB := hid hvB
        gi_wp2_with fail
        refine ⟨trivial, ?_⟩
        refine (callsIn_wide.2 (hTR.out _ hE.out)).mono ?_
        rintro e w1 ⟨rfl, hb1⟩
        have hS1 := K.out.below hS.out hb1
        obtain ⟨lt1, lt2, lt3⟩ := K.out.lt hS1
        have qc1 := qc.out.below hb1 qc.out.lt
        have qB1 := qB.out.below hb1 qB.out.lt
        have hcl := qc1.lt
        have hBl := qB1.lt
        obtain ⟨w2, hw2⟩ : ∃ w2, (w1.alloc (.cells #[.string t, .int .i64 (q : Int)] 52)).alloc (.cells (rnA b n) 126) = w2 := ⟨_, rfl⟩
        have hb2 : Below w1.heap.size w1 w2 := by rw [← hw2]; exact ((Below.refl _ _).alloc (Nat.le_refl _) _).alloc (by simp) _
        have hS2 := K.out.below hS1 hb2
        have qn : Blk w2 w1.heap.size #[.string t, .int .i64 (q : Int)] := by rw [← hw2]; exact (Blk.new w1 _ _).alloc _
        have qr : Blk w2 (w1.heap.size + 1) (rnA b n) := by
          rw [← hw2]
          have := Blk.new (w1.alloc (.cells #[.string t, .int .i64 (q : Int)] 52)) (rnA b n) 126
          rw [World.size_alloc] at this
          exact this
        have qc2 := qc1.below hb2 qc1.lt
        have qB2 := qB1.below hb2 qB1.lt
        have hnf : Hid ((w1.heap.size ∉ fix ∧ v1.ownBlock ≠ some w1.heap.size) ∧ base ≤ w1.heap.size) := ⟨⟨fun hm => by have := (lt1 _ hm).2; omega, fun e => by have := (lt2 _ e).2; omega⟩, lt3⟩
        clear lt1 lt2 lt3 hS1 qc1 qB1 hb1 hb2 qc qB hS xc lc xB lB hTR
        by_cases hbig : N < acc.length + n
        · obtain ⟨fn, tmps, assign, body, hy, hR⟩ := K.out.big (d + 1) b n hS2 hn hal hbig
          have xr := qr.cell
          have lr := qr.lt
          have hfin : Hid (RES = ([], 8)) := by unfold Hid; rw [← hres, hexp, if_pos hbig]
          replace hR := hid hR
          clear hS2 qn qc2 qB2 hexp hres hnf qr
          gi_wp2
          refine hR.out.mono ?_
          rintro e4 W4 ⟨rfl, hX⟩
          replace hX := hid hX
          clear hy hR xr lr
          gi_wp2
          exact bodyPost_ret (v := .tuple #[]) (by simp [results, Tryz.results101]) rfl ⟨rfl, .inr ⟨8, hX.out, hfin.out⟩⟩
        · obtain ⟨fn, tmps, assign, body, hy, hR⟩ := K.out.ok (d + 1) b n hS2 hn (by omega)
          have xr := qr.cell
          have lr := qr.lt
          have hfin : Hid (expE N ((bts t).drop q) (acc ++ List.replicate n b) = RES) := by unfold Hid; rw [← hres, hexp, if_neg hbig]
          have hal2 : Hid ((acc ++ List.replicate n b).length ≤ N) := by unfold Hid; rw [List.length_append, List.length_replicate]; omega
          replace hR := hid hR
          replace qn := hid qn
          replace qc2 := hid qc2
          replace qB2 := hid qB2
          have hw2s : Hid (w1.heap.size < w2.heap.size) := qn.out.lt
          clear hS2 hexp hres qr hbig hal hnx
          gi_wp2
          refine hR.out.mono ?_
          rintro e4 W4 ⟨rfl, v4, hS4, hK4⟩
          have rn := hK4.blk qn.out hnf.out.1.1 hnf.out.1.2
          have rc := hK4.blk qc2.out hcb.out.1 hcb.out.2.1
          have rB := hK4.blk qB2.out hf.out hvB.out
          have nc := hK4.ne qc2.out.lt hcb.out.2.1
          have nB := hK4.ne qB2.out.lt hvB.out
          have xn := rn.cell
          have ln := rn.lt
          have xc := rc.cell
          have yc := rc.frozen
          have lc := rc.lt
          have hne : ¬ cb = w1.heap.size := by omega
          have hne2 : ¬ w1.heap.size = cb := by omega
          obtain ⟨m1, m2, m3⟩ := K.out.lt hS4
          have hc1 := hcb.out
          obtain ⟨W5, hW5⟩ : ∃ W5, (W4.setCell ⟨cb, 0, none⟩ (.string t)).setCell ⟨cb, 1, none⟩ (.int .i64 (q : Int)) = W5 := ⟨_, rfl⟩
          have s5 : W5.heap.size = W4.heap.size := by rw [← hW5]; simp [World.setCell]
          have k5 : ∀ y, y ≠ cb → W5.heap[y]? = W4.heap[y]? := fun y hy => by rw [← hW5, Below.heap_setCell _ _ _ _ hy, Below.heap_setCell _ _ _ _ hy]
          have rc5 : Blk W5 cb #[.string t, .int .i64 (q : Int)] := by rw [← hW5]; exact (rc.set 0 (.string t)).set 1 (.int .i64 (q : Int))
          have ho5 : W5.os = W4.os ∧ W5.tape = W4.tape ∧ W5.output = W4.output := by rw [← hW5]; exact ⟨rfl, rfl, rfl⟩
          have hS5 : S W5 v4 (acc ++ List.replicate n b) := K.out.cong hS4 ⟨ho5.1, ho5.2.1, ho5.2.2, by omega, fun y hy => k5 y (by have := hc1.2.2.1; omega), fun y hy => k5 y (fun e => hc1.1 (e ▸ hy)), fun g hg => k5 g (fun e => nc (e ▸ hg))⟩
          have rB5 : Blk W5 BT #[.string t] := by
            obtain ⟨tt, hh⟩ := rB
            exact ⟨tt, (k5 BT (fun e => hc1.2.2.2 e.symm)).trans hh⟩
          have hrel2 : Hid (∃ (i cb' : Nat) (v' : Value) (acc : List Int), i ≤ t.size ∧ Value.pointer (some ⟨W5.heap.size, 0, none⟩) = .pointer (some ⟨cb', 0, none⟩) ∧ Blk (W5.alloc (.cells #[.string t, .int .i64 (q : Int)] 52)) cb' #[.string t, .int .i64 (i : Int)] ∧ (cb' ∉ fix ∧ v'.ownBlock ≠ some cb' ∧ base ≤ cb' ∧ cb' ≠ BT) ∧ Blk (W5.alloc (.cells #[.string t, .int .i64 (q : Int)] 52)) BT #[.string t] ∧ v'.ownBlock ≠ some BT ∧ acc.length ≤ N ∧ expE N ((bts t).drop i) acc = RES ∧ S (W5.alloc (.cells #[.string t, .int .i64 (q : Int)] 52)) v' acc) := by
            refine ⟨q, W5.heap.size, v4, acc ++ List.replicate n b, hz2, rfl, Blk.new W5 _ _, ⟨fun hm => by have := (m1 _ hm).2; omega, fun e => by have := (m2 _ e).2; omega, by omega, by have := rB5.lt; omega⟩, rB5.alloc _, nB, hal2.out, hfin.out, K.out.below hS5 ((Below.refl _ _).alloc (Nat.le_refl _) _)⟩
          have hmeas : Hid (curAt (.pointer (some ⟨W5.heap.size, 0, none⟩)) (W5.alloc (.cells #[.string t, .int .i64 (q : Int)] 52)) = q ∧ curAt (.pointer (some ⟨cb, 0, none⟩)) wr = i) := by
            constructor
            · unfold curAt
              dsimp only
              rw [(Blk.new W5 #[.string t, .int .i64 (q : Int)] 52).cell 1]
              simp
            · unfold curAt
              dsimp only
              rw [hcw.out]
              simp
          have x5 := rc5.cell
          have l5 := rc5.lt
          clear hy hR xr lr rn rc rB m1 m2 m3 hc1 rc5 ho5 hS5 rB5 k5 hS4 hK4 nc nB s5 hfin hal2 hw2 hnf
          gi_wp2
          exact ⟨hrel2.out, by rw [hmeas.out.1, hmeas.out.2]; omega⟩
      · replace hTR := hid hTR
        replace qc := hid qc
        replace qB := hid qB
        replace hS := hid hS
        replace hcb := hid hcb
        replace hvB := hid hvB
        gi_wp2_with fail
        refine ⟨trivial, ?_⟩
        refine (callsIn_wide.2 (hTR.out _ hE.out)).mono ?_
        rintro e w1 ⟨rfl, hb1⟩
        have hS1 := K.out.below hS.out hb1
        obtain ⟨lt1, lt2, lt3⟩ := K.out.lt hS1
        have qc1 := qc.out.below hb1 qc.out.lt
        have qB1 := qB.out.below hb1 qB.out.lt
        have hcl := qc1.lt
        have hBl := qB1.lt
        obtain ⟨w2, hw2⟩ : ∃ w2, (w1.alloc (.cells #[.string t, .int .i64 (i : Int)] 52)).alloc (.cells (#[.int .u8 0, .int .i64 0]) 126) = w2 := ⟨_, rfl⟩
        have hb2 : Below w1.heap.size w1 w2 := by rw [← hw2]; exact ((Below.refl _ _).alloc (Nat.le_refl _) _).alloc (by simp) _
        have hS2 := K.out.below hS1 hb2
        have qn : Blk w2 w1.heap.size #[.string t, .int .i64 (i : Int)] := by rw [← hw2]; exact (Blk.new w1 _ _).alloc _
        have qr : Blk w2 (w1.heap.size + 1) (#[.int .u8 0, .int .i64 0]) := by
          rw [← hw2]
          have := Blk.new (w1.alloc (.cells #[.string t, .int .i64 (i : Int)] 52)) (#[.int .u8 0, .int .i64 0]) 126
          rw [World.size_alloc] at this
          exact this
        have qc2 := qc1.below hb2 qc1.lt
        have qB2 := qB1.below hb2 qB1.lt
        have hnf : Hid ((w1.heap.size ∉ fix ∧ v1.ownBlock ≠ some w1.heap.size) ∧ base ≤ w1.heap.size) := ⟨⟨fun hm => by have := (lt1 _ hm).2; omega, fun e => by have := (lt2 _ e).2; omega⟩, lt3⟩
        clear lt1 lt2 lt3 hS1 qc1 qB1 hb1 hb2 qc qB hS xc lc xB lB hTR
        obtain ⟨fn, tmps, assign, body, hy, hR⟩ := K.out.cut (d + 1) hS2
        have hfin : Hid (RES = ([], 9)) := by unfold Hid; rw [← hres, hexp]
        replace hR := hid hR
        clear hS2 qn qc2 qB2 hexp hres hnf qr
        subst hw2
        gi_wp2
        refine hR.out.mono ?_
        rintro e4 W4 ⟨rfl, hX⟩
        replace hX := hid hX
        clear hy hR
        gi_wp2
        exact bodyPost_ret (v := .tuple #[]) (by simp [results, Tryz.results101]) rfl ⟨rfl, .inr ⟨9, hX.out, hfin.out⟩⟩
    · obtain rfl : i = t.size := by omega
      have hltI : ¬ (t.size : Int) < (t.size : Int) := by omega
      have hfin : Hid (RES = if acc.length = N then (acc, 0) else ([], 8)) := by
        unfold Hid
        rw [← hres, hend.out]
      replace hS := hid hS
      replace hcb := hid hcb
      replace hvB := hid hvB
      clear hres qc qB
      gi_wp2
      exact bodyPost_end (v := .tuple #[]) (by simp [results, Tryz.results101]) rfl ⟨rfl, .inl ⟨v1, acc, hS.out, hfin.out⟩⟩
end Go.Proofs.YtghcagibdcblnaaGreatDoor
