/- A block out of its bytes: the program. -/
import Derived.Test.YtakdhmlegickmaaDoorZaw
import Derived.Test.YtakdhmlegickmaaDoorZew
import Derived.Test.YtakdhmlegickmaaDoorZpw
import Derived.Test.YtakdhmlegickmaaDoorShw
import Derived.BigRegion
namespace Go.Proofs.YtakdhmlegickmaaDoor
open Go.ChangeShapes Go.WideShapes Go.ChangeAt Go.RowKit
set_option linter.unusedVariables false
set_option linter.unusedSimpArgs false

theorem clone_impl (s : ByteArray) (w : World) (hs : s.size ≤ 65536) : Calls Tryd.prog 86 #[.string s] w fun e w' => e = .returned (.string s) ∧ Below w.heap.size w w' := by
  go_enter Tryd.func86, Tryd.ntmps86
  go_wp2_with fail
  refine (Tryd.stringslite_Clone s _ (by omega)).mono ?_
  rintro e w1 ⟨rfl, hb⟩
  replace hb := hid hb
  go_wp2_with fail
  go_ret
  exact ⟨rfl, hb.out⟩
theorem withinZ_impl (n a b : Int) (w : World) : Calls Tryd.prog 85 #[.int .i64 n, .int .i64 a, .int .i64 b] w fun e w' => e = .returned (.bool (inB n a b)) ∧ w' = w := by
  by_cases h0 : a ≤ n
  · by_cases h1 : n ≤ b
    all_goals
      go_enter Tryd.func85, Tryd.ntmps85
      go_wp2
      go_ret
      exact ⟨ret_bool (by rw [Bool.eq_iff_iff]; simp [inB]; omega), rfl⟩
  · go_enter Tryd.func85, Tryd.ntmps85
    go_wp2
    go_ret
    exact ⟨ret_bool (by rw [Bool.eq_iff_iff]; simp [inB]; omega), rfl⟩
abbrev ofE (e0 e1 e2 e3 e4 e5 : Addr) (x : (Int × ByteArray) × Int) : Value := .tuple #[bkV x.1.1 x.1.2, errV6 e0 e1 e2 e3 e4 e5 x.2]
abbrev iE (x : Addr) : Value := .iface 138 (.pointer (some x))
/-- a block has been made, the answer's room is as it was -/
def RbS (w V W : World) (b : Nat) (F : Int) (D : ByteArray) : Prop := Blk W b (bkA F D) ∧ Blk W w.heap.size (bkA 0 eS) ∧ Below V.heap.size V W ∧ b ≠ w.heap.size
theorem below_undrew {V W : World} (h : Below V.drew.heap.size V.drew W) : Below V.heap.size V W := ⟨h.os, h.tape, h.output, h.size, h.block⟩
theorem rb1 {w V W : World} {F : Int} {D : ByteArray} (hq : Blk V w.heap.size (bkA 0 eS)) (hb : Below V.drew.heap.size V.drew W) (T : TypeId) : RbS w V (W.alloc (.cells (bkA F D) T)) W.heap.size F D := by
  have h := below_undrew hb
  have := hq.lt
  have := h.size
  exact ⟨Blk.new W _ T, (hq.below h hq.lt).alloc _, h.alloc h.size _, by omega⟩
theorem rb2 {w V W : World} {F : Int} {D : ByteArray} {T : TypeId} (hq : Blk V w.heap.size (bkA 0 eS)) (hb : Below (V.drew.alloc (.cells (bkA 0 eS) T)).heap.size (V.drew.alloc (.cells (bkA 0 eS) T)) W) : RbS w V ((W.setCell ⟨V.heap.size, 0, none⟩ (.int .i64 F)).setCell ⟨V.heap.size, 1, none⟩ (.string D)) V.heap.size F D := by
  have hl := hq.lt
  have hq2 : Blk V.drew w.heap.size (bkA 0 eS) := hq
  have hn : Blk (V.drew.alloc (.cells (bkA 0 eS) T)) V.heap.size (bkA 0 eS) := Blk.new V.drew _ T
  have h1 := hn.below hb hn.lt
  have h2 := (hq2.alloc (.cells (bkA 0 eS) T)).below hb (hq2.alloc (.cells (bkA 0 eS) T)).lt
  have hB : Below V.heap.size V W := (below_undrew (((Below.refl V.drew.heap.size V.drew).alloc (Nat.le_refl _) (.cells (bkA 0 eS) T)).trans (hb.mono (by simp))))
  refine ⟨(h1.set 0 (.int .i64 F)).set 1 (.string D), (h2.other (p := ⟨V.heap.size, 0, none⟩) (by show w.heap.size ≠ V.heap.size; omega) _).other (p := ⟨V.heap.size, 1, none⟩) (by show w.heap.size ≠ V.heap.size; omega) _, (hB.setCell (p := ⟨V.heap.size, 0, none⟩) (Nat.le_refl _) _).setCell (p := ⟨V.heap.size, 1, none⟩) (Nat.le_refl _) _, by omega⟩
/-- the two errors of a block that is read -/
structure ErrB (w : World) (e3 e4 : Addr) : Prop where
  c3 : w.cell? ⟨1, 0, none⟩ = some (.iface 138 (.pointer (some e3)))
  c4 : w.cell? ⟨2, 0, none⟩ = some (.iface 138 (.pointer (some e4)))
theorem ErrB.below {w w' : World} {e3 e4 : Addr} (h : ErrB w e3 e4) (hb : Below w.heap.size w w') : ErrB w' e3 e4 :=
  ⟨(hb.cell (p := ⟨1, 0, none⟩) (World.block_lt_of_cell? w _ h.c3)).trans h.c3, (hb.cell (p := ⟨2, 0, none⟩) (World.block_lt_of_cell? w _ h.c4)).trans h.c4⟩
set_option maxRecDepth 100000 in
set_option maxHeartbeats 2000000 in
theorem readBlockB_impl (t : ByteArray) (e0 e1 e2 e3 e4 e5 : Addr) (w : World) (ht : t.size ≤ maxLen) (hE : ErrB w e3 e4) : Calls Tryd.prog 65 #[.string t] w fun e w' => e = .returned (ofE e0 e1 e2 e3 e4 e5 (ofB t)) ∧ Below w.heap.size w w' := by
  unfold maxLen at ht
  have hB1 := hid ((Below.refl w.heap.size w).alloc (Nat.le_refl _) (.cells (bkA 0 eS) 33))
  have hq := Blk.new w (bkA 0 eS) 33
  have hE1 := hid (hE.below ((Below.refl w.heap.size w).alloc (Nat.le_refl _) (.cells (bkA 0 eS) 33)))
  have hz3 : 1 < w.heap.size := World.block_lt_of_cell? w _ hE.c3
  have hz4 : 2 < w.heap.size := World.block_lt_of_cell? w _ hE.c4
  clear hE
  by_cases h1 : t.size < 2 ∨ 42 < t.size
  · have e : ofB t = ((0, ByteArray.empty), 8) := if_pos h1
    have r2 : errV6 e0 e1 e2 e3 e4 e5 8 = iE e3 := rfl
    rw [e]
    show Calls _ _ _ _ fun r w' => r = .returned (.tuple #[bkV 0 ByteArray.empty, errV6 e0 e1 e2 e3 e4 e5 8]) ∧ _
    rw [r2]
    have hi : inB (t.size : Int) 2 42 = false := in_no (by omega)
    have x0 := hq.cell
    have f0 := hq.frozen
    have l0 := hq.lt
    have c3 := hE1.out.c3
    clear e r2 h1
    have z3 : ¬ w.heap.size = 1 := by have := hz3; omega
    have z4 : ¬ 1 = w.heap.size := by have := hz3; omega
    go_enter Tryd.func65, Tryd.ntmps65
    go_upto_region 2 with (go_at_call 85; refine (withinZ_impl _ _ _ _).mono ?_; rintro e w' ⟨rfl, hww⟩; obtain rfl := hww.symm; rw [hi])
    obtain ⟨V, hV⟩ : ∃ V, w.alloc (.cells (bkA 0 eS) 33) = V := ⟨_, rfl⟩
    rw [hV] at x0 f0 l0 c3 hB1 ⊢
    clear hV
    go_region
    go_wp2
    exact bodyPost_ret (v := .tuple #[bkV 0 eS, iE e3]) (by simp [results, Tryd.results65, go_sem, x0]; try rfl) rfl ⟨rfl, by repeat (first | exact hB.out | exact hB1.out | exact hB.out _ | refine Below.drew ?_ | refine Below.alloc ?_ (by first | omega | (simp; omega) | simp) _ | refine Below.setCell ?_ (by first | omega | (simp; omega) | simp) _)⟩
  · have hsz : 2 ≤ t.size := by omega
    have hsz2 : t.size ≤ 42 := by omega
    obtain ⟨n, hn⟩ : ∃ n : Nat, t.size = n + 1 := ⟨t.size - 1, by omega⟩
    have hX := xor_sum t n (by omega) hn
    have hi : inB (t.size : Int) 2 42 = true := in_yes (by omega) (by omega)
    have hn3 : (t.size : Int) - 1 = (n : Int) := by omega
    have hn6 : (1 : Int) ≤ (n : Int) := by omega
    have hn7 : (n : Int) ≤ (t.size : Int) := by omega
    have hn8 : (0 : Int) ≤ (n : Int) := by omega
    have hx0 := run_idx t 0 0 rfl (by omega)
    have hxn := run_idx t (n : Int) n rfl (by omega)
    have hb0 := byt_bd t 0
    have hbn := byt_bd t n
    have hds : (t.extract 1 n).size ≤ 40 := by rw [ByteArray.size_extract]; omega
    have hC := hid (fun W => clone_impl (t.extract 1 n) W (by omega))
    have hS := hid (fun W => sumP_impl (byt t 0) (t.extract 1 n) W hds)
    have hO : ofB t = if sumB (byt t 0) (t.extract 1 n) = byt t n then ((byt t 0, t.extract 1 n), 0) else ((0, ByteArray.empty), 10) := by
      unfold ofB
      rw [if_neg h1]
      by_cases hz : xorN t t.size = 0
      · rw [if_neg (by simpa using hz), if_pos (hX.1 hz), show t.size - 1 = n by omega]
      · rw [if_pos hz, if_neg (fun h => hz (hX.2 h))]
    rw [hO]
    clear hO hX h1 hds
    generalize sumB (byt t 0) (t.extract 1 n) = Z at *
    generalize byt t 0 = F at *
    generalize byt t n = L at *
    have hwF : IntKind.i64.wrap F = F := by rw [IntKind.wrap_i64]; omega
    have hwL : IntKind.i64.wrap L = L := by rw [IntKind.wrap_i64]; omega
    replace hn := hid hn
    replace hq := hid hq
    go_enter Tryd.func65, Tryd.ntmps65
    go_upto_region 4 with (go_at_call 85; refine (withinZ_impl _ _ _ _).mono ?_; rintro e w' ⟨rfl, hww⟩; obtain rfl := hww.symm; rw [hi])
    obtain ⟨V, hV⟩ : ∃ V, w.alloc (.cells (bkA 0 eS) 33) = V := ⟨_, rfl⟩
    rw [hV] at hq hE1 hB1 ⊢
    clear hV
    go_cut [5] (fun p wx => ∃ b, p = .pointer (some ⟨b, 0, none⟩) ∧ RbS w V wx b F (t.extract 1 n))
    case first =>
      go_region_with (go_at_call 86; refine (hC.out _).mono ?_; rintro e w' ⟨rfl, hb⟩; obtain ⟨hc, hf⟩ := bcell hb; have hzz := hb.size; replace hb := hid hb; (try simp only [World.size_alloc] at hzz))
      all_goals
        go_wp2_with fail
        go_meet
        first
          | exact ⟨_, rfl, rb1 hq.out hb.out _⟩
          | exact ⟨_, rfl, rb2 hq.out hb.out⟩
    case rest =>
      obtain ⟨b, rfl, hR⟩ := hcut
      have xb := hR.1.cell
      have hne := hR.2.2.2
      replace hR := hid hR
      go_upto_region 5 with fail
      go_cut [29] (fun z wx => z = .bool (!(Z == L)) ∧ Below wc.heap.size wc wx)
      case first =>
        go_region_with (go_at_call 40; refine (hS.out _).mono ?_; rintro e w' ⟨rfl, hb⟩; replace hb := hid hb)
        all_goals
          go_wp2_with fail
          go_meet
          first
            | exact ⟨rfl, ⟨hb.out.os, hb.out.tape, hb.out.output, hb.out.size, hb.out.block⟩⟩
            | exact ⟨by simp [bne, hwL], ⟨hb.out.os, hb.out.tape, hb.out.output, hb.out.size, hb.out.block⟩⟩
      case rest =>
        obtain ⟨rfl, hb2⟩ := hcut
        have q1 := hR.out.1.below hb2 hR.out.1.lt
        have q2 := hR.out.2.1.below hb2 hR.out.2.1.lt
        have hB3 := hR.out.2.2.1.trans (hb2.mono hR.out.2.2.1.size)
        have hE3 := hE1.out.below hB3
        have hB := hid (new_trans hB1.out hB3)
        have c4 := hE3.c4
        have x2 := q2.cell
        have f2 := q2.frozen
        have l2 := q2.lt
        have xb2 := q1.cell
        have z3 : ¬ w.heap.size = 2 := by omega
        have z4 : ¬ 2 = w.heap.size := by omega
        have hne2 : ¬ w.heap.size = b := fun h => hne h.symm
        have hne3 : ¬ b = w.heap.size := hne
        clear hb2 hB3 hE3 hR hE1 hB1 q1 q2 xb hC hS hq hwF hwL hx0 hxn hn hn3 hn6 hn7 hn8 hi hsz hsz2 ht hz3 hz4
        cases hZ : (Z == L)
        · have hZ2 : ¬ Z = L := by simpa using hZ
          have e : ∀ x : (Int × ByteArray) × Int, (if Z = L then x else ((0, ByteArray.empty), 10)) = ((0, ByteArray.empty), 10) := fun x => if_neg hZ2
          go_wp2_with fail
          go_region
          go_wp2
          exact bodyPost_ret (v := .tuple #[bkV 0 eS, iE e4]) (by simp [results, Tryd.results65, go_sem, x2]; try rfl) rfl ⟨by first | rfl | (rw [e]; rfl), by repeat (first | exact hB.out | exact hB1.out | exact hB.out _ | refine Below.drew ?_ | refine Below.alloc ?_ (by first | omega | (simp; omega) | simp) _ | refine Below.setCell ?_ (by first | omega | (simp; omega) | simp) _)⟩
        · have hZ2 : Z = L := by simpa using hZ
          have e : ∀ x : (Int × ByteArray) × Int, (if Z = L then x else ((0, ByteArray.empty), 10)) = x := fun x => if_pos hZ2
          replace hZ2 := hid hZ2
          go_wp2_with fail
          exact bodyPost_ret (v := .tuple #[bkV F (t.extract 1 n), .nilIface]) (by simp [results, Tryd.results65, go_sem, x2]; try rfl) rfl ⟨by first | rfl | (rw [e]; rfl), by repeat (first | exact hB.out | exact hB1.out | exact hB.out _ | refine Below.drew ?_ | refine Below.alloc ?_ (by first | omega | (simp; omega) | simp) _ | refine Below.setCell ?_ (by first | omega | (simp; omega) | simp) _)⟩
theorem readBlock_impl (t : ByteArray) (e0 e1 e2 e3 e4 e5 : Addr) (w : World) (ht : t.size ≤ maxLen) (hE : Err6 w e0 e1 e2 e3 e4 e5) : Calls Tryd.prog 65 #[.string t] w fun e w' => e = .returned (ofE e0 e1 e2 e3 e4 e5 (ofB t)) ∧ Below w.heap.size w w' := readBlockB_impl t e0 e1 e2 e3 e4 e5 w ht ⟨hE.c3, hE.c4⟩
end Go.Proofs.YtakdhmlegickmaaDoor
