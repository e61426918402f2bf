/- ReadSnap: the program. -/
import Derived.Test.YtghcagibdcblnaaGreatDoorNtf
import Derived.Test.YtghcagibdcblnaaGreatDoorF23
import Derived.Test.YtghcagibdcblnaaGreatDoorF10
import Derived.Test.YtghcagibdcblnaaGreatDoorF04
import Derived.Test.YtghcagibdcblnaaGreatDoorF14
import Derived.Test.YtghcagibdcblnaaGreatDoorMnf
namespace Go.Proofs.YtghcagibdcblnaaGreatDoor
open Go.ChangeShapes Go.WideShapes Go.ChangeAt Go.RowKit
set_option linter.unusedVariables false
set_option linter.unusedSimpArgs false

set_option maxRecDepth 100000 in
set_option maxHeartbeats 1000000 in
theorem readsn_impl (t rom : ByteArray) (e0 e1 e2 : Addr) (w : World) (ht : t.size ≤ maxLen) (hr : rom.size ≤ maxLen) (hE : Errs w e0 e1 e2) : Calls Tryz.prog 8 #[.string t, .string rom] w (RdOut w (read2 t rom)) := by
  unfold maxLen at ht hr
  have q := hid (Blk.new w zS 33)
  have hb := hid ((Below.refl w.heap.size w).alloc (Nat.le_refl _) (.cells zS 33))
  by_cases h1 : 65536 < t.size ∨ 65536 < rom.size
  · have e : read2 t rom = (sn0, 2) := by unfold read2; rw [if_pos h1]
    rw [e]
    clear e hE
    go_enter Tryz.func8, Tryz.ntmps8
    go_upto_region 1 with fail
    obtain ⟨V, hV⟩ : ∃ V, w.alloc (.cells zS 33) = V := ⟨_, rfl⟩
    rw [hV] at q hb ⊢
    clear hV
    rw [zS_eq] at q
    have hth := hid (blk_there q.out (o := 0) (n := (snA sn0 nl nl).size) (by show 0 + 31 ≤ 31; omega))
    obtain ⟨wF, hwF⟩ : ∃ X, V.setCells w.heap.size 0 (snA sn0 nl nl).toList = X := ⟨_, rfl⟩
    have hRF : Hid (Blk wF w.heap.size (snA sn0 nl nl)) := by
      rw [← hwF]
      have := layE_blk w.heap.size (snA sn0 nl nl).toList _ 0 _ q.out
      rw [sn_layA] at this
      exact this
    have hBF : Hid (Below w.heap.size w wF) := by rw [← hwF]; exact layE_below _ 0 _ (Nat.le_refl _) hb.out
    replace hwF := hid hwF
    clear q hb
    have h2 : Hid (65536 < (t.size : Int)) ∨ Hid (¬ 65536 < (t.size : Int) ∧ 65536 < (rom.size : Int)) := by
      by_cases hh : 65536 < t.size
      · exact .inl (by unfold Hid; omega)
      · exact .inr ⟨by omega, by omega⟩
    rcases h2 with h2 | h2
    · have c1 := h2.out
      clear h2 h1
      go_upto_region 2 with fail
      go_wp2_with (guard_target = wpList _ _ _ (Oper.mk _ (Op.store _ _ _) _ _ _ _ :: _) _ _; refine wpList_store_mid rfl 33 _ _ rfl w.heap.size 0 (snA sn0 nl nl) rfl rfl hth.out (szS2 _ _ _) (sn_one _ rfl rfl) ?_; rw [hwF.out])
      obtain ⟨tt, htt⟩ := hRF.out
      exact bodyPost_ret (v := .tuple #[.agg (snA sn0 nl nl), .int .i64 2]) (results_cell_tmpS Tryz.results8 _ _ w.heap.size tt (snA sn0 nl nl) (0, 0) _ _ rfl rfl htt Tryz.underlying33 rfl (szS2 _ _ _)) rfl ⟨nl, nl, rfl, MemO.zero _ _ _, hBF.out⟩
    · have c1 := h2.out.1
      have c2 := h2.out.2
      clear h2 h1
      go_upto_region 2 with fail
      go_wp2_with (guard_target = wpList _ _ _ (Oper.mk _ (Op.store _ _ _) _ _ _ _ :: _) _ _; refine wpList_store_mid rfl 33 _ _ rfl w.heap.size 0 (snA sn0 nl nl) rfl rfl hth.out (szS2 _ _ _) (sn_one _ rfl rfl) ?_; rw [hwF.out])
      obtain ⟨tt, htt⟩ := hRF.out
      exact bodyPost_ret (v := .tuple #[.agg (snA sn0 nl nl), .int .i64 2]) (results_cell_tmpS Tryz.results8 _ _ w.heap.size tt (snA sn0 nl nl) (0, 0) _ _ rfl rfl htt Tryz.underlying33 rfl (szS2 _ _ _)) rfl ⟨nl, nl, rfl, MemO.zero _ _ _, hBF.out⟩
  have c1 : ¬ 65536 < (t.size : Int) := by omega
  have c2 : ¬ 65536 < (rom.size : Int) := by omega
  have hL : Hid (∀ X, Rdr w X e0 e1 e2 (w.heap.size + 1) t 0 → Calls Tryz.prog 19 #[.pointer (some ⟨w.heap.size + 1, 0, none⟩), .string rom] X (RdQ X (w.heap.size + 1) (read2 t rom))) := fun X hX => by
    unfold read2
    rw [if_neg h1]
    by_cases h2 : rom.size = 64
    · rw [if_pos h2]
      exact snap_impl hX h2
    · rw [if_neg h2]
      exact snap_bad hX (by omega) h2
  have hRd : Hid (∀ W', Below w.heap.size w W' → W'.heap.size = w.heap.size + 1 → Rdr w (W'.alloc (.cells #[.string t, .int .i64 0] 54)) e0 e1 e2 (w.heap.size + 1) t 0) := fun W' hb2 hs => ⟨hE, hb2.alloc hb2.size _, by omega, by
    have := Blk.new W' #[.string t, .int .i64 0] 54
    rw [hs] at this
    exact this, by omega, by omega⟩
  generalize read2 t rom = R at *
  clear h1 hE
  go_enter Tryz.func8, Tryz.ntmps8
  go_upto_region 1 with fail
  obtain ⟨V, hV⟩ : ∃ V, w.alloc (.cells zS 33) = V := ⟨_, rfl⟩
  have hVs : Hid (V.heap.size = w.heap.size + 1) := by unfold Hid; rw [← hV]; simp
  rw [hV] at q hb ⊢
  clear hV
  rw [zS_eq] at q
  have hRd2 := hid (hRd.out V hb.out hVs.out)
  have q2 := hid (q.out.alloc (.cells #[.string t, .int .i64 0] 54))
  have hb2 := hid (hb.out.alloc hb.out.size (.cells #[.string t, .int .i64 0] 54))
  have hVe := hVs.out
  go_upto_region 4 with fail
  obtain ⟨V2, hV2⟩ : ∃ V2, V.alloc (.cells #[.string t, .int .i64 0] 54) = V2 := ⟨_, rfl⟩
  have hV2s : Hid (V2.heap.size = w.heap.size + 2) := by unfold Hid; rw [← hV2, World.size_alloc, hVs.out]
  rw [hV2] at hRd2 q2 hb2 ⊢
  clear hV2 hVe hVs q hb hRd
  go_wp2_with fail
  refine (hL.out _ hRd2.out).mono ?_
  rintro e w1 ⟨vr, vm, rfl, hO, k1⟩
  obtain ⟨o1, o2⟩ := memO_form2 hO
  have q1 := k1.blk q2.out (by simp)
  have hb1 := hid (k1.below hb2.out hb2.out.size (by simp))
  have hth := hid (blk_there q1 (o := 0) (n := (snA R.1 vr vm).size) (by show 0 + 31 ≤ 31; omega))
  have hso := hid (sn_one R.1 o1 o2)
  obtain ⟨wF, hwF⟩ : ∃ X, w1.setCells w.heap.size 0 (snA R.1 vr vm).toList = X := ⟨_, rfl⟩
  have hRF : Hid (Blk wF w.heap.size (snA R.1 vr vm)) := by
    rw [← hwF]
    have := layE_blk w.heap.size (snA R.1 vr vm).toList _ 0 _ q1
    rw [sn_layA] at this
    exact this
  have hBF : Hid (Below w.heap.size w wF) := by rw [← hwF]; exact layE_below _ 0 _ (Nat.le_refl _) hb1.out
  have hOF : Hid (MemO wF w.heap.size wF.heap.size (memV vr vm R.1.m.page R.1.m.screen R.1.m.locked) R.1.m) := by
    have hv := hV2s.out
    have hsF : wF.heap.size = w1.heap.size := by rw [← hwF, size_cells]
    exact (hO.kept (w' := wF) (fun b hb1 hb2 => by rw [← hwF]; exact layE_heap _ _ _ _ (by omega))).mono (by omega) (by omega)
  replace hwF := hid hwF
  clear q2 hb2 hO q1 hL hb1 o1 o2 k1
  go_wp2_with (guard_target = wpList _ _ _ (Oper.mk _ (Op.store _ _ _) _ _ _ _ :: _) _ _; refine wpList_store_mid rfl 33 _ _ rfl w.heap.size 0 (snA R.1 vr vm) rfl rfl hth.out (szS2 _ _ _) hso.out ?_; rw [hwF.out])
  obtain ⟨tt, htt⟩ := hRF.out
  exact bodyPost_ret (v := .tuple #[.agg (snA R.1 vr vm), .int .i64 R.2]) (results_cell_tmpS Tryz.results8 _ _ w.heap.size tt (snA R.1 vr vm) (0, 0) _ _ rfl rfl htt Tryz.underlying33 rfl (szS2 _ _ _)) rfl ⟨vr, vm, rfl, hOF.out, hBF.out⟩
end Go.Proofs.YtghcagibdcblnaaGreatDoor

/- What the specification answers whether an address is shared, and what paging makes of a memory. -/
namespace Go.Proofs.YtghcagibdcblnaaGreatDoor
open Go.ChangeShapes Go.WideShapes Go.ChangeAt Go.RowKit
set_option linter.unusedVariables false

/-- a memory behind paging -/
def pageM (M : Mem) (v : Int) : Mem := { M with page := (Nat.land v.toNat 3 : Nat), screen := 1 + 2 * (Nat.land (v.toNat / 8) 1 : Nat), locked := !(Nat.beq (Nat.land v.toNat 32) 0) }
def pageC (M : Mem) (v : Int) : Int := if askM M v = 0 then (if M.locked = true then 12 else 0) else askM M v
def pageR (M : Mem) (v : Int) : Mem := if askM M v = 0 then (if M.locked = true then M else pageM M v) else mem0
theorem land3 (k : Nat) : Nat.land k 3 ≤ 3 := Nat.and_le_right
theorem land1 (k : Nat) : Nat.land k 1 ≤ 1 := Nat.and_le_right
theorem page_ok {M : Mem} {v : Int} (h : okM M = true) : okM (pageM M v) = true := by
  obtain ⟨h1, h2, h3, h4, h5⟩ := ok_parts h
  have k3 := land3 v.toNat
  have k1 := land1 (v.toNat / 8)
  refine ok_all h1 h2 (in_yes ?_ ?_) ?_ (fun i hi => h5 i (by omega))
  · show (0 : Int) ≤ (Nat.land v.toNat 3 : Nat)
    omega
  · show ((Nat.land v.toNat 3 : Nat) : Int) ≤ 3
    omega
  · show 1 + 2 * ((Nat.land (v.toNat / 8) 1 : Nat) : Int) = 1 ∨ 1 + 2 * ((Nat.land (v.toNat / 8) 1 : Nat) : Int) = 3
    omega
end Go.Proofs.YtghcagibdcblnaaGreatDoor

/- The state of an exact law over a memory that is handed in and one that is answered: three memories in blocks of their own, each with the box behind it. -/
namespace Go.Proofs.YtghcagibdcblnaaGreatDoor
open Go.ChangeShapes Go.WideShapes Go.ChangeAt Go.RowKit
set_option linter.unusedVariables false

structure PSt (w W : World) (A0 A8 A10 A11 : Array Value) (l8 b8 l10 b10 l11 b11 : Nat) (V8 V10 V11 : Value) (M8 Mx Mg : Mem) : Prop where
  ord : w.heap.size < l8 ∧ l8 ≤ b8 ∧ b8 < l10 ∧ l10 ≤ b10 ∧ b10 < l11 ∧ l11 ≤ b11 ∧ b11 < W.heap.size
  q0 : Blk W w.heap.size A0
  q8 : Blk W b8 A8
  q10 : Blk W b10 A10
  q11 : Blk W b11 A11
  m8 : MemO W l8 b8 V8 M8
  m10 : MemO W l10 b10 V10 Mx
  m11 : MemO W l11 b11 V11 Mg
  bel : Below w.heap.size w W
theorem Blk.touch {w w' : World} {b lo hi : Nat} {cs : Array Value} (h : Blk w b cs) (ht : Touch lo hi w w') (hd : b < lo ∨ hi ≤ b) : Blk w' b cs := by
  have hl := h.lt
  obtain ⟨t, h⟩ := h
  exact ⟨t, (ht.block b hl hd).trans h⟩
theorem PSt.below {w W W' : World} {A0 A8 A10 A11 : Array Value} {l8 b8 l10 b10 l11 b11 : Nat} {V8 V10 V11 : Value} {M8 Mx Mg : Mem} (h : PSt w W A0 A8 A10 A11 l8 b8 l10 b10 l11 b11 V8 V10 V11 M8 Mx Mg) (hb : Below W.heap.size W W') :
    PSt w W' A0 A8 A10 A11 l8 b8 l10 b10 l11 b11 V8 V10 V11 M8 Mx Mg := by
  obtain ⟨⟨o1, o2, o3, o4, o5, o6, o7⟩, q0, q8, q10, q11, m8, m10, m11, bel⟩ := h
  have hz := hb.size
  exact ⟨⟨o1, o2, o3, o4, o5, o6, by omega⟩, q0.below hb (by omega), q8.below hb (by omega), q10.below hb (by omega), q11.below hb (by omega), m8.below hb (by omega), m10.below hb (by omega), m11.below hb (by omega), bel.trans (hb.mono bel.size)⟩
theorem PSt.markX {w W W' : World} {A0 A8 A10 A11 : Array Value} {l8 b8 l10 b10 l11 b11 : Nat} {V8 V10 V11 : Value} {M8 Mx Mg Mx' : Mem} (h : PSt w W A0 A8 A10 A11 l8 b8 l10 b10 l11 b11 V8 V10 V11 M8 Mx Mg) (ht : Touch l10 b10 W W') (hm : MemO W' l10 b10 V10 Mx') :
    PSt w W' A0 A8 A10 A11 l8 b8 l10 b10 l11 b11 V8 V10 V11 M8 Mx' Mg := by
  obtain ⟨⟨o1, o2, o3, o4, o5, o6, o7⟩, q0, q8, q10, q11, m8, m10, m11, bel⟩ := h
  have hz := ht.size
  have hw := bel.size
  exact ⟨⟨o1, o2, o3, o4, o5, o6, by omega⟩, q0.touch ht (by omega), q8.touch ht (by omega), q10.touch ht (by omega), q11.touch ht (by omega), m8.touch ht (by omega) (by omega), hm, m11.touch ht (by omega) (by omega), ht.below bel (by omega) hw⟩
theorem PSt.markG {w W W' : World} {A0 A8 A10 A11 : Array Value} {l8 b8 l10 b10 l11 b11 : Nat} {V8 V10 V11 : Value} {M8 Mx Mg Mg' : Mem} (h : PSt w W A0 A8 A10 A11 l8 b8 l10 b10 l11 b11 V8 V10 V11 M8 Mx Mg) (ht : Touch l11 b11 W W') (hm : MemO W' l11 b11 V11 Mg') :
    PSt w W' A0 A8 A10 A11 l8 b8 l10 b10 l11 b11 V8 V10 V11 M8 Mx Mg' := by
  obtain ⟨⟨o1, o2, o3, o4, o5, o6, o7⟩, q0, q8, q10, q11, m8, m10, m11, bel⟩ := h
  have hz := ht.size
  have hw := bel.size
  exact ⟨⟨o1, o2, o3, o4, o5, o6, by omega⟩, q0.touch ht (by omega), q8.touch ht (by omega), q10.touch ht (by omega), q11.touch ht (by omega), m8.touch ht (by omega) (by omega), m10.touch ht (by omega) (by omega), hm, ht.below bel (by omega) hw⟩
/-- the same for an answer that hangs on no memory -/
structure NSt (w W : World) (A8 A11 : Array Value) (b8 l11 b11 : Nat) (V8 V11 : Value) (M8 Mg : Mem) : Prop where
  ord : w.heap.size ≤ b8 ∧ b8 < l11 ∧ l11 ≤ b11 ∧ b11 < W.heap.size
  q8 : Blk W b8 A8
  q11 : Blk W b11 A11
  m8 : MemO W w.heap.size b8 V8 M8
  m11 : MemO W l11 b11 V11 Mg
  bel : Below w.heap.size w W
theorem NSt.below {w W W' : World} {A8 A11 : Array Value} {b8 l11 b11 : Nat} {V8 V11 : Value} {M8 Mg : Mem} (h : NSt w W A8 A11 b8 l11 b11 V8 V11 M8 Mg) (hb : Below W.heap.size W W') : NSt w W' A8 A11 b8 l11 b11 V8 V11 M8 Mg := by
  obtain ⟨⟨o1, o2, o3, o4⟩, q8, q11, m8, m11, bel⟩ := h
  have hz := hb.size
  exact ⟨⟨o1, o2, o3, by omega⟩, q8.below hb (by omega), q11.below hb (by omega), m8.below hb (by omega), m11.below hb (by omega), bel.trans (hb.mono bel.size)⟩
theorem NSt.markG {w W W' : World} {A8 A11 : Array Value} {b8 l11 b11 : Nat} {V8 V11 : Value} {M8 Mg Mg' : Mem} (h : NSt w W A8 A11 b8 l11 b11 V8 V11 M8 Mg) (ht : Touch l11 b11 W W') (hm : MemO W' l11 b11 V11 Mg') : NSt w W' A8 A11 b8 l11 b11 V8 V11 M8 Mg' := by
  obtain ⟨⟨o1, o2, o3, o4⟩, q8, q11, m8, m11, bel⟩ := h
  have hz := ht.size
  have hw := bel.size
  exact ⟨⟨o1, o2, o3, by omega⟩, q8.touch ht (by omega), q11.touch ht (by omega), m8.touch ht (by omega) (by omega), hm, ht.below bel (by omega) hw⟩
theorem mem0_small : Small mem0 := ⟨Nat.zero_le _, Nat.zero_le _, Nat.zero_le _⟩
theorem pre_set (zss : List (List Int)) (j : Nat) (zs : List Int) (h : zs.length = (zss.getD j []).length) (i : Nat) : pre (zss.set j zs) i = pre zss i := by
  unfold pre
  rw [List.map_take, List.map_take, List.map_set]
  congr 2
  apply List.ext_getElem?
  intro k
  by_cases e : j = k
  · subst e
    by_cases hj : j < zss.length
    · rw [List.getElem?_set_self (by simpa using hj), List.getElem?_map, List.getElem?_eq_getElem hj, h, List.getD_eq_getElem?_getD, List.getElem?_eq_getElem hj]
      rfl
    · rw [List.getElem?_eq_none (by simp; omega), List.getElem?_eq_none (by simp; omega)]
  · rw [List.getElem?_set_ne e]
theorem poke_small {M : Mem} (h : Small M) (a v : Int) : Small (pokeR M a v) := by
  unfold pokeR
  split
  · unfold pokeM
    split
    · exact h
    · refine ⟨h.1, by rw [List.length_set]; exact h.2.1, ?_⟩
      show pre (M.ram.set _ _) (M.ram.set _ _).length ≤ _
      rw [pre_set _ _ _ (by rw [List.length_set]), List.length_set]
      exact h.2.2
  · exact mem0_small
theorem page_small {M : Mem} (h : Small M) (v : Int) : Small (pageR M v) := by
  unfold pageR
  split
  · split
    · exact h
    · exact h
  · exact mem0_small
theorem new_small (s : ByteArray) : Small (newM s) := by
  unfold newM
  split
  · rename_i h
    refine ⟨by show (romL s).length ≤ _; rw [romL_len]; omega, by show (List.replicate 4 (List.replicate 64 (0 : Int))).length ≤ _; decide, by show pre (List.replicate 4 (List.replicate 64 (0 : Int))) (List.replicate 4 (List.replicate 64 (0 : Int))).length ≤ _; decide +kernel⟩
  · exact mem0_small
end Go.Proofs.YtghcagibdcblnaaGreatDoor

/- Snapshots that were read, in a law: marked, held, side by side. -/
namespace Go.Proofs.YtghcagibdcblnaaGreatDoor
open Go.ChangeShapes Go.WideShapes Go.ChangeAt Go.RowKit
set_option linter.unusedVariables false
set_option linter.unusedSimpArgs false

theorem rdB_cons (k : Nat) (lo hi : Int) (L : List Int) : rdB (k + 1) (lo :: hi :: L) = if L.length < (lo + 256 * hi).toNat then ([], [], 9)
    else if (expE 64 (L.take (lo + 256 * hi).toNat) []).2 = 0 then
      (if (rdB k (L.drop (lo + 256 * hi).toNat)).2.2 = 0 then ((expE 64 (L.take (lo + 256 * hi).toNat) []).1 :: (rdB k (L.drop (lo + 256 * hi).toNat)).1, (rdB k (L.drop (lo + 256 * hi).toNat)).2.1, 0) else ([], [], (rdB k (L.drop (lo + 256 * hi).toNat)).2.2))
    else ([], [], (expE 64 (L.take (lo + 256 * hi).toNat) []).2) := rfl
theorem rdB_small : ∀ (k : Nat) (L : List Int), (rdB k L).1.length ≤ k ∧ ∀ b ∈ (rdB k L).1, b.length = 64
  | 0, L => ⟨Nat.le_refl _, fun b h => (by cases h)⟩
  | k + 1, [] => ⟨Nat.zero_le _, fun b h => (by cases h)⟩
  | k + 1, [_] => ⟨Nat.zero_le _, fun b h => (by cases h)⟩
  | k + 1, lo :: hi :: L => by
    have ih := rdB_small k (L.drop (lo + 256 * hi).toNat)
    rw [rdB_cons]
    by_cases h1 : L.length < (lo + 256 * hi).toNat
    · rw [if_pos h1]
      exact ⟨Nat.zero_le _, fun b h => (by cases h)⟩
    · rw [if_neg h1]
      by_cases hx : (expE 64 (L.take (lo + 256 * hi).toNat) []).2 = 0
      · rw [if_pos hx]
        by_cases h2 : (rdB k (L.drop (lo + 256 * hi).toNat)).2.2 = 0
        · rw [if_pos h2]
          refine ⟨by rw [List.length_cons]; omega, fun b hb => ?_⟩
          rcases List.mem_cons.1 hb with rfl | hb
          · exact expL_ok 64 _ _ _ hx
          · exact ih.2 b hb
        · rw [if_neg h2]
          exact ⟨Nat.zero_le _, fun b h => (by cases h)⟩
      · rw [if_neg hx]
        exact ⟨Nat.zero_le _, fun b h => (by cases h)⟩
theorem pre_64 {B : List (List Int)} (h : ∀ b ∈ B, b.length = 64) : ∀ i, i ≤ B.length → pre B i = 64 * i
  | 0, _ => rfl
  | i + 1, hi => by
    rw [pre_succ B i (by omega), pre_64 h i (by omega)]
    have : B.getD i [] ∈ B := by
      rw [List.getD_eq_getElem?_getD, List.getElem?_eq_getElem (by omega)]
      exact List.getElem_mem _
    rw [h _ this]
    omega
theorem read_small (t rom : ByteArray) : Small (read2 t rom).1.m := by
  have h0 : Small sn0.m := mem0_small
  unfold read2
  split
  · exact h0
  · split
    · rename_i h1 h2
      unfold rdS
      split
      · exact h0
      · split
        · exact h0
        · split
          · exact h0
          · split
            · exact h0
            · split
              · exact h0
              · have hs := rdB_small 4 ((bts t).drop 15)
                refine ⟨?_, ?_, ?_⟩
                · show (romL rom).length ≤ _
                  rw [romL_len]
                  omega
                · show (rdB 4 ((bts t).drop 15)).1.length ≤ _
                  omega
                · show pre (rdB 4 ((bts t).drop 15)).1 (rdB 4 ((bts t).drop 15)).1.length ≤ _
                  rw [pre_64 hs.2 _ (Nat.le_refl _)]
                  omega
    · exact h0
/-- two answers side by side, the second of which may be marked -/
structure LS (w W : World) (S : Sn) (M7 : Mem) (b5 b7 lo5 lo7 : Nat) (u5 m5 u7 m7 : Value) : Prop where
  ord : w.heap.size ≤ lo5 ∧ lo5 ≤ b5 ∧ b5 < lo7 ∧ lo7 ≤ b7 ∧ b7 < W.heap.size
  q5 : Blk W b5 (snA S u5 m5)
  q7 : Blk W b7 (snA S u7 m7)
  o5 : MemO W lo5 b5 (memV u5 m5 S.m.page S.m.screen S.m.locked) S.m
  o7 : MemO W lo7 b7 (memV u7 m7 S.m.page S.m.screen S.m.locked) M7
  bel : Below w.heap.size w W
theorem LS.below {w W W' : World} {S : Sn} {M7 : Mem} {b5 b7 lo5 lo7 : Nat} {u5 m5 u7 m7 : Value} (h : LS w W S M7 b5 b7 lo5 lo7 u5 m5 u7 m7) (hb : Below W.heap.size W W') : LS w W' S M7 b5 b7 lo5 lo7 u5 m5 u7 m7 := by
  have ho := h.ord
  have hs := hb.size
  exact ⟨by omega, h.q5.below hb h.q5.lt, h.q7.below hb h.q7.lt, h.o5.below hb (by omega), h.o7.below hb (by omega), new_trans h.bel hb⟩
theorem blk_touch {lo hi b : Nat} {w w' : World} {A : Array Value} (h : Blk w b A) (ht : Touch lo hi w w') (hd : b < lo ∨ hi ≤ b) : Blk w' b A := by
  obtain ⟨t, hh⟩ := id h
  exact ⟨t, (ht.block b h.lt (by omega)).trans hh⟩
theorem LS.mark {w W W' : World} {S : Sn} {M7 M8 : Mem} {b5 b7 lo5 lo7 : Nat} {u5 m5 u7 m7 : Value} (h : LS w W S M7 b5 b7 lo5 lo7 u5 m5 u7 m7) (ht : Touch lo7 b7 W W') (hm : MemO W' lo7 b7 (memV u7 m7 S.m.page S.m.screen S.m.locked) M8) : LS w W' S M8 b5 b7 lo5 lo7 u5 m5 u7 m7 := by
  have ho := h.ord
  have hs := ht.size
  exact ⟨by omega, blk_touch h.q5 ht (.inl ho.2.2.1), blk_touch h.q7 ht (.inr (Nat.le_refl _)), h.o5.touch ht (by omega) (.inl (by omega)), hm, ht.below h.bel (by omega) (by omega)⟩
/-- an answer goes into a box -/
theorem box_sn (w1 : World) (S : Sn) (u m : Value) : ∃ w2, (w1.alloc (.cells zS 33)).setCells w1.heap.size 0 (snA S u m).toList = w2 ∧ Below w1.heap.size w1 w2 ∧ Blk w2 w1.heap.size (snA S u m) ∧ (w1.alloc (.cells zS 33)).there w1.heap.size 0 (snA S u m).size := by
  have qn := Blk.new w1 zS 33
  refine ⟨_, rfl, layE_below _ 0 _ (Nat.le_refl _) ((Below.refl _ _).alloc (Nat.le_refl _) _), ?_, blk_there qn (by show 0 + 31 ≤ 31; omega)⟩
  rw [zS_eq] at qn
  have := layE_blk w1.heap.size (snA S u m).toList _ 0 _ qn
  rw [sn_layA] at this
  exact this
end Go.Proofs.YtghcagibdcblnaaGreatDoor
