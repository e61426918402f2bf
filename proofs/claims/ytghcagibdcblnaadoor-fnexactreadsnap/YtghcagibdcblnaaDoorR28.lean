/- ReadSnap: the specification; marks in a snapshot. -/
import Derived.Test.YtghcagibdcblnaaDoorErr
import Derived.Test.YtghcagibdcblnaaDoorR12
import Derived.Test.YtghcagibdcblnaaDoorR06
import Derived.Test.YtghcagibdcblnaaDoorMer
import Derived.Test.YtghcagibdcblnaaDoorMnr
namespace Go.Proofs.YtghcagibdcblnaaDoor
open Go.ChangeShapes Go.WideShapes Go.ChangeAt Go.RowKit
set_option linter.unusedVariables false
set_option linter.unusedSimpArgs false

def read2 (t rom : ByteArray) : Sn × Int := if 65536 < t.size ∨ 65536 < rom.size then (sn0, 2) else if rom.size = 64 then rdS (romL rom) (bts t) else (sn0, 8)
set_option maxRecDepth 100000 in
set_option maxHeartbeats 1000000 in
theorem readsn_spec (t rom : ByteArray) (w : World) (ht : t.size ≤ maxLen) (hr : rom.size ≤ maxLen) : Calls Tryd.prog 4 #[.string t, .string rom] w (RdOut w (read2 t rom)) := by
  unfold maxLen at ht hr
  have q := hid (Blk.new w zS 32)
  have hb := hid ((Below.refl w.heap.size w).alloc (Nat.le_refl _) (.cells zS 32))
  have hfail : ∀ c : Int, (∀ V : World, Blk V w.heap.size (snA sn0 nl nl) → Below w.heap.size w V → Hid (V.there w.heap.size 0 (snA sn0 nl nl).size) ∧ Hid (Blk (V.setCells w.heap.size 0 (snA sn0 nl nl).toList) w.heap.size (snA sn0 nl nl)) ∧ Hid (Below w.heap.size w (V.setCells w.heap.size 0 (snA sn0 nl nl).toList))) := by
    intro c V q hb
    refine ⟨blk_there q (by show 0 + 31 ≤ 31; omega), ?_, layE_below _ 0 _ (Nat.le_refl _) hb⟩
    have := layE_blk w.heap.size (snA sn0 nl nl).toList _ 0 _ q
    rw [sn_layA] at this
    exact this
  by_cases h1 : 65536 < t.size ∨ 65536 < rom.size
  · have e : read2 t rom = (sn0, 2) := by unfold read2; rw [if_pos h1]
    rw [e]
    clear e
    go_enter Tryd.func4, Tryd.ntmps4
    go_upto_region 1 with fail
    obtain ⟨V, hV⟩ : ∃ V, w.alloc (.cells zS 32) = V := ⟨_, rfl⟩
    rw [hV] at q hb ⊢
    clear hV
    rw [zS_eq] at q
    obtain ⟨hth, hRF, hBF⟩ := hfail 2 V q.out hb.out
    obtain ⟨wF, hwF⟩ : ∃ X, V.setCells w.heap.size 0 (snA sn0 nl nl).toList = X := ⟨_, rfl⟩
    rw [hwF] at hRF hBF
    replace hwF := hid hwF
    clear q hb hfail
    have h2 : Hid (65536 < (t.size : Int)) ∨ Hid (¬ 65536 < (t.size : Int) ∧ 65536 < (rom.size : Int)) := by
      by_cases hh : 65536 < t.size
      · exact .inl (by unfold Hid; omega)
      · exact .inr ⟨by omega, by omega⟩
    rcases h2 with h2 | h2
    · have c1 := h2.out
      clear h2 h1
      go_upto_region 2 with fail
      go_wp2_with (guard_target = wpList _ _ _ (Oper.mk _ (Op.store _ _ _) _ _ _ _ :: _) _ _; refine wpList_store_mid rfl 32 _ _ rfl w.heap.size 0 (snA sn0 nl nl) rfl rfl hth.out (szS2 _ _ _) (sn_one _ rfl rfl) ?_; rw [hwF.out])
      obtain ⟨tt, htt⟩ := hRF.out
      exact bodyPost_ret (v := .tuple #[.agg (snA sn0 nl nl), .int .i64 2]) (results_cell_tmpS Tryd.results4 _ _ w.heap.size tt (snA sn0 nl nl) (0, 0) _ _ rfl rfl htt Tryd.underlying32 rfl (szS2 _ _ _)) rfl ⟨nl, nl, rfl, MemO.zero _ _ _, hBF.out⟩
    · have c1 := h2.out.1
      have c2 := h2.out.2
      clear h2 h1
      go_upto_region 2 with fail
      go_wp2_with (guard_target = wpList _ _ _ (Oper.mk _ (Op.store _ _ _) _ _ _ _ :: _) _ _; refine wpList_store_mid rfl 32 _ _ rfl w.heap.size 0 (snA sn0 nl nl) rfl rfl hth.out (szS2 _ _ _) (sn_one _ rfl rfl) ?_; rw [hwF.out])
      obtain ⟨tt, htt⟩ := hRF.out
      exact bodyPost_ret (v := .tuple #[.agg (snA sn0 nl nl), .int .i64 2]) (results_cell_tmpS Tryd.results4 _ _ w.heap.size tt (snA sn0 nl nl) (0, 0) _ _ rfl rfl htt Tryd.underlying32 rfl (szS2 _ _ _)) rfl ⟨nl, nl, rfl, MemO.zero _ _ _, hBF.out⟩
  have c1 : ¬ 65536 < (t.size : Int) := by omega
  have c2 : ¬ 65536 < (rom.size : Int) := by omega
  by_cases h2 : rom.size = 64
  · have e : read2 t rom = rdS (romL rom) (bts t) := by unfold read2; rw [if_neg h1, if_pos h2]
    rw [e]
    have hL := hid (fun W => lread_spec t rom W (by omega) h2)
    generalize rdS (romL rom) (bts t) = R at *
    clear e hfail
    have c3 : ((rom.size : Int) == 64) = true := by rw [h2]; rfl
    clear h2 h1
    go_enter Tryd.func4, Tryd.ntmps4
    go_upto_region 1 with fail
    obtain ⟨V, hV⟩ : ∃ V, w.alloc (.cells zS 32) = V := ⟨_, rfl⟩
    have hVs : Hid (V.heap.size = w.heap.size + 1) := by unfold Hid; rw [← hV]; simp
    rw [hV] at q hb ⊢
    clear hV
    rw [zS_eq] at q
    go_wp2_with fail
    refine (hL.out V).mono ?_
    rintro e w1 ⟨vr, vm, rfl, hO, hb1⟩
    obtain ⟨o1, o2⟩ := memO_form2 hO
    have q1 := q.out.below hb1 q.out.lt
    have hth := hid (blk_there q1 (o := 0) (n := (snA R.1 vr vm).size) (by show 0 + 31 ≤ 31; omega))
    have hso := sn_one R.1 o1 o2
    obtain ⟨wF, hwF⟩ : ∃ X, w1.setCells w.heap.size 0 (snA R.1 vr vm).toList = X := ⟨_, rfl⟩
    have hRF : Hid (Blk wF w.heap.size (snA R.1 vr vm)) := by
      rw [← hwF]
      have := layE_blk w.heap.size (snA R.1 vr vm).toList _ 0 _ q1
      rw [sn_layA] at this
      exact this
    have hBF : Hid (Below w.heap.size w wF) := by rw [← hwF]; exact layE_below _ 0 _ (Nat.le_refl _) (new_trans hb.out hb1)
    have hOF : Hid (MemO wF w.heap.size wF.heap.size (memV vr vm R.1.m.page R.1.m.screen R.1.m.locked) R.1.m) := by
      have hv := hVs.out
      have hsF : wF.heap.size = w1.heap.size := by rw [← hwF, size_cells]
      exact (hO.kept (w' := wF) (fun b hb1 hb2 => by rw [← hwF]; exact layE_heap _ _ _ _ (by omega))).mono (by omega) (by omega)
    replace hwF := hid hwF
    clear q hb hb1 hO q1 hL
    go_wp2_with (guard_target = wpList _ _ _ (Oper.mk _ (Op.store _ _ _) _ _ _ _ :: _) _ _; refine wpList_store_mid rfl 32 _ _ rfl w.heap.size 0 (snA R.1 vr vm) rfl rfl hth.out (szS2 _ _ _) hso ?_; rw [hwF.out])
    obtain ⟨tt, htt⟩ := hRF.out
    exact bodyPost_ret (v := .tuple #[.agg (snA R.1 vr vm), .int .i64 R.2]) (results_cell_tmpS Tryd.results4 _ _ w.heap.size tt (snA R.1 vr vm) (0, 0) _ _ rfl rfl htt Tryd.underlying32 rfl (szS2 _ _ _)) rfl ⟨vr, vm, rfl, hOF.out, hBF.out⟩
  · have e : read2 t rom = (sn0, 8) := by unfold read2; rw [if_neg h1, if_neg h2]
    rw [e]
    clear e
    have c3 : ((rom.size : Int) == 64) = false := by rw [beq_eq_false_iff_ne]; omega
    clear h2 h1
    go_enter Tryd.func4, Tryd.ntmps4
    go_upto_region 1 with fail
    obtain ⟨V, hV⟩ : ∃ V, w.alloc (.cells zS 32) = V := ⟨_, rfl⟩
    rw [hV] at q hb ⊢
    clear hV
    rw [zS_eq] at q
    obtain ⟨hth, hRF, hBF⟩ := hfail 8 V q.out hb.out
    obtain ⟨wF, hwF⟩ : ∃ X, V.setCells w.heap.size 0 (snA sn0 nl nl).toList = X := ⟨_, rfl⟩
    rw [hwF] at hRF hBF
    replace hwF := hid hwF
    clear q hb hfail
    go_upto_region 4 with fail
    go_wp2_with (guard_target = wpList _ _ _ (Oper.mk _ (Op.store _ _ _) _ _ _ _ :: _) _ _; refine wpList_store_mid rfl 32 _ _ rfl w.heap.size 0 (snA sn0 nl nl) rfl rfl hth.out (szS2 _ _ _) (sn_one _ rfl rfl) ?_; rw [hwF.out])
    obtain ⟨tt, htt⟩ := hRF.out
    exact bodyPost_ret (v := .tuple #[.agg (snA sn0 nl nl), .int .i64 8]) (results_cell_tmpS Tryd.results4 _ _ w.heap.size tt (snA sn0 nl nl) (0, 0) _ _ rfl rfl htt Tryd.underlying32 rfl (szS2 _ _ _)) rfl ⟨nl, nl, rfl, MemO.zero _ _ _, hBF.out⟩
end Go.Proofs.YtghcagibdcblnaaDoor

/- What the specification answers whether an address is shared, and what paging makes of a memory. -/
namespace Go.Proofs.YtghcagibdcblnaaDoor
open Go.ChangeShapes Go.WideShapes Go.ChangeAt Go.RowKit
set_option linter.unusedVariables false

/-- a memory behind paging -/
def pageM (M : Mem) (v : Int) : Mem := { M with page := (Nat.land v.toNat 3 : Nat), screen := 1 + 2 * (Nat.land (v.toNat / 8) 1 : Nat), locked := !(Nat.beq (Nat.land v.toNat 32) 0) }
def pageC (M : Mem) (v : Int) : Int := if askM M v = 0 then (if M.locked = true then 12 else 0) else askM M v
def pageR (M : Mem) (v : Int) : Mem := if askM M v = 0 then (if M.locked = true then M else pageM M v) else mem0
theorem land3 (k : Nat) : Nat.land k 3 ≤ 3 := Nat.and_le_right
theorem land1 (k : Nat) : Nat.land k 1 ≤ 1 := Nat.and_le_right
theorem page_ok {M : Mem} {v : Int} (h : okM M = true) : okM (pageM M v) = true := by
  obtain ⟨h1, h2, h3, h4, h5⟩ := ok_parts h
  have k3 := land3 v.toNat
  have k1 := land1 (v.toNat / 8)
  refine ok_all h1 h2 (in_yes ?_ ?_) ?_ (fun i hi => h5 i (by omega))
  · show (0 : Int) ≤ (Nat.land v.toNat 3 : Nat)
    omega
  · show ((Nat.land v.toNat 3 : Nat) : Int) ≤ 3
    omega
  · show 1 + 2 * ((Nat.land (v.toNat / 8) 1 : Nat) : Int) = 1 ∨ 1 + 2 * ((Nat.land (v.toNat / 8) 1 : Nat) : Int) = 3
    omega
end Go.Proofs.YtghcagibdcblnaaDoor

/- The state of an exact law over a memory that is handed in and one that is answered: three memories in blocks of their own, each with the box behind it. -/
namespace Go.Proofs.YtghcagibdcblnaaDoor
open Go.ChangeShapes Go.WideShapes Go.ChangeAt Go.RowKit
set_option linter.unusedVariables false

structure PSt (w W : World) (A0 A8 A10 A11 : Array Value) (l8 b8 l10 b10 l11 b11 : Nat) (V8 V10 V11 : Value) (M8 Mx Mg : Mem) : Prop where
  ord : w.heap.size < l8 ∧ l8 ≤ b8 ∧ b8 < l10 ∧ l10 ≤ b10 ∧ b10 < l11 ∧ l11 ≤ b11 ∧ b11 < W.heap.size
  q0 : Blk W w.heap.size A0
  q8 : Blk W b8 A8
  q10 : Blk W b10 A10
  q11 : Blk W b11 A11
  m8 : MemO W l8 b8 V8 M8
  m10 : MemO W l10 b10 V10 Mx
  m11 : MemO W l11 b11 V11 Mg
  bel : Below w.heap.size w W
theorem Blk.touch {w w' : World} {b lo hi : Nat} {cs : Array Value} (h : Blk w b cs) (ht : Touch lo hi w w') (hd : b < lo ∨ hi ≤ b) : Blk w' b cs := by
  have hl := h.lt
  obtain ⟨t, h⟩ := h
  exact ⟨t, (ht.block b hl hd).trans h⟩
theorem PSt.below {w W W' : World} {A0 A8 A10 A11 : Array Value} {l8 b8 l10 b10 l11 b11 : Nat} {V8 V10 V11 : Value} {M8 Mx Mg : Mem} (h : PSt w W A0 A8 A10 A11 l8 b8 l10 b10 l11 b11 V8 V10 V11 M8 Mx Mg) (hb : Below W.heap.size W W') :
    PSt w W' A0 A8 A10 A11 l8 b8 l10 b10 l11 b11 V8 V10 V11 M8 Mx Mg := by
  obtain ⟨⟨o1, o2, o3, o4, o5, o6, o7⟩, q0, q8, q10, q11, m8, m10, m11, bel⟩ := h
  have hz := hb.size
  exact ⟨⟨o1, o2, o3, o4, o5, o6, by omega⟩, q0.below hb (by omega), q8.below hb (by omega), q10.below hb (by omega), q11.below hb (by omega), m8.below hb (by omega), m10.below hb (by omega), m11.below hb (by omega), bel.trans (hb.mono bel.size)⟩
theorem PSt.markX {w W W' : World} {A0 A8 A10 A11 : Array Value} {l8 b8 l10 b10 l11 b11 : Nat} {V8 V10 V11 : Value} {M8 Mx Mg Mx' : Mem} (h : PSt w W A0 A8 A10 A11 l8 b8 l10 b10 l11 b11 V8 V10 V11 M8 Mx Mg) (ht : Touch l10 b10 W W') (hm : MemO W' l10 b10 V10 Mx') :
    PSt w W' A0 A8 A10 A11 l8 b8 l10 b10 l11 b11 V8 V10 V11 M8 Mx' Mg := by
  obtain ⟨⟨o1, o2, o3, o4, o5, o6, o7⟩, q0, q8, q10, q11, m8, m10, m11, bel⟩ := h
  have hz := ht.size
  have hw := bel.size
  exact ⟨⟨o1, o2, o3, o4, o5, o6, by omega⟩, q0.touch ht (by omega), q8.touch ht (by omega), q10.touch ht (by omega), q11.touch ht (by omega), m8.touch ht (by omega) (by omega), hm, m11.touch ht (by omega) (by omega), ht.below bel (by omega) hw⟩
theorem PSt.markG {w W W' : World} {A0 A8 A10 A11 : Array Value} {l8 b8 l10 b10 l11 b11 : Nat} {V8 V10 V11 : Value} {M8 Mx Mg Mg' : Mem} (h : PSt w W A0 A8 A10 A11 l8 b8 l10 b10 l11 b11 V8 V10 V11 M8 Mx Mg) (ht : Touch l11 b11 W W') (hm : MemO W' l11 b11 V11 Mg') :
    PSt w W' A0 A8 A10 A11 l8 b8 l10 b10 l11 b11 V8 V10 V11 M8 Mx Mg' := by
  obtain ⟨⟨o1, o2, o3, o4, o5, o6, o7⟩, q0, q8, q10, q11, m8, m10, m11, bel⟩ := h
  have hz := ht.size
  have hw := bel.size
  exact ⟨⟨o1, o2, o3, o4, o5, o6, by omega⟩, q0.touch ht (by omega), q8.touch ht (by omega), q10.touch ht (by omega), q11.touch ht (by omega), m8.touch ht (by omega) (by omega), m10.touch ht (by omega) (by omega), hm, ht.below bel (by omega) hw⟩
/-- the same for an answer that hangs on no memory -/
structure NSt (w W : World) (A8 A11 : Array Value) (b8 l11 b11 : Nat) (V8 V11 : Value) (M8 Mg : Mem) : Prop where
  ord : w.heap.size ≤ b8 ∧ b8 < l11 ∧ l11 ≤ b11 ∧ b11 < W.heap.size
  q8 : Blk W b8 A8
  q11 : Blk W b11 A11
  m8 : MemO W w.heap.size b8 V8 M8
  m11 : MemO W l11 b11 V11 Mg
  bel : Below w.heap.size w W
theorem NSt.below {w W W' : World} {A8 A11 : Array Value} {b8 l11 b11 : Nat} {V8 V11 : Value} {M8 Mg : Mem} (h : NSt w W A8 A11 b8 l11 b11 V8 V11 M8 Mg) (hb : Below W.heap.size W W') : NSt w W' A8 A11 b8 l11 b11 V8 V11 M8 Mg := by
  obtain ⟨⟨o1, o2, o3, o4⟩, q8, q11, m8, m11, bel⟩ := h
  have hz := hb.size
  exact ⟨⟨o1, o2, o3, by omega⟩, q8.below hb (by omega), q11.below hb (by omega), m8.below hb (by omega), m11.below hb (by omega), bel.trans (hb.mono bel.size)⟩
theorem NSt.markG {w W W' : World} {A8 A11 : Array Value} {b8 l11 b11 : Nat} {V8 V11 : Value} {M8 Mg Mg' : Mem} (h : NSt w W A8 A11 b8 l11 b11 V8 V11 M8 Mg) (ht : Touch l11 b11 W W') (hm : MemO W' l11 b11 V11 Mg') : NSt w W' A8 A11 b8 l11 b11 V8 V11 M8 Mg' := by
  obtain ⟨⟨o1, o2, o3, o4⟩, q8, q11, m8, m11, bel⟩ := h
  have hz := ht.size
  have hw := bel.size
  exact ⟨⟨o1, o2, o3, by omega⟩, q8.touch ht (by omega), q11.touch ht (by omega), m8.touch ht (by omega) (by omega), hm, ht.below bel (by omega) hw⟩
theorem mem0_small : Small mem0 := ⟨Nat.zero_le _, Nat.zero_le _, Nat.zero_le _⟩
theorem pre_set (zss : List (List Int)) (j : Nat) (zs : List Int) (h : zs.length = (zss.getD j []).length) (i : Nat) : pre (zss.set j zs) i = pre zss i := by
  unfold pre
  rw [List.map_take, List.map_take, List.map_set]
  congr 2
  apply List.ext_getElem?
  intro k
  by_cases e : j = k
  · subst e
    by_cases hj : j < zss.length
    · rw [List.getElem?_set_self (by simpa using hj), List.getElem?_map, List.getElem?_eq_getElem hj, h, List.getD_eq_getElem?_getD, List.getElem?_eq_getElem hj]
      rfl
    · rw [List.getElem?_eq_none (by simp; omega), List.getElem?_eq_none (by simp; omega)]
  · rw [List.getElem?_set_ne e]
theorem poke_small {M : Mem} (h : Small M) (a v : Int) : Small (pokeR M a v) := by
  unfold pokeR
  split
  · unfold pokeM
    split
    · exact h
    · refine ⟨h.1, by rw [List.length_set]; exact h.2.1, ?_⟩
      show pre (M.ram.set _ _) (M.ram.set _ _).length ≤ _
      rw [pre_set _ _ _ (by rw [List.length_set]), List.length_set]
      exact h.2.2
  · exact mem0_small
theorem page_small {M : Mem} (h : Small M) (v : Int) : Small (pageR M v) := by
  unfold pageR
  split
  · split
    · exact h
    · exact h
  · exact mem0_small
theorem new_small (s : ByteArray) : Small (newM s) := by
  unfold newM
  split
  · rename_i h
    refine ⟨by show (romL s).length ≤ _; rw [romL_len]; omega, by show (List.replicate 4 (List.replicate 64 (0 : Int))).length ≤ _; decide, by show pre (List.replicate 4 (List.replicate 64 (0 : Int))) (List.replicate 4 (List.replicate 64 (0 : Int))).length ≤ _; decide +kernel⟩
  · exact mem0_small
end Go.Proofs.YtghcagibdcblnaaDoor
