/- A run is taken off a text that was compressed: the program. -/
import Derived.Test.YtghcagibdcblnaaDoorR24
import Derived.Test.YtghcagibdcblnaaDoorR30
import Derived.Test.YtghcagibdcblnaaDoorR22
import Derived.BigRegion
namespace Go.Proofs.YtghcagibdcblnaaDoor
open Go.ChangeShapes Go.WideShapes Go.ChangeAt Go.RowKit
set_option linter.unusedVariables false
set_option linter.unusedSimpArgs false

abbrev mk2 : ByteArray := ⟨#[237, 237]⟩
abbrev iX (x : Addr) : Value := .iface 140 (.pointer (some x))
def pfB (s : ByteArray) : Bool := decide (2 ≤ s.size ∧ byt s 0 = 237 ∧ byt s 1 = 237)
theorem pf_two {s : ByteArray} (h : 2 ≤ s.size) : ((s.extract 0 2).toList == ([237, 237] : List UInt8)) = pfB s := by
  have hl : 2 ≤ s.data.toList.length := by simpa using h
  have e : (s.extract 0 2).toList = s.data.toList.take 2 := by
    rw [bl_listL]
    simp
  rw [e]
  unfold pfB byt
  have hd : s.size = s.data.toList.length := by simp
  rw [hd]
  generalize s.data.toList = L at *
  match L, hl with
  | x :: y :: L, _ =>
    have h1 : decide (2 ≤ (x :: y :: L).length ∧ (((x :: y :: L).getD 0 0).toNat : Int) = 237 ∧ (((x :: y :: L).getD 1 0).toNat : Int) = 237) = (x == 237 && y == 237) := by
      have hx : ∀ z : UInt8, ((z.toNat : Int) = 237) ↔ z = 237 := by
        intro z
        constructor
        · intro h
          apply UInt8.toNat_inj.1
          show z.toNat = 237
          omega
        · rintro rfl
          rfl
      simp [hx]
      rfl
    rw [h1]
    show ([x, y] == [237, 237]) = _
    simp [List.cons_beq_cons]
set_option maxRecDepth 100000 in
theorem hpl_impl (s : ByteArray) (w : World) (hs : s.size ≤ 1048576) : Calls Tryd.prog 76 #[.string s, .string mk2] w fun e w' => e = .returned (.bool (pfB s)) ∧ w' = w := by
  by_cases h : 2 ≤ s.size
  · have hp := pf_two h
    have c1 : (2 : Int) ≤ (s.size : Int) := by omega
    generalize pfB s = B at *
    go_enter Tryd.func76, Tryd.ntmps76
    go_wp2
    go_ret
    exact ⟨rfl, rfl⟩
  · have hp : pfB s = false := by unfold pfB; exact decide_eq_false (by omega)
    have c1 : ¬ (2 : Int) ≤ (s.size : Int) := by omega
    rw [hp]
    go_enter Tryd.func76, Tryd.ntmps76
    go_wp2
    go_ret
    exact ⟨rfl, rfl⟩
set_option maxRecDepth 100000 in
theorem hp_impl (s : ByteArray) (w : World) (hs : s.size ≤ 1048576) : Calls Tryd.prog 72 #[.string s, .string mk2] w fun e w' => e = .returned (.bool (pfB s)) ∧ w' = w := by
  have hP := hid (hpl_impl s w hs)
  go_enter Tryd.func72, Tryd.ntmps72
  go_wp2_with fail
  refine hP.out.mono ?_
  rintro e w1 ⟨rfl, hww⟩
  obtain rfl := hww.symm
  go_wp2
  go_ret
  exact ⟨rfl, rfl⟩
set_option maxRecDepth 100000 in
theorem read1_impl (t : ByteArray) (w : World) (ht : t.size = 1) : Calls Tryd.prog 73 #[.string t] w fun e w' => e = .returned (rnV (byt t 0) 1) ∧ Below w.heap.size w w' := by
  have hx := run_idx t 0 0 rfl (by omega)
  have hd : ((t.size : Int) == 4) = false := by rw [beq_eq_false_iff_ne]; omega
  generalize byt t 0 = b at *
  go_enter Tryd.func73, Tryd.ntmps73
  go_wp2
  refine bodyPost_ret (v := rnV b 1) (by simp [results, Tryd.results73, go_sem]) rfl ⟨rfl, ?_⟩
  exact (Below.refl _ _).alloc (Nat.le_refl _) _
set_option maxRecDepth 100000 in
theorem read4_impl (t : ByteArray) (n : Nat) (w : World) (ht : t.size = 4) (hn : byt t 2 = (n : Int)) (hn2 : n ≤ 255) : Calls Tryd.prog 73 #[.string t] w fun e w' => e = .returned (rnV (byt t 3) n) ∧ Below w.heap.size w w' := by
  have hx := run_idx t 3 3 rfl (by omega)
  have hy := run_idx t 2 2 rfl (by omega)
  rw [hn] at hy
  have hd : ((t.size : Int) == 4) = true := by rw [ht]; rfl
  generalize byt t 3 = b at *
  clear hn
  go_enter Tryd.func73, Tryd.ntmps73
  go_wp2
  go_region
  go_wp2
  refine bodyPost_ret (v := rnV b n) (by simp [results, Tryd.results73, go_sem]) rfl ⟨rfl, ?_⟩
  exact ((Below.refl _ _).alloc (Nat.le_refl _) _).drew
theorem three_newL (w : World) (A0 A1 A2 : Array Value) (t0 t1 t2 : TypeId) :
    let W := ((w.alloc (.cells A0 t0)).alloc (.cells A1 t1)).alloc (.cells A2 t2)
    W.heap.size = w.heap.size + 1 + 1 + 1 ∧ Blk W w.heap.size A0 ∧ Blk W (w.heap.size + 1) A1 ∧ Blk W (w.heap.size + 1 + 1) A2 ∧ Below w.heap.size w W := by
  intro W
  have q1 := Blk.new (w.alloc (.cells A0 t0)) A1 t1
  have q2 := Blk.new ((w.alloc (.cells A0 t0)).alloc (.cells A1 t1)) A2 t2
  simp only [World.size_alloc] at q1 q2
  exact ⟨by simp [W], ((Blk.new w A0 t0).alloc _).alloc _, q1.alloc _, q2, (((Below.refl _ _).alloc (Nat.le_refl _) _).alloc (by simp) _).alloc (by simp; omega) _⟩
theorem pf_at {t : ByteArray} {a : Nat} (ha : a < t.size) : pfB (t.extract a t.size) = decide (a + 1 < t.size ∧ byt t a = 237 ∧ byt t (a + 1) = 237) := by
  unfold pfB
  have hs : (t.extract a t.size).size = t.size - a := by simp [ByteArray.size_extract]
  rw [hs, byt_extract t (by omega) (Nat.le_refl _)]
  by_cases h : a + 1 < t.size
  · rw [byt_extract t (by omega) (Nat.le_refl _)]
    have e0 : a + 0 = a := by omega
    rw [e0, decide_eq_decide]
    constructor
    · rintro ⟨_, h1, h2⟩
      exact ⟨h, h1, h2⟩
    · rintro ⟨_, h1, h2⟩
      exact ⟨by omega, h1, h2⟩
  · rw [decide_eq_false (by omega), decide_eq_false (by omega)]
theorem take_ok {s : ByteArray} {a n : Nat} (h : a + n ≤ s.size) (hs : s.size ≤ 65536) : takeV s a n = ((s, ((a + n : Nat) : Int)), s.extract a (a + n), 0) := by
  have hst : stB s (a : Int) = true := by unfold stB; simp; omega
  unfold takeV
  rw [if_neg (by rw [hst]; simp), if_neg (by omega), if_neg (by omega)]
  have e : ((a : Int) + (n : Int)) = ((a + n : Nat) : Int) := by omega
  rw [e, Int.toNat_natCast, Int.toNat_natCast]
theorem take_cut {s : ByteArray} {a n : Nat} (h : s.size < a + n) (ha : a ≤ s.size) (hs : s.size ≤ 65536) (hn : n ≤ 65536) : takeV s a n = ((s, (a : Int)), ByteArray.empty, 9) := by
  have hst : stB s (a : Int) = true := by unfold stB; simp; omega
  unfold takeV
  rw [if_neg (by rw [hst]; simp), if_neg (by omega), if_pos (by omega)]
set_option maxRecDepth 100000 in
set_option maxHeartbeats 1000000 in
/-- a run is taken, or one byte -/
theorem tr_ok (t : ByteArray) (a z n : Nat) (b : Int) (pf : Bool) (e0 e1 e2 : Addr) (w : World) (hE : Errs w e0 e1 e2) (ht : t.size ≤ 65536) (ha : a < t.size) (hp : pfB (t.extract a t.size) = pf) (hz : z = bif pf then 4 else 1) (haz : a + z ≤ t.size) (hR : ∀ W, Calls Tryd.prog 73 #[.string (t.extract a (a + z))] W fun e w' => e = .returned (rnV b n) ∧ Below W.heap.size W w') :
    Calls Tryd.prog 67 #[cur t (a : Int)] w fun e w' => e = .returned (.tuple #[cur t ((a + z : Nat) : Int), rnV b n, .nilIface]) ∧ Below w.heap.size w w' := by
  have hP := hid (fun W => hp_impl (t.extract a t.size) W (by simp [ByteArray.size_extract]; omega))
  rw [hp] at hP
  have hT := hid (fun W (hW : Errs W e0 e1 e2) => take_impl t a z e0 e1 e2 W (by unfold maxLen; omega) hW)
  rw [take_ok haz ht] at hT
  have hT2 : Hid (∀ W, Errs W e0 e1 e2 → Calls Tryd.prog 53 #[cur t (a : Int), .int .i64 (z : Int)] W fun e w' => e = .returned (.tuple #[cur t ((a + z : Nat) : Int), .string (t.extract a (a + z)), .nilIface]) ∧ Below W.heap.size W w') := fun W hW => hT.out W hW
  clear hT hp
  obtain ⟨q, hq⟩ : ∃ q : Nat, a + z = q := ⟨_, rfl⟩
  rw [hq] at hT2 hR ⊢
  generalize t.extract a q = T at *
  replace hR := hid hR
  replace hE := hid hE
  have ha2 : (a : Int) ≤ (t.size : Int) := by omega
  clear hq haz ha
  have hF := hid (three_newL w #[.string t, .int .i64 (a : Int)] #[.string ⟨#[]⟩, .int .i64 0] #[.int .u8 0, .int .i64 0] 40 40 105)
  go_enter Tryd.func67, Tryd.ntmps67
  go_wp2_with fail
  refine (hP.out _).mono ?_
  rintro e w1 ⟨rfl, hw1⟩
  rw [← hw1] at hF
  obtain ⟨hsz, q0, q1, q2, hb1⟩ := hF.out
  clear hF hw1 hP
  have hE1 := hid (hE.out.below (hb1.mono (Nat.le_refl _)))
  cases pf
  all_goals
    simp only [cond_true, cond_false] at hz
    subst hz
    have x0 := q0.cell
    have l0 := q0.lt
    replace q0 := hid q0
    replace q1 := hid q1
    replace q2 := hid q2
    replace hb1 := hid hb1
    replace hsz := hid hsz
    go_wp2_with fail
    refine (hT2.out _ hE1.out).mono ?_
    rintro e w2 ⟨rfl, hb2⟩
    have q3 := q1.out.below hb2 q1.out.lt
    have q4 := q2.out.below hb2 q2.out.lt
    have hb3 := hid (new_trans hb1.out hb2)
    have hs2 : Hid (w.heap.size + 1 + 1 + 1 ≤ w2.heap.size) := by have h1 := hb2.size; have h2 := hsz.out; unfold Hid; omega
    have q5 := Blk.new w2 #[.string t, .int .i64 (q : Int)] 40
    have hq3 : Hid (Blk (w2.alloc (.cells #[.string t, .int .i64 (q : Int)] 40)).drew (w.heap.size + 1) #[.string ⟨#[]⟩, .int .i64 0]) := q3.alloc _
    have hq4 : Hid (Blk (w2.alloc (.cells #[.string t, .int .i64 (q : Int)] 40)).drew (w.heap.size + 1 + 1) #[.int .u8 0, .int .i64 0]) := q4.alloc _
    have hq5 : Hid (Blk (w2.alloc (.cells #[.string t, .int .i64 (q : Int)] 40)).drew w2.heap.size #[.string t, .int .i64 (q : Int)]) := q5
    have hb4 : Hid (Below w.heap.size w (w2.alloc (.cells #[.string t, .int .i64 (q : Int)] 40)).drew) := (hb3.out.alloc hb3.out.size _).drew
    clear hb2 x0 l0 q0 q1 q2 hE1 hb1 hT2 hsz q3 q4 q5 hb3
    go_wp2
    generalize w2.alloc (.cells #[.string t, .int .i64 (q : Int)] 40) = w3 at *
    have x5 : ∀ i, w3.drew.cell? ⟨w2.heap.size, i, none⟩ = #[.string t, .int .i64 (q : Int)][i]? := hq5.out.cell
    have l5 : w2.heap.size < w3.drew.heap.size := hq5.out.lt
    go_region_with (go_at_call 73; refine (hR.out _).mono ?_; rintro e w4 ⟨rfl, hb5⟩; have r3 := hq3.out.below hb5 hq3.out.lt; have r4 := hq4.out.below hb5 hq4.out.lt; have r5 := hq5.out.below hb5 hq5.out.lt; have hb6 := hid (new_trans hb4.out hb5); have y3 := r3.cell; have y4 := r4.cell; have y5 := r5.cell; have z3 := r3.frozen; have z4 := r4.frozen; have l3 := r3.lt; have l4 := r4.lt; have l6 := r5.lt; clear hb5 r3 r4 r5 x5 l5)
    all_goals
      go_wp2
      refine bodyPost_ret (v := .tuple #[cur t (q : Int), rnV b n, .nilIface]) (by simp [results, Tryd.results67, go_sem, y3, y4, z3, z4, l3, l4]) rfl ⟨rfl, ?_⟩
      have hh := hs2.out
      repeat (first | exact hb6.out | refine Below.drew ?_ | refine Below.setCell ?_ (by first | omega | (simp; omega) | simp) _)
end Go.Proofs.YtghcagibdcblnaaDoor
