/- A run is taken off a text that was compressed: the program. -/
import Derived.Test.YtghcagibdcblnaaGreatDoorF22
import Derived.Test.YtghcagibdcblnaaGreatDoorF26
import Derived.Test.YtghcagibdcblnaaGreatDoorF21
import Derived.BigRegion
import Derived.Test.YtghcagibdcblnaaGreatDoorF32
namespace Go.Proofs.YtghcagibdcblnaaGreatDoor
open Go.ChangeShapes Go.WideShapes Go.ChangeAt Go.RowKit
set_option linter.unusedVariables false
set_option linter.unusedSimpArgs false

abbrev mk2 : ByteArray := ⟨#[237, 237]⟩
abbrev iX (x : Addr) : Value := .iface 171 (.pointer (some x))
def pfB (s : ByteArray) : Bool := decide (2 ≤ s.size ∧ byt s 0 = 237 ∧ byt s 1 = 237)
theorem pf_two {s : ByteArray} (h : 2 ≤ s.size) : ((s.extract 0 2).toList == ([237, 237] : List UInt8)) = pfB s := by
  have hl : 2 ≤ s.data.toList.length := by simpa using h
  have e : (s.extract 0 2).toList = s.data.toList.take 2 := by
    rw [bl_listL]
    simp
  rw [e]
  unfold pfB byt
  have hd : s.size = s.data.toList.length := by simp
  rw [hd]
  generalize s.data.toList = L at *
  match L, hl with
  | x :: y :: L, _ =>
    have h1 : decide (2 ≤ (x :: y :: L).length ∧ (((x :: y :: L).getD 0 0).toNat : Int) = 237 ∧ (((x :: y :: L).getD 1 0).toNat : Int) = 237) = (x == 237 && y == 237) := by
      have hx : ∀ z : UInt8, ((z.toNat : Int) = 237) ↔ z = 237 := by
        intro z
        constructor
        · intro h
          apply UInt8.toNat_inj.1
          show z.toNat = 237
          omega
        · rintro rfl
          rfl
      simp [hx]
      rfl
    rw [h1]
    show ([x, y] == [237, 237]) = _
    simp [List.cons_beq_cons]
set_option maxRecDepth 100000 in
theorem hpl_impl (s : ByteArray) (w : World) (hs : s.size ≤ 1048576) : Calls Tryz.prog 110 #[.string s, .string mk2] w fun e w' => e = .returned (.bool (pfB s)) ∧ w' = w := by
  by_cases h : 2 ≤ s.size
  · have hp := pf_two h
    have c1 : (2 : Int) ≤ (s.size : Int) := by omega
    generalize pfB s = B at *
    go_enter Tryz.func110, Tryz.ntmps110
    go_wp2
    go_ret
    exact ⟨rfl, rfl⟩
  · have hp : pfB s = false := by unfold pfB; exact decide_eq_false (by omega)
    have c1 : ¬ (2 : Int) ≤ (s.size : Int) := by omega
    rw [hp]
    go_enter Tryz.func110, Tryz.ntmps110
    go_wp2
    go_ret
    exact ⟨rfl, rfl⟩
set_option maxRecDepth 100000 in
theorem hp_impl (s : ByteArray) (w : World) (hs : s.size ≤ 1048576) : Calls Tryz.prog 106 #[.string s, .string mk2] w fun e w' => e = .returned (.bool (pfB s)) ∧ w' = w := by
  have hP := hid (hpl_impl s w hs)
  go_enter Tryz.func106, Tryz.ntmps106
  go_wp2_with fail
  refine hP.out.mono ?_
  rintro e w1 ⟨rfl, hww⟩
  obtain rfl := hww.symm
  go_wp2
  go_ret
  exact ⟨rfl, rfl⟩
set_option maxRecDepth 100000 in
theorem read1_impl (t : ByteArray) (w : World) (ht : t.size = 1) : Calls Tryz.prog 107 #[.string t] w fun e w' => e = .returned (rnV (byt t 0) 1) ∧ Below w.heap.size w w' := by
  have hx := run_idx t 0 0 rfl (by omega)
  have hd : ((t.size : Int) == 4) = false := by rw [beq_eq_false_iff_ne]; omega
  generalize byt t 0 = b at *
  go_enter Tryz.func107, Tryz.ntmps107
  go_wp2
  refine bodyPost_ret (v := rnV b 1) (by simp [results, Tryz.results107, go_sem]) rfl ⟨rfl, ?_⟩
  exact (Below.refl _ _).alloc (Nat.le_refl _) _
set_option maxRecDepth 100000 in
theorem read4_impl (t : ByteArray) (n : Nat) (w : World) (ht : t.size = 4) (hn : byt t 2 = (n : Int)) (hn2 : n ≤ 255) : Calls Tryz.prog 107 #[.string t] w fun e w' => e = .returned (rnV (byt t 3) n) ∧ Below w.heap.size w w' := by
  have hx := run_idx t 3 3 rfl (by omega)
  have hy := run_idx t 2 2 rfl (by omega)
  rw [hn] at hy
  have hd : ((t.size : Int) == 4) = true := by rw [ht]; rfl
  generalize byt t 3 = b at *
  clear hn
  go_enter Tryz.func107, Tryz.ntmps107
  go_wp2
  go_region
  go_wp2
  refine bodyPost_ret (v := rnV b n) (by simp [results, Tryz.results107, go_sem]) rfl ⟨rfl, ?_⟩
  exact ((Below.refl _ _).alloc (Nat.le_refl _) _).drew
theorem three_newL (w : World) (A0 A1 A2 : Array Value) (t0 t1 t2 : TypeId) :
    let W := ((w.alloc (.cells A0 t0)).alloc (.cells A1 t1)).alloc (.cells A2 t2)
    W.heap.size = w.heap.size + 1 + 1 + 1 ∧ Blk W w.heap.size A0 ∧ Blk W (w.heap.size + 1) A1 ∧ Blk W (w.heap.size + 1 + 1) A2 ∧ Below w.heap.size w W := by
  intro W
  have q1 := Blk.new (w.alloc (.cells A0 t0)) A1 t1
  have q2 := Blk.new ((w.alloc (.cells A0 t0)).alloc (.cells A1 t1)) A2 t2
  simp only [World.size_alloc] at q1 q2
  exact ⟨by simp [W], ((Blk.new w A0 t0).alloc _).alloc _, q1.alloc _, q2, (((Below.refl _ _).alloc (Nat.le_refl _) _).alloc (by simp) _).alloc (by simp; omega) _⟩
theorem pf_at {t : ByteArray} {a : Nat} (ha : a < t.size) : pfB (t.extract a t.size) = decide (a + 1 < t.size ∧ byt t a = 237 ∧ byt t (a + 1) = 237) := by
  unfold pfB
  have hs : (t.extract a t.size).size = t.size - a := by simp [ByteArray.size_extract]
  rw [hs, byt_extract t (by omega) (Nat.le_refl _)]
  by_cases h : a + 1 < t.size
  · rw [byt_extract t (by omega) (Nat.le_refl _)]
    have e0 : a + 0 = a := by omega
    rw [e0, decide_eq_decide]
    constructor
    · rintro ⟨_, h1, h2⟩
      exact ⟨h, h1, h2⟩
    · rintro ⟨_, h1, h2⟩
      exact ⟨by omega, h1, h2⟩
  · rw [decide_eq_false (by omega), decide_eq_false (by omega)]
theorem take_ok {s : ByteArray} {a n : Nat} (h : a + n ≤ s.size) (hs : s.size ≤ 65536) : takeV s a n = ((s, ((a + n : Nat) : Int)), s.extract a (a + n), 0) := by
  have hst : stB s (a : Int) = true := by unfold stB; simp; omega
  unfold takeV
  rw [if_neg (by rw [hst]; simp), if_neg (by omega), if_neg (by omega)]
  have e : ((a : Int) + (n : Int)) = ((a + n : Nat) : Int) := by omega
  rw [e, Int.toNat_natCast, Int.toNat_natCast]
theorem take_cut {s : ByteArray} {a n : Nat} (h : s.size < a + n) (ha : a ≤ s.size) (hs : s.size ≤ 65536) (hn : n ≤ 65536) : takeV s a n = ((s, (a : Int)), ByteArray.empty, 9) := by
  have hst : stB s (a : Int) = true := by unfold stB; simp; omega
  unfold takeV
  rw [if_neg (by rw [hst]; simp), if_neg (by omega), if_pos (by omega)]
set_option maxRecDepth 100000 in
set_option maxHeartbeats 1000000 in
/-- a run is taken, or one byte -/
theorem tr_ok (t : ByteArray) (a z n : Nat) (b : Int) (pf : Bool) (e0 e1 e2 : Addr) (w : World) (hE : Errs w e0 e1 e2) (ht : t.size ≤ 65536) (ha : a < t.size) (hp : pfB (t.extract a t.size) = pf) (hz : z = bif pf then 4 else 1) (haz : a + z ≤ t.size) (hR : ∀ W, Calls Tryz.prog 107 #[.string (t.extract a (a + z))] W fun e w' => e = .returned (rnV b n) ∧ Below W.heap.size W w') :
    Calls Tryz.prog 102 #[cur t (a : Int)] w fun e w' => e = .returned (.tuple #[cur t ((a + z : Nat) : Int), rnV b n, .nilIface]) ∧ Below w.heap.size w w' := by
  have hP := hid (fun W => hp_impl (t.extract a t.size) W (by simp [ByteArray.size_extract]; omega))
  rw [hp] at hP
  have hT := hid (fun W (hW : Errs W e0 e1 e2) => take_impl t a z e0 e1 e2 W (by unfold maxLen; omega) hW)
  rw [take_ok haz ht] at hT
  have hT2 : Hid (∀ W, Errs W e0 e1 e2 → Calls Tryz.prog 86 #[cur t (a : Int), .int .i64 (z : Int)] W fun e w' => e = .returned (.tuple #[cur t ((a + z : Nat) : Int), .string (t.extract a (a + z)), .nilIface]) ∧ Below W.heap.size W w') := fun W hW => hT.out W hW
  clear hT hp
  obtain ⟨q, hq⟩ : ∃ q : Nat, a + z = q := ⟨_, rfl⟩
  rw [hq] at hT2 hR ⊢
  generalize t.extract a q = T at *
  replace hR := hid hR
  replace hE := hid hE
  have ha2 : (a : Int) ≤ (t.size : Int) := by omega
  clear hq haz ha
  have hF := hid (three_newL w #[.string t, .int .i64 (a : Int)] #[.string ⟨#[]⟩, .int .i64 0] #[.int .u8 0, .int .i64 0] 52 52 126)
  go_enter Tryz.func102, Tryz.ntmps102
  go_wp2_with fail
  refine (hP.out _).mono ?_
  rintro e w1 ⟨rfl, hw1⟩
  rw [← hw1] at hF
  obtain ⟨hsz, q0, q1, q2, hb1⟩ := hF.out
  clear hF hw1 hP
  have hE1 := hid (hE.out.below (hb1.mono (Nat.le_refl _)))
  cases pf
  all_goals
    simp only [cond_true, cond_false] at hz
    subst hz
    have x0 := q0.cell
    have l0 := q0.lt
    replace q0 := hid q0
    replace q1 := hid q1
    replace q2 := hid q2
    replace hb1 := hid hb1
    replace hsz := hid hsz
    go_wp2_with fail
    refine (hT2.out _ hE1.out).mono ?_
    rintro e w2 ⟨rfl, hb2⟩
    have q3 := q1.out.below hb2 q1.out.lt
    have q4 := q2.out.below hb2 q2.out.lt
    have hb3 := hid (new_trans hb1.out hb2)
    have hs2 : Hid (w.heap.size + 1 + 1 + 1 ≤ w2.heap.size) := by have h1 := hb2.size; have h2 := hsz.out; unfold Hid; omega
    have q5 := Blk.new w2 #[.string t, .int .i64 (q : Int)] 52
    have hq3 : Hid (Blk (w2.alloc (.cells #[.string t, .int .i64 (q : Int)] 52)).drew (w.heap.size + 1) #[.string ⟨#[]⟩, .int .i64 0]) := q3.alloc _
    have hq4 : Hid (Blk (w2.alloc (.cells #[.string t, .int .i64 (q : Int)] 52)).drew (w.heap.size + 1 + 1) #[.int .u8 0, .int .i64 0]) := q4.alloc _
    have hq5 : Hid (Blk (w2.alloc (.cells #[.string t, .int .i64 (q : Int)] 52)).drew w2.heap.size #[.string t, .int .i64 (q : Int)]) := q5
    have hb4 : Hid (Below w.heap.size w (w2.alloc (.cells #[.string t, .int .i64 (q : Int)] 52)).drew) := (hb3.out.alloc hb3.out.size _).drew
    clear hb2 x0 l0 q0 q1 q2 hE1 hb1 hT2 hsz q3 q4 q5 hb3
    go_wp2
    generalize w2.alloc (.cells #[.string t, .int .i64 (q : Int)] 52) = w3 at *
    have x5 : ∀ i, w3.drew.cell? ⟨w2.heap.size, i, none⟩ = #[.string t, .int .i64 (q : Int)][i]? := hq5.out.cell
    have l5 : w2.heap.size < w3.drew.heap.size := hq5.out.lt
    go_region_with (go_at_call 107; refine (hR.out _).mono ?_; rintro e w4 ⟨rfl, hb5⟩; have r3 := hq3.out.below hb5 hq3.out.lt; have r4 := hq4.out.below hb5 hq4.out.lt; have r5 := hq5.out.below hb5 hq5.out.lt; have hb6 := hid (new_trans hb4.out hb5); have y3 := r3.cell; have y4 := r4.cell; have y5 := r5.cell; have z3 := r3.frozen; have z4 := r4.frozen; have l3 := r3.lt; have l4 := r4.lt; have l6 := r5.lt; clear hb5 r3 r4 r5 x5 l5)
    all_goals
      go_wp2
      refine bodyPost_ret (v := .tuple #[cur t (q : Int), rnV b n, .nilIface]) (by simp [results, Tryz.results102, go_sem, y3, y4, z3, z4, l3, l4]) rfl ⟨rfl, ?_⟩
      have hh := hs2.out
      repeat (first | exact hb6.out | refine Below.drew ?_ | refine Below.setCell ?_ (by first | omega | (simp; omega) | simp) _)
end Go.Proofs.YtghcagibdcblnaaGreatDoor

/- A reader of a snapshot's text: what is taken, and the panic where there is too little: the program. -/
namespace Go.Proofs.YtghcagibdcblnaaGreatDoor
open Go.ChangeShapes Go.WideShapes Go.ChangeAt Go.RowKit
set_option linter.unusedVariables false
set_option linter.unusedSimpArgs false

/-- all but some blocks is as it was -/
structure Kd (xs : List Nat) (W W' : World) : Prop where
  os : W'.os = W.os
  tape : W'.tape = W.tape
  output : W'.output = W.output
  size : W.heap.size ≤ W'.heap.size
  block : ∀ b, b < W.heap.size → b ∉ xs → W'.heap[b]? = W.heap[b]?
theorem Kd.refl (xs : List Nat) (W : World) : Kd xs W W := ⟨rfl, rfl, rfl, Nat.le_refl _, fun _ _ _ => rfl⟩
theorem Kd.trans {xs : List Nat} {a b c : World} (h : Kd xs a b) (k : Kd xs b c) : Kd xs a c :=
  ⟨k.os.trans h.os, k.tape.trans h.tape, k.output.trans h.output, Nat.le_trans h.size k.size, fun i hi hn => (k.block i (Nat.lt_of_lt_of_le hi h.size) hn).trans (h.block i hi hn)⟩
theorem Kd.mono {xs ys : List Nat} {a b : World} (h : Kd xs a b) (hs : ∀ x ∈ xs, x ∈ ys) : Kd ys a b := ⟨h.os, h.tape, h.output, h.size, fun i hi hn => h.block i hi (fun hm => hn (hs i hm))⟩
theorem Kd.of_below {xs : List Nat} {a b : World} (h : Below a.heap.size a b) : Kd xs a b := ⟨h.os, h.tape, h.output, h.size, fun i hi _ => h.block i hi⟩
theorem Kd.set {xs : List Nat} {a b : World} (h : Kd xs a b) {g : Nat} (hg : g ∈ xs) (o : Nat) (v : Value) : Kd xs a (b.setCell ⟨g, o, none⟩ v) :=
  ⟨h.os, h.tape, h.output, by rw [sizeSet]; exact h.size, fun i hi hn => by
    rw [Below.heap_setCell _ _ _ _ (by intro e; apply hn; rw [e]; exact hg)]
    exact h.block i hi hn⟩
/-- a block that was made since may be turned -/
theorem Kd.setNew {xs : List Nat} {a b : World} (h : Kd xs a b) {g : Nat} (hg : a.heap.size ≤ g) (o : Nat) (v : Value) : Kd xs a (b.setCell ⟨g, o, none⟩ v) :=
  ⟨h.os, h.tape, h.output, by rw [sizeSet]; exact h.size, fun i hi hn => by
    rw [Below.heap_setCell _ _ _ _ (by simp; omega)]
    exact h.block i hi hn⟩
theorem Kd.alloc {xs : List Nat} {a b : World} (h : Kd xs a b) (o : Obj) : Kd xs a (b.alloc o) :=
  h.trans (Kd.of_below ((Below.refl _ _).alloc (Nat.le_refl _) o))
/-- blocks that were made since do not count -/
theorem Kd.since {xs ys : List Nat} {a b c : World} (h : Kd ys a b) (k : Kd xs b c) (hx : ∀ x ∈ xs, x ∈ ys ∨ a.heap.size ≤ x) : Kd ys a c :=
  ⟨k.os.trans h.os, k.tape.trans h.tape, k.output.trans h.output, Nat.le_trans h.size k.size, fun i hi hn => (k.block i (Nat.lt_of_lt_of_le hi h.size) (fun hm => by
    rcases hx i hm with h1 | h1
    · exact hn h1
    · omega)).trans (h.block i hi hn)⟩
theorem Kd.blk {xs : List Nat} {a b : World} (h : Kd xs a b) {g : Nat} {A : Array Value} (hq : Blk a g A) (hn : g ∉ xs) : Blk b g A := by
  have e := h.block g hq.lt hn
  obtain ⟨t, hq⟩ := hq
  exact ⟨t, e.trans hq⟩
theorem Kd.below {xs : List Nat} {w a b : World} (h : Kd xs a b) {n : Nat} (hb : Below n w a) (hn : n ≤ a.heap.size) (hx : ∀ x ∈ xs, n ≤ x) : Below n w b :=
  hb.trans ⟨h.os, h.tape, h.output, h.size, fun k hk => h.block k (by omega) (fun hm => by have := hx k hm; omega)⟩
/-- what a reader's panic carries -/
def ftV (c : Int) : List PanicEntry := [{ v := .iface 104 (.int .i64 c), recovered := false }]
/-- a reader that stands at a place of a text -/
structure Rdr (w0 W : World) (e0 e1 e2 : Addr) (B : Nat) (t : ByteArray) (a : Nat) : Prop where
  errs : Errs w0 e0 e1 e2
  bel : Below w0.heap.size w0 W
  lo : w0.heap.size ≤ B
  blk : Blk W B #[.string t, .int .i64 (a : Int)]
  pos : a ≤ t.size
  sz : t.size ≤ 65536
theorem Rdr.errsW {w0 W : World} {e0 e1 e2 : Addr} {B a : Nat} {t : ByteArray} (h : Rdr w0 W e0 e1 e2 B t a) : Errs W e0 e1 e2 := h.errs.below h.bel
theorem Rdr.kd {w0 W W' : World} {e0 e1 e2 : Addr} {B a : Nat} {t : ByteArray} (h : Rdr w0 W e0 e1 e2 B t a) {xs : List Nat} (k : Kd xs W W') (hB : B ∉ xs) (hx : ∀ x ∈ xs, w0.heap.size ≤ x) : Rdr w0 W' e0 e1 e2 B t a :=
  ⟨h.errs, k.below h.bel h.bel.size hx, h.lo, k.blk h.blk hB, h.pos, h.sz⟩
theorem Rdr.below {w0 W W' : World} {e0 e1 e2 : Addr} {B a : Nat} {t : ByteArray} (h : Rdr w0 W e0 e1 e2 B t a) (hb : Below W.heap.size W W') : Rdr w0 W' e0 e1 e2 B t a :=
  ⟨h.errs, new_trans h.bel hb, h.lo, h.blk.below hb h.blk.lt, h.pos, h.sz⟩
theorem ask_ok (p : Value) (w : World) : Calls Tryz.prog 70 #[p, .int .i64 0] w fun e w' => e = .returned (.tuple #[]) ∧ w' = w := by
  go_enter Tryz.func70, Tryz.ntmps70
  go_wp2
  exact bodyPost_end (v := .tuple #[]) (by simp [results, Tryz.results70]) rfl ⟨rfl, rfl⟩
theorem ask_bad (p : Value) (c : Int) (w : World) (hc : c ≠ 0) : Calls Tryz.prog 70 #[p, .int .i64 c] w fun e w' => e = .panicked (ftV c) ∧ w' = w := by
  have hb : (c != 0) = true := by simpa using hc
  clear hc
  go_enter Tryz.func70, Tryz.ntmps70
  go_wp2
  exact ⟨rfl, rfl, rfl⟩
set_option maxRecDepth 100000 in
set_option maxHeartbeats 1000000 in
theorem bytes_ok {w0 W : World} {e0 e1 e2 : Addr} {B a : Nat} {t : ByteArray} (h : Rdr w0 W e0 e1 e2 B t a) (n : Nat) (hn : a + n ≤ t.size) :
    Calls Tryz.prog 71 #[.pointer (some ⟨B, 0, none⟩), .int .i64 (n : Int)] W fun e w' => e = .returned (.string (t.extract a (a + n))) ∧ Rdr w0 w' e0 e1 e2 B t (a + n) ∧ Kd [B] W w' := by
  have hT := hid (take_impl t (a : Int) (n : Int) e0 e1 e2 W (by have := h.sz; unfold maxLen; omega) h.errsW)
  rw [take_ok hn h.sz] at hT
  have hC := hid (fun w1 (hE : Errs w1 e0 e1 e2) => takeCode_any e0 e1 e2 0 w1 hE (by simp))
  have hA := hid (fun p w1 => ask_ok p w1)
  have x0 := h.blk.cell
  have xl := h.blk.lt
  have e : errV e0 e1 e2 0 = .nilIface := rfl
  have hcat : Hid (∀ w1, Below W.heap.size W w1 → Rdr w0 w1 e0 e1 e2 B t a) := fun w1 hb => h.below hb
  have hfin : Hid (∀ w1, Below W.heap.size W w1 → Rdr w0 ((w1.setCell ⟨B, 0, none⟩ (.string t)).setCell ⟨B, 1, none⟩ (.int .i64 ((a + n : Nat) : Int))) e0 e1 e2 B t (a + n) ∧ Kd [B] W ((w1.setCell ⟨B, 0, none⟩ (.string t)).setCell ⟨B, 1, none⟩ (.int .i64 ((a + n : Nat) : Int)))) := fun w1 hb => by
    have r := h.below hb
    have k : Kd [B] W ((w1.setCell ⟨B, 0, none⟩ (.string t)).setCell ⟨B, 1, none⟩ (.int .i64 ((a + n : Nat) : Int))) := ((Kd.of_below hb).set (by simp) 0 _).set (by simp) 1 _
    have k2 : Kd [B] w1 ((w1.setCell ⟨B, 0, none⟩ (.string t)).setCell ⟨B, 1, none⟩ (.int .i64 ((a + n : Nat) : Int))) := ((Kd.refl [B] w1).set (by simp) 0 _).set (by simp) 1 _
    have q := (r.blk.set 0 (.string t)).set 1 (.int .i64 ((a + n : Nat) : Int))
    exact ⟨⟨h.errs, k2.below r.bel r.bel.size (by simp; exact h.lo), h.lo, q, hn, h.sz⟩, k⟩
  unfold takeE at hT
  rw [e] at hT
  dsimp only at hT
  have hC0 : Hid (∀ w1, Errs w1 e0 e1 e2 → Calls Tryz.prog 87 #[.nilIface] w1 fun e w' => e = .returned (.int .i64 0) ∧ w' = w1) := fun w1 hE => hC.out w1 hE
  generalize t.extract a (a + n) = X at *
  generalize ((a + n : Nat) : Int) = z at *
  clear hC e h hn
  go_enter Tryz.func71, Tryz.ntmps71
  go_wp2_with fail
  refine hT.out.mono ?_
  rintro e w1 ⟨rfl, hb⟩
  have hb1 := hid (hb.alloc hb.size (.cells #[.string t, .int .i64 z] 52))
  have hl1 : B < w1.heap.size := by have := hb.size; omega
  have q1 := hid (Blk.new w1 #[.string t, .int .i64 z] 52)
  clear hb hT
  go_upto_region 2 with fail
  obtain ⟨G, hG⟩ : ∃ G, w1.heap.size = G := ⟨_, rfl⟩
  obtain ⟨V, hV⟩ : ∃ V, w1.alloc (Obj.cells #[Value.string t, Value.int .i64 z] 52) = V := ⟨_, rfl⟩
  rw [hV] at hb1 q1 ⊢
  rw [hG] at q1 hl1 ⊢
  clear hV hG
  have r1 := hid (hcat.out V hb1.out)
  have hE1 := hid r1.out.errsW
  have hf1 := hid (hfin.out V hb1.out)
  clear hcat hfin hb1
  go_wp2_with fail
  refine (hC0.out _ hE1.out).mono ?_
  rintro e w2 ⟨rfl, rfl⟩
  go_wp2_with fail
  refine (hA.out _ _).mono ?_
  rintro e w3 ⟨rfl, rfl⟩
  have y0 := q1.out.cell
  have z0 := r1.out.blk.cell
  have zf := r1.out.blk.frozen
  have zl := r1.out.blk.lt
  clear x0 xl q1 r1 hE1 hC0 hA
  go_wp2
  go_ret
  exact ⟨rfl, hf1.out⟩
set_option maxRecDepth 100000 in
set_option maxHeartbeats 1000000 in
theorem bytes_end {w0 W : World} {e0 e1 e2 : Addr} {B a : Nat} {t : ByteArray} (h : Rdr w0 W e0 e1 e2 B t a) (n : Nat) (hn : t.size < a + n) (hn2 : n ≤ 65536) :
    Calls Tryz.prog 71 #[.pointer (some ⟨B, 0, none⟩), .int .i64 (n : Int)] W fun e w' => e = .panicked (ftV 9) ∧ Below W.heap.size W w' := by
  have hT := hid (take_impl t (a : Int) (n : Int) e0 e1 e2 W (by have := h.sz; unfold maxLen; omega) h.errsW)
  rw [take_cut hn h.pos h.sz hn2] at hT
  have hC := hid (fun w1 (hE : Errs w1 e0 e1 e2) => takeCode_any e0 e1 e2 9 w1 hE (by simp))
  have hA := hid (fun p w1 => ask_bad p 9 w1 (by decide))
  have x0 := h.blk.cell
  have xl := h.blk.lt
  have e : errV e0 e1 e2 9 = .iface 171 (.pointer (some e2)) := rfl
  have hcat : Hid (∀ w1, Below W.heap.size W w1 → Errs w1 e0 e1 e2) := fun w1 hb => (h.below hb).errsW
  unfold takeE at hT
  rw [e] at hT hC
  dsimp only at hT
  clear e h hn hn2
  go_enter Tryz.func71, Tryz.ntmps71
  go_wp2_with fail
  refine hT.out.mono ?_
  rintro e w1 ⟨rfl, hb⟩
  have hb1 := hid (hb.alloc hb.size (.cells #[.string t, .int .i64 (a : Int)] 52))
  clear hb hT
  go_upto_region 2 with fail
  obtain ⟨V, hV⟩ : ∃ V, w1.alloc (Obj.cells #[Value.string t, Value.int .i64 (a : Int)] 52) = V := ⟨_, rfl⟩
  rw [hV] at hb1 ⊢
  clear hV
  have hE1 := hid (hcat.out V hb1.out)
  clear hcat
  go_wp2_with fail
  refine (hC.out _ hE1.out).mono ?_
  rintro e w2 ⟨rfl, rfl⟩
  go_wp2_with fail
  refine (hA.out _ _).mono ?_
  rintro e w3 ⟨rfl, rfl⟩
  exact ⟨rfl, rfl, hb1.out⟩
set_option maxRecDepth 100000 in
set_option maxHeartbeats 1000000 in
theorem number_ok {w0 W : World} {e0 e1 e2 : Addr} {B a : Nat} {t : ByteArray} (h : Rdr w0 W e0 e1 e2 B t a) (hn : a < t.size) :
    Calls Tryz.prog 88 #[.pointer (some ⟨B, 0, none⟩)] W fun e w' => e = .returned (.int .i64 (byt t a)) ∧ Rdr w0 w' e0 e1 e2 B t (a + 1) ∧ Kd [B] W w' := by
  have hT := hid (bytes_ok h 1 (by omega))
  have hs : (t.extract a (a + 1)).size = 1 := by rw [ByteArray.size_extract]; omega
  have hi := run_idx (t.extract a (a + 1)) 0 0 rfl (by omega)
  have hb : byt (t.extract a (a + 1)) 0 = byt t a := by
    have := byt_extract t (i := a) (e := a + 1) (j := 0) (by omega) (by omega)
    simpa using this
  rw [hb] at hi
  have hbd := byt_bd t a
  have hwr : IntKind.i64.wrap (byt t a) = byt t a := by rw [IntKind.wrap_i64]; omega
  generalize byt t a = z at *
  generalize t.extract a (a + 1) = X at *
  replace hs := hid hs
  clear hb h hn
  go_enter Tryz.func88, Tryz.ntmps88
  go_wp2_with fail
  refine hT.out.mono ?_
  rintro e w1 ⟨rfl, hr⟩
  replace hr := hid hr
  clear hT
  go_wp2_with fail
  go_ret
  exact ⟨rfl, hr.out⟩
set_option maxRecDepth 100000 in
set_option maxHeartbeats 1000000 in
theorem upto_ok {w0 W : World} {e0 e1 e2 : Addr} {B a : Nat} {t : ByteArray} (h : Rdr w0 W e0 e1 e2 B t a) (m : Int) (hn : a < t.size) (hm : byt t a ≤ m) :
    Calls Tryz.prog 75 #[.pointer (some ⟨B, 0, none⟩), .int .i64 m] W fun e w' => e = .returned (.int .i64 (byt t a)) ∧ Rdr w0 w' e0 e1 e2 B t (a + 1) ∧ Kd [B] W w' := by
  have hT := hid (number_ok h hn)
  have hW := hid (fun w => whenS_impl false 3 w)
  have hA := hid (fun p w => ask_ok p w)
  have hz : whS false 3 = 0 := rfl
  rw [hz] at hW
  have hlt : decide (m < byt t a) = false := decide_eq_false (by omega)
  generalize byt t a = z at *
  clear h hn hm hz
  go_enter Tryz.func75, Tryz.ntmps75
  go_wp2_with fail
  refine hT.out.mono ?_
  rintro e w1 ⟨rfl, hr⟩
  replace hr := hid hr
  clear hT
  go_wp2_with fail
  refine (hW.out _).mono ?_
  rintro e w2 ⟨rfl, rfl⟩
  go_wp2_with fail
  refine (hA.out _ _).mono ?_
  rintro e w3 ⟨rfl, rfl⟩
  go_wp2_with fail
  go_ret
  exact ⟨rfl, hr.out⟩
set_option maxRecDepth 100000 in
set_option maxHeartbeats 1000000 in
theorem upto_bad {w0 W : World} {e0 e1 e2 : Addr} {B a : Nat} {t : ByteArray} (h : Rdr w0 W e0 e1 e2 B t a) (m : Int) (hn : a < t.size) (hm : m < byt t a) :
    Calls Tryz.prog 75 #[.pointer (some ⟨B, 0, none⟩), .int .i64 m] W fun e w' => e = .panicked (ftV 3) ∧ Kd [B] W w' := by
  have hT := hid (number_ok h hn)
  have hlt : decide (m < byt t a) = true := decide_eq_true hm
  have hW := hid (fun w => whenS_impl true 3 w)
  have hA := hid (fun p w => ask_bad p 3 w (by decide))
  have hz : whS true 3 = 3 := rfl
  rw [hz] at hW
  generalize byt t a = z at *
  clear h hn hz hm
  go_enter Tryz.func75, Tryz.ntmps75
  go_wp2_with fail
  refine hT.out.mono ?_
  rintro e w1 ⟨rfl, hr⟩
  replace hr := hid hr
  clear hT
  go_wp2_with fail
  refine (hW.out _).mono ?_
  rintro e w2 ⟨rfl, rfl⟩
  go_wp2_with fail
  refine (hA.out _ _).mono ?_
  rintro e w3 ⟨rfl, rfl⟩
  exact ⟨rfl, rfl, hr.out.2⟩
set_option maxRecDepth 100000 in
set_option maxHeartbeats 1000000 in
theorem version_ok {w0 W : World} {e0 e1 e2 : Addr} {B a : Nat} {t : ByteArray} (h : Rdr w0 W e0 e1 e2 B t a) (hn : a < t.size) (hm : byt t a = 3) :
    Calls Tryz.prog 72 #[.pointer (some ⟨B, 0, none⟩)] W fun e w' => e = .returned (.tuple #[]) ∧ Rdr w0 w' e0 e1 e2 B t (a + 1) ∧ Kd [B] W w' := by
  have hT := hid (number_ok h hn)
  have hW := hid (fun w => whenS_impl false 18 w)
  have hA := hid (fun p w => ask_ok p w)
  have hz : whS false 18 = 0 := rfl
  rw [hz] at hW
  rw [hm] at hT
  clear h hn hm hz
  go_enter Tryz.func72, Tryz.ntmps72
  go_wp2_with fail
  refine hT.out.mono ?_
  rintro e w1 ⟨rfl, hr⟩
  replace hr := hid hr
  clear hT
  go_wp2_with fail
  refine (hW.out _).mono ?_
  rintro e w2 ⟨rfl, rfl⟩
  go_wp2_with fail
  refine (hA.out _ _).mono ?_
  rintro e w3 ⟨rfl, rfl⟩
  go_wp2_with fail
  exact bodyPost_end (v := .tuple #[]) (by simp [results, Tryz.results72]) rfl ⟨rfl, hr.out⟩
set_option maxRecDepth 100000 in
set_option maxHeartbeats 1000000 in
theorem version_bad {w0 W : World} {e0 e1 e2 : Addr} {B a : Nat} {t : ByteArray} (h : Rdr w0 W e0 e1 e2 B t a) (hn : a < t.size) (hm : byt t a ≠ 3) :
    Calls Tryz.prog 72 #[.pointer (some ⟨B, 0, none⟩)] W fun e w' => e = .panicked (ftV 18) ∧ Kd [B] W w' := by
  have hT := hid (number_ok h hn)
  have hW := hid (fun w => whenS_impl true 18 w)
  have hA := hid (fun p w => ask_bad p 18 w (by decide))
  have hz : whS true 18 = 18 := rfl
  rw [hz] at hW
  have hne : (byt t a != 3) = true := by simpa using hm
  generalize byt t a = z at *
  clear h hn hm hz
  go_enter Tryz.func72, Tryz.ntmps72
  go_wp2_with fail
  refine hT.out.mono ?_
  rintro e w1 ⟨rfl, hr⟩
  replace hr := hid hr
  clear hT
  go_wp2_with fail
  refine (hW.out _).mono ?_
  rintro e w2 ⟨rfl, rfl⟩
  go_wp2_with fail
  refine (hA.out _ _).mono ?_
  rintro e w3 ⟨rfl, rfl⟩
  exact ⟨rfl, rfl, hr.out.2⟩
end Go.Proofs.YtghcagibdcblnaaGreatDoor
