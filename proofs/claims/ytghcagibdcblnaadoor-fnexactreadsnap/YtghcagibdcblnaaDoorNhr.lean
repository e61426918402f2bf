/- A reader of a snapshot's text: what is taken, and the panic where there is too little: the program. -/
import Derived.Test.YtghcagibdcblnaaDoorR29
import Derived.Test.YtghcagibdcblnaaDoorR22
import Derived.Test.YtghcagibdcblnaaDoorLpr
namespace Go.Proofs.YtghcagibdcblnaaDoor
open Go.ChangeShapes Go.WideShapes Go.ChangeAt Go.RowKit
set_option linter.unusedVariables false
set_option linter.unusedSimpArgs false

/-- all but some blocks is as it was -/
structure Kd (xs : List Nat) (W W' : World) : Prop where
  os : W'.os = W.os
  tape : W'.tape = W.tape
  output : W'.output = W.output
  size : W.heap.size ≤ W'.heap.size
  block : ∀ b, b < W.heap.size → b ∉ xs → W'.heap[b]? = W.heap[b]?
theorem Kd.refl (xs : List Nat) (W : World) : Kd xs W W := ⟨rfl, rfl, rfl, Nat.le_refl _, fun _ _ _ => rfl⟩
theorem Kd.trans {xs : List Nat} {a b c : World} (h : Kd xs a b) (k : Kd xs b c) : Kd xs a c :=
  ⟨k.os.trans h.os, k.tape.trans h.tape, k.output.trans h.output, Nat.le_trans h.size k.size, fun i hi hn => (k.block i (Nat.lt_of_lt_of_le hi h.size) hn).trans (h.block i hi hn)⟩
theorem Kd.mono {xs ys : List Nat} {a b : World} (h : Kd xs a b) (hs : ∀ x ∈ xs, x ∈ ys) : Kd ys a b := ⟨h.os, h.tape, h.output, h.size, fun i hi hn => h.block i hi (fun hm => hn (hs i hm))⟩
theorem Kd.of_below {xs : List Nat} {a b : World} (h : Below a.heap.size a b) : Kd xs a b := ⟨h.os, h.tape, h.output, h.size, fun i hi _ => h.block i hi⟩
theorem Kd.set {xs : List Nat} {a b : World} (h : Kd xs a b) {g : Nat} (hg : g ∈ xs) (o : Nat) (v : Value) : Kd xs a (b.setCell ⟨g, o, none⟩ v) :=
  ⟨h.os, h.tape, h.output, by rw [sizeSet]; exact h.size, fun i hi hn => by
    rw [Below.heap_setCell _ _ _ _ (by intro e; apply hn; rw [e]; exact hg)]
    exact h.block i hi hn⟩
/-- a block that was made since may be turned -/
theorem Kd.setNew {xs : List Nat} {a b : World} (h : Kd xs a b) {g : Nat} (hg : a.heap.size ≤ g) (o : Nat) (v : Value) : Kd xs a (b.setCell ⟨g, o, none⟩ v) :=
  ⟨h.os, h.tape, h.output, by rw [sizeSet]; exact h.size, fun i hi hn => by
    rw [Below.heap_setCell _ _ _ _ (by simp; omega)]
    exact h.block i hi hn⟩
theorem Kd.alloc {xs : List Nat} {a b : World} (h : Kd xs a b) (o : Obj) : Kd xs a (b.alloc o) :=
  h.trans (Kd.of_below ((Below.refl _ _).alloc (Nat.le_refl _) o))
/-- blocks that were made since do not count -/
theorem Kd.since {xs ys : List Nat} {a b c : World} (h : Kd ys a b) (k : Kd xs b c) (hx : ∀ x ∈ xs, x ∈ ys ∨ a.heap.size ≤ x) : Kd ys a c :=
  ⟨k.os.trans h.os, k.tape.trans h.tape, k.output.trans h.output, Nat.le_trans h.size k.size, fun i hi hn => (k.block i (Nat.lt_of_lt_of_le hi h.size) (fun hm => by
    rcases hx i hm with h1 | h1
    · exact hn h1
    · omega)).trans (h.block i hi hn)⟩
theorem Kd.blk {xs : List Nat} {a b : World} (h : Kd xs a b) {g : Nat} {A : Array Value} (hq : Blk a g A) (hn : g ∉ xs) : Blk b g A := by
  have e := h.block g hq.lt hn
  obtain ⟨t, hq⟩ := hq
  exact ⟨t, e.trans hq⟩
theorem Kd.below {xs : List Nat} {w a b : World} (h : Kd xs a b) {n : Nat} (hb : Below n w a) (hn : n ≤ a.heap.size) (hx : ∀ x ∈ xs, n ≤ x) : Below n w b :=
  hb.trans ⟨h.os, h.tape, h.output, h.size, fun k hk => h.block k (by omega) (fun hm => by have := hx k hm; omega)⟩
/-- what a reader's panic carries -/
def ftV (c : Int) : List PanicEntry := [{ v := .iface 74 (.int .i64 c), recovered := false }]
/-- a reader that stands at a place of a text -/
structure Rdr (w0 W : World) (e0 e1 e2 : Addr) (B : Nat) (t : ByteArray) (a : Nat) : Prop where
  errs : Errs w0 e0 e1 e2
  bel : Below w0.heap.size w0 W
  lo : w0.heap.size ≤ B
  blk : Blk W B #[.string t, .int .i64 (a : Int)]
  pos : a ≤ t.size
  sz : t.size ≤ 65536
theorem Rdr.errsW {w0 W : World} {e0 e1 e2 : Addr} {B a : Nat} {t : ByteArray} (h : Rdr w0 W e0 e1 e2 B t a) : Errs W e0 e1 e2 := h.errs.below h.bel
theorem Rdr.kd {w0 W W' : World} {e0 e1 e2 : Addr} {B a : Nat} {t : ByteArray} (h : Rdr w0 W e0 e1 e2 B t a) {xs : List Nat} (k : Kd xs W W') (hB : B ∉ xs) (hx : ∀ x ∈ xs, w0.heap.size ≤ x) : Rdr w0 W' e0 e1 e2 B t a :=
  ⟨h.errs, k.below h.bel h.bel.size hx, h.lo, k.blk h.blk hB, h.pos, h.sz⟩
theorem Rdr.below {w0 W W' : World} {e0 e1 e2 : Addr} {B a : Nat} {t : ByteArray} (h : Rdr w0 W e0 e1 e2 B t a) (hb : Below W.heap.size W W') : Rdr w0 W' e0 e1 e2 B t a :=
  ⟨h.errs, new_trans h.bel hb, h.lo, h.blk.below hb h.blk.lt, h.pos, h.sz⟩
theorem ask_ok (p : Value) (w : World) : Calls Tryd.prog 40 #[p, .int .i64 0] w fun e w' => e = .returned (.tuple #[]) ∧ w' = w := by
  go_enter Tryd.func40, Tryd.ntmps40
  go_wp2
  exact bodyPost_end (v := .tuple #[]) (by simp [results, Tryd.results40]) rfl ⟨rfl, rfl⟩
theorem ask_bad (p : Value) (c : Int) (w : World) (hc : c ≠ 0) : Calls Tryd.prog 40 #[p, .int .i64 c] w fun e w' => e = .panicked (ftV c) ∧ w' = w := by
  have hb : (c != 0) = true := by simpa using hc
  clear hc
  go_enter Tryd.func40, Tryd.ntmps40
  go_wp2
  exact ⟨rfl, rfl, rfl⟩
set_option maxRecDepth 100000 in
set_option maxHeartbeats 1000000 in
theorem bytes_ok {w0 W : World} {e0 e1 e2 : Addr} {B a : Nat} {t : ByteArray} (h : Rdr w0 W e0 e1 e2 B t a) (n : Nat) (hn : a + n ≤ t.size) :
    Calls Tryd.prog 41 #[.pointer (some ⟨B, 0, none⟩), .int .i64 (n : Int)] W fun e w' => e = .returned (.string (t.extract a (a + n))) ∧ Rdr w0 w' e0 e1 e2 B t (a + n) ∧ Kd [B] W w' := by
  have hT := hid (take_impl t (a : Int) (n : Int) e0 e1 e2 W (by have := h.sz; unfold maxLen; omega) h.errsW)
  rw [take_ok hn h.sz] at hT
  have hC := hid (fun w1 (hE : Errs w1 e0 e1 e2) => takeCode_any e0 e1 e2 0 w1 hE (by simp))
  have hA := hid (fun p w1 => ask_ok p w1)
  have x0 := h.blk.cell
  have xl := h.blk.lt
  have e : errV e0 e1 e2 0 = .nilIface := rfl
  have hcat : Hid (∀ w1, Below W.heap.size W w1 → Rdr w0 w1 e0 e1 e2 B t a) := fun w1 hb => h.below hb
  have hfin : Hid (∀ w1, Below W.heap.size W w1 → Rdr w0 ((w1.setCell ⟨B, 0, none⟩ (.string t)).setCell ⟨B, 1, none⟩ (.int .i64 ((a + n : Nat) : Int))) e0 e1 e2 B t (a + n) ∧ Kd [B] W ((w1.setCell ⟨B, 0, none⟩ (.string t)).setCell ⟨B, 1, none⟩ (.int .i64 ((a + n : Nat) : Int)))) := fun w1 hb => by
    have r := h.below hb
    have k : Kd [B] W ((w1.setCell ⟨B, 0, none⟩ (.string t)).setCell ⟨B, 1, none⟩ (.int .i64 ((a + n : Nat) : Int))) := ((Kd.of_below hb).set (by simp) 0 _).set (by simp) 1 _
    have k2 : Kd [B] w1 ((w1.setCell ⟨B, 0, none⟩ (.string t)).setCell ⟨B, 1, none⟩ (.int .i64 ((a + n : Nat) : Int))) := ((Kd.refl [B] w1).set (by simp) 0 _).set (by simp) 1 _
    have q := (r.blk.set 0 (.string t)).set 1 (.int .i64 ((a + n : Nat) : Int))
    exact ⟨⟨h.errs, k2.below r.bel r.bel.size (by simp; exact h.lo), h.lo, q, hn, h.sz⟩, k⟩
  unfold takeE at hT
  rw [e] at hT
  dsimp only at hT
  have hC0 : Hid (∀ w1, Errs w1 e0 e1 e2 → Calls Tryd.prog 54 #[.nilIface] w1 fun e w' => e = .returned (.int .i64 0) ∧ w' = w1) := fun w1 hE => hC.out w1 hE
  generalize t.extract a (a + n) = X at *
  generalize ((a + n : Nat) : Int) = z at *
  clear hC e h hn
  go_enter Tryd.func41, Tryd.ntmps41
  go_wp2_with fail
  refine hT.out.mono ?_
  rintro e w1 ⟨rfl, hb⟩
  have hb1 := hid (hb.alloc hb.size (.cells #[.string t, .int .i64 z] 40))
  have hl1 : B < w1.heap.size := by have := hb.size; omega
  have q1 := hid (Blk.new w1 #[.string t, .int .i64 z] 40)
  clear hb hT
  go_upto_region 2 with fail
  obtain ⟨G, hG⟩ : ∃ G, w1.heap.size = G := ⟨_, rfl⟩
  obtain ⟨V, hV⟩ : ∃ V, w1.alloc (Obj.cells #[Value.string t, Value.int .i64 z] 40) = V := ⟨_, rfl⟩
  rw [hV] at hb1 q1 ⊢
  rw [hG] at q1 hl1 ⊢
  clear hV hG
  have r1 := hid (hcat.out V hb1.out)
  have hE1 := hid r1.out.errsW
  have hf1 := hid (hfin.out V hb1.out)
  clear hcat hfin hb1
  go_wp2_with fail
  refine (hC0.out _ hE1.out).mono ?_
  rintro e w2 ⟨rfl, rfl⟩
  go_wp2_with fail
  refine (hA.out _ _).mono ?_
  rintro e w3 ⟨rfl, rfl⟩
  have y0 := q1.out.cell
  have z0 := r1.out.blk.cell
  have zf := r1.out.blk.frozen
  have zl := r1.out.blk.lt
  clear x0 xl q1 r1 hE1 hC0 hA
  go_wp2
  go_ret
  exact ⟨rfl, hf1.out⟩
set_option maxRecDepth 100000 in
set_option maxHeartbeats 1000000 in
theorem bytes_end {w0 W : World} {e0 e1 e2 : Addr} {B a : Nat} {t : ByteArray} (h : Rdr w0 W e0 e1 e2 B t a) (n : Nat) (hn : t.size < a + n) (hn2 : n ≤ 65536) :
    Calls Tryd.prog 41 #[.pointer (some ⟨B, 0, none⟩), .int .i64 (n : Int)] W fun e w' => e = .panicked (ftV 9) ∧ Below W.heap.size W w' := by
  have hT := hid (take_impl t (a : Int) (n : Int) e0 e1 e2 W (by have := h.sz; unfold maxLen; omega) h.errsW)
  rw [take_cut hn h.pos h.sz hn2] at hT
  have hC := hid (fun w1 (hE : Errs w1 e0 e1 e2) => takeCode_any e0 e1 e2 9 w1 hE (by simp))
  have hA := hid (fun p w1 => ask_bad p 9 w1 (by decide))
  have x0 := h.blk.cell
  have xl := h.blk.lt
  have e : errV e0 e1 e2 9 = .iface 140 (.pointer (some e2)) := rfl
  have hcat : Hid (∀ w1, Below W.heap.size W w1 → Errs w1 e0 e1 e2) := fun w1 hb => (h.below hb).errsW
  unfold takeE at hT
  rw [e] at hT hC
  dsimp only at hT
  clear e h hn hn2
  go_enter Tryd.func41, Tryd.ntmps41
  go_wp2_with fail
  refine hT.out.mono ?_
  rintro e w1 ⟨rfl, hb⟩
  have hb1 := hid (hb.alloc hb.size (.cells #[.string t, .int .i64 (a : Int)] 40))
  clear hb hT
  go_upto_region 2 with fail
  obtain ⟨V, hV⟩ : ∃ V, w1.alloc (Obj.cells #[Value.string t, Value.int .i64 (a : Int)] 40) = V := ⟨_, rfl⟩
  rw [hV] at hb1 ⊢
  clear hV
  have hE1 := hid (hcat.out V hb1.out)
  clear hcat
  go_wp2_with fail
  refine (hC.out _ hE1.out).mono ?_
  rintro e w2 ⟨rfl, rfl⟩
  go_wp2_with fail
  refine (hA.out _ _).mono ?_
  rintro e w3 ⟨rfl, rfl⟩
  exact ⟨rfl, rfl, hb1.out⟩
set_option maxRecDepth 100000 in
set_option maxHeartbeats 1000000 in
theorem number_ok {w0 W : World} {e0 e1 e2 : Addr} {B a : Nat} {t : ByteArray} (h : Rdr w0 W e0 e1 e2 B t a) (hn : a < t.size) :
    Calls Tryd.prog 55 #[.pointer (some ⟨B, 0, none⟩)] W fun e w' => e = .returned (.int .i64 (byt t a)) ∧ Rdr w0 w' e0 e1 e2 B t (a + 1) ∧ Kd [B] W w' := by
  have hT := hid (bytes_ok h 1 (by omega))
  have hs : (t.extract a (a + 1)).size = 1 := by rw [ByteArray.size_extract]; omega
  have hi := run_idx (t.extract a (a + 1)) 0 0 rfl (by omega)
  have hb : byt (t.extract a (a + 1)) 0 = byt t a := by
    have := byt_extract t (i := a) (e := a + 1) (j := 0) (by omega) (by omega)
    simpa using this
  rw [hb] at hi
  have hbd := byt_bd t a
  have hwr : IntKind.i64.wrap (byt t a) = byt t a := by rw [IntKind.wrap_i64]; omega
  generalize byt t a = z at *
  generalize t.extract a (a + 1) = X at *
  replace hs := hid hs
  clear hb h hn
  go_enter Tryd.func55, Tryd.ntmps55
  go_wp2_with fail
  refine hT.out.mono ?_
  rintro e w1 ⟨rfl, hr⟩
  replace hr := hid hr
  clear hT
  go_wp2_with fail
  go_ret
  exact ⟨rfl, hr.out⟩
set_option maxRecDepth 100000 in
set_option maxHeartbeats 1000000 in
theorem upto_ok {w0 W : World} {e0 e1 e2 : Addr} {B a : Nat} {t : ByteArray} (h : Rdr w0 W e0 e1 e2 B t a) (m : Int) (hn : a < t.size) (hm : byt t a ≤ m) :
    Calls Tryd.prog 45 #[.pointer (some ⟨B, 0, none⟩), .int .i64 m] W fun e w' => e = .returned (.int .i64 (byt t a)) ∧ Rdr w0 w' e0 e1 e2 B t (a + 1) ∧ Kd [B] W w' := by
  have hT := hid (number_ok h hn)
  have hW := hid (fun w => whenS_impl false 3 w)
  have hA := hid (fun p w => ask_ok p w)
  have hz : whS false 3 = 0 := rfl
  rw [hz] at hW
  have hlt : decide (m < byt t a) = false := decide_eq_false (by omega)
  generalize byt t a = z at *
  clear h hn hm hz
  go_enter Tryd.func45, Tryd.ntmps45
  go_wp2_with fail
  refine hT.out.mono ?_
  rintro e w1 ⟨rfl, hr⟩
  replace hr := hid hr
  clear hT
  go_wp2_with fail
  refine (hW.out _).mono ?_
  rintro e w2 ⟨rfl, rfl⟩
  go_wp2_with fail
  refine (hA.out _ _).mono ?_
  rintro e w3 ⟨rfl, rfl⟩
  go_wp2_with fail
  go_ret
  exact ⟨rfl, hr.out⟩
set_option maxRecDepth 100000 in
set_option maxHeartbeats 1000000 in
theorem upto_bad {w0 W : World} {e0 e1 e2 : Addr} {B a : Nat} {t : ByteArray} (h : Rdr w0 W e0 e1 e2 B t a) (m : Int) (hn : a < t.size) (hm : m < byt t a) :
    Calls Tryd.prog 45 #[.pointer (some ⟨B, 0, none⟩), .int .i64 m] W fun e w' => e = .panicked (ftV 3) ∧ Kd [B] W w' := by
  have hT := hid (number_ok h hn)
  have hlt : decide (m < byt t a) = true := decide_eq_true hm
  have hW := hid (fun w => whenS_impl true 3 w)
  have hA := hid (fun p w => ask_bad p 3 w (by decide))
  have hz : whS true 3 = 3 := rfl
  rw [hz] at hW
  generalize byt t a = z at *
  clear h hn hz hm
  go_enter Tryd.func45, Tryd.ntmps45
  go_wp2_with fail
  refine hT.out.mono ?_
  rintro e w1 ⟨rfl, hr⟩
  replace hr := hid hr
  clear hT
  go_wp2_with fail
  refine (hW.out _).mono ?_
  rintro e w2 ⟨rfl, rfl⟩
  go_wp2_with fail
  refine (hA.out _ _).mono ?_
  rintro e w3 ⟨rfl, rfl⟩
  exact ⟨rfl, rfl, hr.out.2⟩
set_option maxRecDepth 100000 in
set_option maxHeartbeats 1000000 in
theorem version_ok {w0 W : World} {e0 e1 e2 : Addr} {B a : Nat} {t : ByteArray} (h : Rdr w0 W e0 e1 e2 B t a) (hn : a < t.size) (hm : byt t a = 3) :
    Calls Tryd.prog 42 #[.pointer (some ⟨B, 0, none⟩)] W fun e w' => e = .returned (.tuple #[]) ∧ Rdr w0 w' e0 e1 e2 B t (a + 1) ∧ Kd [B] W w' := by
  have hT := hid (number_ok h hn)
  have hW := hid (fun w => whenS_impl false 18 w)
  have hA := hid (fun p w => ask_ok p w)
  have hz : whS false 18 = 0 := rfl
  rw [hz] at hW
  rw [hm] at hT
  clear h hn hm hz
  go_enter Tryd.func42, Tryd.ntmps42
  go_wp2_with fail
  refine hT.out.mono ?_
  rintro e w1 ⟨rfl, hr⟩
  replace hr := hid hr
  clear hT
  go_wp2_with fail
  refine (hW.out _).mono ?_
  rintro e w2 ⟨rfl, rfl⟩
  go_wp2_with fail
  refine (hA.out _ _).mono ?_
  rintro e w3 ⟨rfl, rfl⟩
  go_wp2_with fail
  exact bodyPost_end (v := .tuple #[]) (by simp [results, Tryd.results42]) rfl ⟨rfl, hr.out⟩
set_option maxRecDepth 100000 in
set_option maxHeartbeats 1000000 in
theorem version_bad {w0 W : World} {e0 e1 e2 : Addr} {B a : Nat} {t : ByteArray} (h : Rdr w0 W e0 e1 e2 B t a) (hn : a < t.size) (hm : byt t a ≠ 3) :
    Calls Tryd.prog 42 #[.pointer (some ⟨B, 0, none⟩)] W fun e w' => e = .panicked (ftV 18) ∧ Kd [B] W w' := by
  have hT := hid (number_ok h hn)
  have hW := hid (fun w => whenS_impl true 18 w)
  have hA := hid (fun p w => ask_bad p 18 w (by decide))
  have hz : whS true 18 = 18 := rfl
  rw [hz] at hW
  have hne : (byt t a != 3) = true := by simpa using hm
  generalize byt t a = z at *
  clear h hn hm hz
  go_enter Tryd.func42, Tryd.ntmps42
  go_wp2_with fail
  refine hT.out.mono ?_
  rintro e w1 ⟨rfl, hr⟩
  replace hr := hid hr
  clear hT
  go_wp2_with fail
  refine (hW.out _).mono ?_
  rintro e w2 ⟨rfl, rfl⟩
  go_wp2_with fail
  refine (hA.out _ _).mono ?_
  rintro e w3 ⟨rfl, rfl⟩
  exact ⟨rfl, rfl, hr.out.2⟩
end Go.Proofs.YtghcagibdcblnaaDoor
