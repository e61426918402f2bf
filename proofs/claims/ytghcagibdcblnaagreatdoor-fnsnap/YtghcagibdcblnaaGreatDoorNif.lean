/- The numbers, the switches and the ports of a snapshot are read: the program. -/
import Derived.Test.YtghcagibdcblnaaGreatDoorF36
import Derived.Test.YtghcagibdcblnaaGreatDoorF14
import Derived.Test.YtghcagibdcblnaaGreatDoorF19
import Derived.Deep.RegionWith
namespace Go.Proofs.YtghcagibdcblnaaGreatDoor
open Go.ChangeShapes Go.WideShapes Go.ChangeAt Go.RowKit
set_option linter.unusedVariables false
set_option linter.unusedSimpArgs false

/-- a reader and the box that it fills -/
structure RdS (w0 w1 W : World) (e0 e1 e2 : Addr) (B : Nat) (t : ByteArray) (a S : Nat) (A : Array Value) : Prop where
  rd : Rdr w0 W e0 e1 e2 B t a
  ne : S ≠ B
  lo : w0.heap.size ≤ S
  box : Blk W S A
  kd : Kd [B, S] w1 W
theorem Kd.cells {xs : List Nat} {a : World} {g : Nat} (hg : g ∈ xs) (vs : List Value) : ∀ (o : Nat) (b : World), Kd xs a b → Kd xs a (b.setCells g o vs) := by
  induction vs with
  | nil => exact fun o b h => h
  | cons u r ih => exact fun o b h => ih _ _ (h.set hg o u)
theorem Kd.cellsNew {xs : List Nat} {a : World} {g : Nat} (hg : a.heap.size ≤ g) (vs : List Value) : ∀ (o : Nat) (b : World), Kd xs a b → Kd xs a (b.setCells g o vs) := by
  induction vs with
  | nil => exact fun o b h => h
  | cons u r ih => exact fun o b h => ih _ _ (h.setNew hg o u)
theorem RdS.start {w0 W : World} {e0 e1 e2 : Addr} {B a S : Nat} {t : ByteArray} {A : Array Value} (h : Rdr w0 W e0 e1 e2 B t a) (ne : S ≠ B) (lo : w0.heap.size ≤ S) (box : Blk W S A) : RdS w0 W W e0 e1 e2 B t a S A := ⟨h, ne, lo, box, Kd.refl _ _⟩
theorem RdS.again {w0 w1 W : World} {e0 e1 e2 : Addr} {B a S : Nat} {t : ByteArray} {A : Array Value} (h : RdS w0 w1 W e0 e1 e2 B t a S A) : RdS w0 W W e0 e1 e2 B t a S A := ⟨h.rd, h.ne, h.lo, h.box, Kd.refl _ _⟩
theorem RdS.join {w0 w1 w2 W : World} {e0 e1 e2 : Addr} {B a a' S : Nat} {t : ByteArray} {A A' : Array Value} (h : RdS w0 w1 w2 e0 e1 e2 B t a S A) (k : RdS w0 w2 W e0 e1 e2 B t a' S A') : RdS w0 w1 W e0 e1 e2 B t a' S A' := ⟨k.rd, k.ne, k.lo, k.box, h.kd.trans k.kd⟩
theorem RdS.took {w0 w1 W W' : World} {e0 e1 e2 : Addr} {B a a' S : Nat} {t : ByteArray} {A : Array Value} (h : RdS w0 w1 W e0 e1 e2 B t a S A) (r : Rdr w0 W' e0 e1 e2 B t a') (k : Kd [B] W W') : RdS w0 w1 W' e0 e1 e2 B t a' S A :=
  ⟨r, h.ne, h.lo, k.blk h.box (by simp; exact h.ne), h.kd.trans (k.mono (by simp))⟩
theorem RdS.set {w0 w1 W : World} {e0 e1 e2 : Addr} {B a S : Nat} {t : ByteArray} {A : Array Value} (h : RdS w0 w1 W e0 e1 e2 B t a S A) (o : Nat) (v : Value) : RdS w0 w1 (W.setCell ⟨S, o, none⟩ v) e0 e1 e2 B t a S (A.setIfInBounds o v) :=
  ⟨h.rd.kd (xs := [S]) ((Kd.refl _ _).set (by simp) o v) (by simp; exact fun e => h.ne e.symm) (by simp; exact h.lo), h.ne, h.lo, h.box.set o v, h.kd.set (by simp) o v⟩
theorem RdS.below {w0 w1 W W' : World} {e0 e1 e2 : Addr} {B a S : Nat} {t : ByteArray} {A : Array Value} (h : RdS w0 w1 W e0 e1 e2 B t a S A) (hb : Below W.heap.size W W') : RdS w0 w1 W' e0 e1 e2 B t a S A :=
  ⟨h.rd.below hb, h.ne, h.lo, h.box.below hb h.box.lt, h.kd.trans (Kd.of_below hb)⟩
def rgT (t : ByteArray) (a : Nat) (A : Array Value) : Nat → Array Value
  | 0 => A
  | k + 1 => (rgT t a A k).setIfInBounds k (.int .i64 (byt t (a + k)))
theorem rgT_size (t : ByteArray) (a : Nat) (A : Array Value) : ∀ k, (rgT t a A k).size = A.size
  | 0 => rfl
  | k + 1 => by
    show ((rgT t a A k).setIfInBounds k _).size = _
    rw [Array.size_setIfInBounds]
    exact rgT_size t a A k
def numS11 (s : Sn) (t : ByteArray) (a : Nat) : Sn := { s with c := { s.c with r0 := byt t a, r1 := byt t (a + 1), r2 := byt t (a + 2), r3 := byt t (a + 3), r4 := byt t (a + 4), r5 := byt t (a + 5), r6 := byt t (a + 6), r7 := byt t (a + 7), f := byt t (a + 8), sp := byt t (a + 9), pc := byt t (a + 10) } }
theorem numS_cells (s : Sn) (t : ByteArray) (a : Nat) (vr vm : Value) : (((rgT t a (snA s vr vm) 8).setIfInBounds 8 (.int .i64 (byt t (a + 8)))).setIfInBounds 9 (.int .i64 (byt t (a + 9)))).setIfInBounds 10 (.int .i64 (byt t (a + 10))) = snA (numS11 s t a) vr vm := by
  simp only [rgT, snA, numS11, List.setIfInBounds_toArray, List.set_cons_zero, List.set_cons_succ, Nat.add_zero]
set_option maxRecDepth 100000 in
set_option maxHeartbeats 1000000 in
theorem numbers_impl {w0 W : World} {e0 e1 e2 : Addr} {B a S : Nat} {t : ByteArray} {s : Sn} {vr vm : Value} (h : RdS w0 W W e0 e1 e2 B t a S (snA s vr vm)) (hn : a + 11 ≤ t.size) :
    Calls Tryz.prog 73 #[.pointer (some ⟨B, 0, none⟩), .pointer (some ⟨S, 0, none⟩)] W fun e w' => e = .returned (.tuple #[]) ∧ RdS w0 W w' e0 e1 e2 B t (a + 11) S (snA (numS11 s t a) vr vm) := by
  have hT := hid (fun (W1 : World) (b : Nat) (A : Array Value) (h1 : RdS w0 W W1 e0 e1 e2 B t (a + b) S A) (hb : b < 11) => (number_ok h1.rd (by omega)).mono (R' := fun e w' => e = .returned (.int .i64 (byt t (a + b))) ∧ RdS w0 W w' e0 e1 e2 B t (a + b + 1) S A) (by rintro e w' ⟨rfl, h2, h3⟩; exact ⟨rfl, h1.took h2 h3⟩))
  have hcell := hid (numS_cells s t a vr vm)
  have hsz : Hid (∀ k, (rgT t a (snA s vr vm) k).size = 31) := fun k => rgT_size t a _ k
  replace hn := hid hn
  have h0 : Hid (RdS w0 W W e0 e1 e2 B t (a + 0) S (rgT t a (snA s vr vm) 0)) := h
  clear h
  go_enter Tryz.func73, Tryz.ntmps73
  go_wp2
  go_loopw [5] (fun i wr => ∃ k : Nat, k ≤ 8 ∧ i = .int .i64 k ∧ RdS w0 W wr e0 e1 e2 B t (a + k) S (rgT t a (snA s vr vm) k)) (fun i _ => 8 - (intOf i).toNat)
  case atStart => exact ⟨0, by omega, rfl, h0.out⟩
  case round =>
    obtain ⟨k, hk, rfl, hR⟩ := hrel
    clear h0
    by_cases hlt : k < 8
    · have hT2 := hid (fun X (hX : RdS w0 W X e0 e1 e2 B t (a + k) S (rgT t a (snA s vr vm) k)) => hT.out X k _ hX (by omega))
      have hRd := hid (hR.below (Below.refl wr.heap.size wr).drew)
      have hst : Hid (∀ w', RdS w0 W w' e0 e1 e2 B t (a + k + 1) S (rgT t a (snA s vr vm) k) → RdS w0 W (w'.setCell ⟨S, k, none⟩ (.int .i64 (byt t (a + k)))) e0 e1 e2 B t (a + (k + 1)) S (rgT t a (snA s vr vm) (k + 1))) := fun w' h1 => h1.set k _
      obtain ⟨z, hz⟩ : ∃ z, byt t (a + k) = z := ⟨_, rfl⟩
      obtain ⟨A, hA⟩ : ∃ A, rgT t a (snA s vr vm) k = A := ⟨_, rfl⟩
      rw [hz, hA] at hst
      rw [hz, hA] at hT2
      rw [hA] at hRd
      have hAs : A.size = 31 := by rw [← hA]; exact hsz.out k
      have hx : ∃ x, A[k]? = some x := ⟨_, Array.getElem?_eq_getElem (by omega)⟩
      obtain ⟨x, hx⟩ := hx
      clear hR hA hT hsz hcell hz hAs
      go_upto_region 3 with fail
      go_region_with ((go_at_call 88; refine (hT2.out _ hRd.out).mono ?_; rintro e w' ⟨rfl, h2⟩; have c0 := h2.box.cell k; rw [hx] at c0; have cf := h2.box.frozen k; have cl := h2.box.lt; replace h2 := hid h2))
      have hst2 := hid (hst.out _ h2.out)
      clear hst h2 c0 cf cl hT2 hRd
      go_wp2
      go_roundw
      case rel => exact ⟨k + 1, by omega, by go_num, hst2.out⟩
      case measure => simp [intOf]; omega
    · obtain rfl : k = 8 := by omega
      have g8 : (rgT t a (snA s vr vm) 8).size = 31 := hsz.out 8
      obtain ⟨A, hA⟩ : ∃ A, rgT t a (snA s vr vm) 8 = A := ⟨_, rfl⟩
      rw [hA] at hR g8
      rw [hA] at hcell
      have hx8 : ∀ (A : Array Value), A.size = 31 → ∀ k, k < 31 → ∃ x, A[k]? = some x := fun A hA k hk => ⟨_, Array.getElem?_eq_getElem (by omega)⟩
      have hT8 := hid (hT.out wr 8 _ hR (by omega))
      have hT9 := hid (fun X A (hX : RdS w0 W X e0 e1 e2 B t (a + 9) S A) => hT.out X 9 _ hX (by omega))
      have hT10 := hid (fun X A (hX : RdS w0 W X e0 e1 e2 B t (a + 10) S A) => hT.out X 10 _ hX (by omega))
      obtain ⟨z8, hz8⟩ : ∃ z, byt t (a + 8) = z := ⟨_, rfl⟩
      obtain ⟨z9, hz9⟩ : ∃ z, byt t (a + 9) = z := ⟨_, rfl⟩
      obtain ⟨z10, hz10⟩ : ∃ z, byt t (a + 10) = z := ⟨_, rfl⟩
      rw [hz8] at hT8 hcell
      rw [hz9] at hT9 hcell
      rw [hz10] at hT10 hcell
      obtain ⟨x8, hy8⟩ := hx8 A g8 8 (by omega)
      obtain ⟨x9, hy9⟩ := hx8 (A.setIfInBounds 8 (.int .i64 z8)) (by simpa using g8) 9 (by omega)
      obtain ⟨x10, hy10⟩ := hx8 ((A.setIfInBounds 8 (.int .i64 z8)).setIfInBounds 9 (.int .i64 z9)) (by simpa using g8) 10 (by omega)
      replace hy8 := hid hy8
      replace hy9 := hid hy9
      replace hy10 := hid hy10
      clear hR hA hT hsz g8 hx8 hz8 hz9 hz10 hn
      go_wp2_with fail
      refine hT8.out.mono ?_
      rintro e w1 ⟨rfl, h1⟩
      have c1 : w1.cell? ⟨S, 8, none⟩ = some x8 := (h1.box.cell 8).trans hy8.out
      have cf := h1.box.frozen 8
      have cl := h1.box.lt
      have h2 := hid (h1.set 8 (.int .i64 z8))
      clear h1 hT8
      go_upto_region 6 with fail
      obtain ⟨V, hV⟩ : ∃ V, w1.setCell ⟨S, 8, none⟩ (.int .i64 z8) = V := ⟨_, rfl⟩
      rw [hV] at h2 ⊢
      clear hV c1 cf cl
      go_wp2_with fail
      refine (hT9.out _ _ h2.out).mono ?_
      rintro e w2 ⟨rfl, h3⟩
      have c1 : w2.cell? ⟨S, 9, none⟩ = some x9 := (h3.box.cell 9).trans hy9.out
      have cf := h3.box.frozen 9
      have cl := h3.box.lt
      have h4 := hid (h3.set 9 (.int .i64 z9))
      clear h3 hT9 h2
      go_upto_region 7 with fail
      obtain ⟨V2, hV⟩ : ∃ V, w2.setCell ⟨S, 9, none⟩ (.int .i64 z9) = V := ⟨_, rfl⟩
      rw [hV] at h4 ⊢
      clear hV c1 cf cl
      go_wp2_with fail
      refine (hT10.out _ _ h4.out).mono ?_
      rintro e w3 ⟨rfl, h5⟩
      have c1 : w3.cell? ⟨S, 10, none⟩ = some x10 := (h5.box.cell 10).trans hy10.out
      have cf := h5.box.frozen 10
      have cl := h5.box.lt
      have h6 := hid (h5.set 10 (.int .i64 z10))
      rw [hcell.out] at h6
      clear h5 hT10 h4
      go_wp2
      exact bodyPost_end (v := .tuple #[]) (by simp [results, Tryz.results73]) rfl ⟨rfl, h6.out⟩
theorem bits_sw : ∀ b : Fin 256, ((bits .and .i64 (b.val : Int) 1 != 0) = bitAt b.val 1 ∧ (bits .and .i64 (b.val : Int) 2 != 0) = bitAt b.val 2 ∧ (bits .and .i64 (b.val : Int) 4 != 0) = bitAt b.val 4 ∧ (bits .and .i64 (b.val : Int) 8 != 0) = bitAt b.val 8 ∧ (bits .and .i64 (b.val : Int) 16 != 0) = decide ((b.val : Int) / 16 % 2 = 1)) := by decide +kernel
theorem bits_at {z : Int} (h0 : 0 ≤ z) (h1 : z ≤ 255) : (bits .and .i64 z 1 != 0) = bitAt z 1 ∧ (bits .and .i64 z 2 != 0) = bitAt z 2 ∧ (bits .and .i64 z 4 != 0) = bitAt z 4 ∧ (bits .and .i64 z 8 != 0) = bitAt z 8 ∧ (bits .and .i64 z 16 != 0) = decide (z / 16 % 2 = 1) := by
  obtain ⟨n, rfl⟩ : ∃ n : Nat, z = (n : Int) := ⟨z.toNat, by omega⟩
  exact bits_sw ⟨n, by omega⟩
def swS (s : Sn) (v : Int) : Sn := { s with c := { s.c with iff := bitAt v 1, ei := bitAt v 2, halt := bitAt v 4 }, m := { s.m with screen := 1 + 2 * (v / 16 % 2), locked := bitAt v 8 } }
theorem sw_cells (s : Sn) (v : Int) (vr vm : Value) : ((((snA s vr vm).setIfInBounds 11 (.bool (bitAt v 1))).setIfInBounds 12 (.bool (bitAt v 2))).setIfInBounds 13 (.bool (bitAt v 4))).setIfInBounds 18 (.bool (bitAt v 8)) = snA { s with c := { s.c with iff := bitAt v 1, ei := bitAt v 2, halt := bitAt v 4 }, m := { s.m with locked := bitAt v 8 } } vr vm := rfl
theorem sw_low {s : Sn} {v : Int} (hs : s.m.screen = 1) (h0 : 0 ≤ v) (hv : decide (v / 16 % 2 = 1) = false) : ({ s with c := { s.c with iff := bitAt v 1, ei := bitAt v 2, halt := bitAt v 4 }, m := { s.m with locked := bitAt v 8 } } : Sn) = swS s v := by
  have : v / 16 % 2 = 0 := by have := of_decide_eq_false hv; omega
  unfold swS
  rw [this, ← show s.m.screen = 1 + 2 * 0 by rw [hs]; rfl]
theorem sw_high {s : Sn} {v : Int} (vr vm : Value) (hv : decide (v / 16 % 2 = 1) = true) : (snA { s with c := { s.c with iff := bitAt v 1, ei := bitAt v 2, halt := bitAt v 4 }, m := { s.m with locked := bitAt v 8 } } vr vm).setIfInBounds 17 (.int .i64 3) = snA (swS s v) vr vm := by
  have : v / 16 % 2 = 1 := of_decide_eq_true hv
  unfold swS
  rw [this]
  rfl
set_option maxRecDepth 100000 in
set_option maxHeartbeats 1000000 in
theorem rswitches_impl {w0 W : World} {e0 e1 e2 : Addr} {B a S : Nat} {t : ByteArray} {s : Sn} {vr vm : Value} (h : RdS w0 W W e0 e1 e2 B t a S (snA s vr vm)) (hn : a < t.size) (hs : s.m.screen = 1) (hm : byt t a ≤ 31) :
    Calls Tryz.prog 74 #[.pointer (some ⟨B, 0, none⟩), .pointer (some ⟨S, 0, none⟩), .pointer (some ⟨S, 14, none⟩)] W fun e w' => e = .returned (.tuple #[]) ∧ RdS w0 W w' e0 e1 e2 B t (a + 1) S (snA (swS s (byt t a)) vr vm) := by
  have hT := hid ((upto_ok h.rd 31 hn hm).mono (R' := fun e w' => e = .returned (.int .i64 (byt t a)) ∧ RdS w0 W w' e0 e1 e2 B t (a + 1) S (snA s vr vm)) (by rintro e w' ⟨rfl, h2, h3⟩; exact ⟨rfl, h.took h2 h3⟩))
  have hbd := byt_bd t a
  obtain ⟨b1, b2, b4, b8, b16⟩ := bits_at (z := byt t a) (by omega) (by omega)
  have hcell := hid (sw_cells s (byt t a) vr vm)
  have hlo := hid (fun hv => sw_low (s := s) (v := byt t a) hs (by omega) hv)
  have hhi := hid (fun hv => sw_high (s := s) (v := byt t a) vr vm hv)
  obtain ⟨z, hz⟩ : ∃ z, byt t a = z := ⟨_, rfl⟩
  rw [hz] at hT b1 b2 b4 b8 b16 hcell hlo hhi ⊢
  clear hz hbd h hn hs hm
  go_enter Tryz.func74, Tryz.ntmps74
  go_wp2_with fail
  refine hT.out.mono ?_
  rintro e w1 ⟨rfl, h1⟩
  have x0 := h1.box.cell
  have xf := h1.box.frozen
  have xl := h1.box.lt
  have h2 := hid ((((h1.set 11 (.bool (bitAt z 1))).set 12 (.bool (bitAt z 2))).set 13 (.bool (bitAt z 4))).set 18 (.bool (bitAt z 8)))
  clear h1 hT
  go_upto_region 5 with fail
  obtain ⟨V, hV⟩ : ∃ V, (((w1.setCell ⟨S, 11, none⟩ (.bool (bitAt z 1))).setCell ⟨S, 12, none⟩ (.bool (bitAt z 2))).setCell ⟨S, 13, none⟩ (.bool (bitAt z 4))).setCell ⟨S, 18, none⟩ (.bool (bitAt z 8)) = V := ⟨_, rfl⟩
  rw [hV] at h2 ⊢
  rw [hcell.out] at h2
  clear hV x0 xf xl hcell b1 b2 b4 b8
  cases hb : decide (z / 16 % 2 = 1)
  · rw [hb] at b16
    rw [hlo.out hb] at h2
    clear hlo hhi hb
    go_wp2
    exact bodyPost_end (v := .tuple #[]) (by simp [results, Tryz.results74]) rfl ⟨rfl, h2.out⟩
  · rw [hb] at b16
    have x0 := h2.out.box.cell
    have xf := h2.out.box.frozen
    have xl := h2.out.box.lt
    have h3 := hid (h2.out.set 17 (.int .i64 3))
    rw [hhi.out hb] at h3
    clear hlo hhi hb h2
    go_wp2
    exact bodyPost_end (v := .tuple #[]) (by simp [results, Tryz.results74]) rfl ⟨rfl, h3.out⟩
set_option maxRecDepth 100000 in
set_option maxHeartbeats 1000000 in
theorem rswitches_bad {w0 W : World} {e0 e1 e2 : Addr} {B a : Nat} {t : ByteArray} (h : Rdr w0 W e0 e1 e2 B t a) (p q : Value) (hn : a < t.size) (hm : 31 < byt t a) :
    Calls Tryz.prog 74 #[.pointer (some ⟨B, 0, none⟩), p, q] W fun e w' => e = .panicked (ftV 3) ∧ Kd [B] W w' := by
  have hT := hid (upto_bad h 31 hn hm)
  clear h hn hm
  go_enter Tryz.func74, Tryz.ntmps74
  go_wp2_with fail
  refine hT.out.mono ?_
  rintro e w1 ⟨rfl, h1⟩
  exact ⟨rfl, rfl, h1⟩
theorem ula_bitsN : ∀ b : Fin 256, (((Nat.land b.val 7 : Nat) : Int) = (b.val : Int) % 8 ∧ micN b.val = bitAt b.val 8 ∧ beepN b.val = bitAt b.val 16) := by decide +kernel
theorem po_ula {z : Int} (h0 : 0 ≤ z) (h1 : z ≤ 31) : ula2 neP z = (poS z, 0) := by
  obtain ⟨n, rfl⟩ : ∃ n : Nat, z = (n : Int) := ⟨z.toNat, by omega⟩
  obtain ⟨u1, u2, u3⟩ := ula_bitsN ⟨n, by omega⟩
  unfold ula2
  rw [if_pos (by decide), if_pos (by unfold inB; simp; omega), Int.toNat_natCast]
  unfold Po.ula poS
  dsimp only at u1 u2 u3
  rw [u1, u2, u3]
set_option maxRecDepth 100000 in
set_option maxHeartbeats 1000000 in
theorem ports_impl {w0 W : World} {e0 e1 e2 : Addr} {B a : Nat} {t : ByteArray} (h : Rdr w0 W e0 e1 e2 B t a) (hn : a < t.size) (hm : byt t a ≤ 31) :
    Calls Tryz.prog 76 #[.pointer (some ⟨B, 0, none⟩)] W fun e w' => e = .returned (poV (poS (byt t a))) ∧ Rdr w0 w' e0 e1 e2 B t (a + 1) ∧ Kd [B] W w' := by
  have hU := hid (fun X (hX : Rdr w0 X e0 e1 e2 B t a) => upto_ok hX 31 hn hm)
  have hN := hid (fun X => newpo_impl X)
  have hbd := byt_bd t a
  have hL := hid (fun X => ula_impl neP (byt t a) X)
  rw [po_ula (by omega) hm] at hL
  have hA := hid (fun p w1 => ask_ok p w1)
  obtain ⟨z, hz⟩ : ∃ z, byt t a = z := ⟨_, rfl⟩
  rw [hz] at hU hL ⊢
  generalize poS z = P at *
  clear hz hbd hn hm
  replace h := hid h
  go_enter Tryz.func76, Tryz.ntmps76
  have q0 := hid (Blk.new W (poA zeP) 31)
  have k0 : Hid (Kd [B] W (W.alloc (.cells (poA zeP) 31))) := (Kd.refl _ _).alloc _
  have r0 := hid (h.out.below ((Below.refl W.heap.size W).alloc (Nat.le_refl _) (.cells (poA zeP) 31)))
  have hWB : W.heap.size ≠ B := by have := h.out.blk.lt; omega
  have hW0 : Hid (w0.heap.size ≤ W.heap.size) := h.out.bel.size
  go_upto_region 1 with fail
  obtain ⟨G, hG⟩ : ∃ G, W.heap.size = G := ⟨_, rfl⟩
  obtain ⟨V, hV⟩ : ∃ V, W.alloc (Obj.cells (poA zeP) 31) = V := ⟨_, rfl⟩
  rw [hV] at q0 k0 r0 ⊢
  rw [hG] at q0 hWB ⊢
  have hGW : Hid (W.heap.size ≤ G) := by unfold Hid; omega
  clear hV hG h
  go_wp2_with fail
  refine (hN.out _).mono ?_
  rintro e w1 ⟨rfl, hb⟩
  have r1 := hid (r0.out.below hb)
  have q1 := hid (q0.out.below hb q0.out.lt)
  have k1 : Hid (Kd [B] W w1) := k0.out.trans (Kd.of_below hb)
  clear hb r0 q0 k0 hN
  go_wp2_with fail
  refine (hU.out _ r1.out).mono ?_
  rintro e w2 ⟨rfl, h2, k2⟩
  have r2 := hid h2
  have q2 := hid (k2.blk q1.out (by simpa using hWB))
  have k3 := hid (k1.out.trans k2)
  clear r1 q1 k1 h2 k2 hU
  go_wp2_with fail
  refine (hL.out _).mono ?_
  rintro e w3 ⟨rfl, hb⟩
  have r3 := hid (r2.out.below hb)
  have q3 := hid (q2.out.below hb q2.out.lt)
  have k4 : Hid (Kd [B] W w3) := k3.out.trans (Kd.of_below hb)
  clear hb r2 q2 k3 hL
  have r4 := hid (r3.out.below ((Below.refl w3.heap.size w3).alloc (Nat.le_refl _) (.cells (poA P) 31)))
  have q4 := hid (q3.out.alloc (.cells (poA P) 31))
  have k5 := hid (k4.out.alloc (.cells (poA P) 31))
  have p4 := hid (Blk.new w3 (poA P) 31)
  have hne : G < w3.heap.size := q3.out.lt
  clear r3 q3 k4
  unfold ans2
  go_upto_region 2 with fail
  obtain ⟨V3, hV⟩ : ∃ V3, w3.alloc (Obj.cells (poA P) 31) = V3 := ⟨_, rfl⟩
  rw [hV] at r4 q4 k5 p4 ⊢
  obtain ⟨G3, hG⟩ : ∃ G3, w3.heap.size = G3 := ⟨_, rfl⟩
  rw [hG] at p4 hne ⊢
  clear hV hG
  go_wp2_with fail
  refine (hA.out _ _).mono ?_
  rintro e w5 ⟨rfl, rfl⟩
  have x1 : Hid (w5.rangeAt G3 0 (poA P).toList) := hid (blk_range p4.out [] _ [] (by simp))
  have hth := hid (blk_there q4.out (o := 0) (n := (poA P).size) (by show 0 + 12 ≤ 12; omega))
  obtain ⟨wF, hwF⟩ : ∃ X, w5.setCells G 0 (poA P).toList = X := ⟨_, rfl⟩
  have hRF : Hid (Blk wF G (poA P)) := by
    rw [← hwF]
    have := layE_blk G (poA P).toList _ 0 _ q4.out
    have e : layE 0 (poA P).toList (poA zeP) = poA P := by
      simp only [layE, List.setIfInBounds_toArray, List.set_cons_zero, List.set_cons_succ, Nat.zero_add, Nat.reduceAdd]
    rw [e] at this
    exact this
  have hKF : Hid (Kd [B] W wF) := by rw [← hwF]; exact Kd.cellsNew hGW.out _ _ _ k5.out
  have hRd : Hid (Rdr w0 wF e0 e1 e2 B t (a + 1)) := by
    have k : Kd [G] w5 wF := by rw [← hwF]; exact Kd.cells (by simp) _ _ _ (Kd.refl _ _)
    have hwl := r4.out.bel.size
    exact r4.out.kd k (by simp; exact fun e => hWB e.symm) (by simp; have := hGW.out; have := hW0.out; omega)
  replace hwF := hid hwF
  clear r4 q4 k5 p4 hA
  go_wp2_with (first | (refine wpList_load_mid rfl 31 _ rfl G3 0 rfl (poA P).toList _ x1.out Tryz.underlying31 rfl (szP P) ?_) | (guard_target = wpList _ _ _ (Oper.mk _ (Op.store _ _ _) _ _ _ _ :: _) _ _; refine wpList_store_mid rfl 31 _ _ rfl G 0 (poA P) rfl rfl hth.out (szP2 P) (po_one P) ?_; rw [hwF.out]))
  obtain ⟨tt, htt⟩ := hRF.out
  exact bodyPost_ret (v := poV P) (results_cell_row Tryz.results76 _ _ G tt (poA P) (0, 0) _ rfl htt Tryz.underlying31 rfl (szP2 P)) rfl ⟨rfl, hRd.out, hKF.out⟩
set_option maxRecDepth 100000 in
set_option maxHeartbeats 1000000 in
theorem ports_bad {w0 W : World} {e0 e1 e2 : Addr} {B a : Nat} {t : ByteArray} (h : Rdr w0 W e0 e1 e2 B t a) (hn : a < t.size) (hm : 31 < byt t a) :
    Calls Tryz.prog 76 #[.pointer (some ⟨B, 0, none⟩)] W fun e w' => e = .panicked (ftV 3) ∧ Kd [B] W w' := by
  have hU := hid (fun X (hX : Rdr w0 X e0 e1 e2 B t a) => upto_bad hX 31 hn hm)
  have hN := hid (fun X => newpo_impl X)
  clear hn hm
  have k0 : Hid (Kd [B] W (W.alloc (.cells (poA zeP) 31))) := (Kd.refl _ _).alloc _
  have r0 := hid (h.below ((Below.refl W.heap.size W).alloc (Nat.le_refl _) (.cells (poA zeP) 31)))
  go_enter Tryz.func76, Tryz.ntmps76
  go_upto_region 1 with fail
  obtain ⟨V, hV⟩ : ∃ V, W.alloc (Obj.cells (poA zeP) 31) = V := ⟨_, rfl⟩
  rw [hV] at k0 r0 ⊢
  clear hV h
  go_wp2_with fail
  refine (hN.out _).mono ?_
  rintro e w1 ⟨rfl, hb⟩
  have r1 := hid (r0.out.below hb)
  have k1 : Hid (Kd [B] W w1) := k0.out.trans (Kd.of_below hb)
  clear hb r0 k0 hN
  go_wp2_with fail
  refine (hU.out _ r1.out).mono ?_
  rintro e w2 ⟨rfl, k2⟩
  exact ⟨rfl, rfl, k1.out.trans k2⟩
end Go.Proofs.YtghcagibdcblnaaGreatDoor
