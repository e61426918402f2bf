/- A ROM that the laws draw: a text of 64 bytes. -/
import Derived.Test.YtghcagibdcblnaaGreatDoorMuf
import Derived.Deep.DeepCutAuto
import Derived.Test.YtghcagibdcblnaaGreatDoorF12
import Derived.ChangeKeysEq
import Derived.Test.YtghcagibdcblnaaGreatDoorF20
import Derived.LaidMore
import Derived.Stop.LaidErr
import Derived.Stop.Joined
import Derived.Test.YtghcagibdcblnaaGreatDoorF24
import Derived.Test.YtghcagibdcblnaaGreatDoorNgf
import Derived.Test.YtghcagibdcblnaaGreatDoorF47
namespace Go.Proofs.YtghcagibdcblnaaGreatDoor
open Go.ChangeShapes Go.WideShapes Go.ChangeAt Go.RowKit
set_option linter.unusedVariables false
set_option linter.unusedSimpArgs false

/-- while a ROM is being drawn: k bytes in a row of its own -/
structure RomSt (w W : World) (p : Nat) (a : Option Addr) (len cap m g c k : Nat) (xs : List Int) : Prop where
  lenx : xs.length = k
  own : W.ownsRow w.heap.size 5 1 (.slice (some ⟨g, 0, none⟩) k c) k (xs.map (Value.int .u8))
  src : ∃ n', n' ≤ m ∧ Src W p a len cap n'
  gro : w.grownBy W (some p)
theorem RomSt.lt {w W : World} {p : Nat} {a : Option Addr} {len cap m g c k : Nat} {xs : List Int} (h : RomSt w W p a len cap m g c k xs) : w.heap.size ≤ g ∧ g < W.heap.size := h.own.lt g rfl
theorem RomSt.next {w W W' : World} {p : Nat} {a : Option Addr} {len cap m m' g c k n' : Nat} {xs : List Int} (h : RomSt w W p a len cap m g c k xs) (hp : p < w.heap.size) (hg : W.grownBy W' (some p)) (hs : Src W' p a len cap n') (hn : n' ≤ m') : RomSt w W' p a len cap m' g c k xs :=
  ⟨h.lenx, h.own.kept hg (.inr (by
    intro e
    have := (h.own.lt p e).1
    omega)), ⟨n', hn, hs⟩, grown_two h.gro hg⟩
theorem RomSt.below {w W W' : World} {p : Nat} {a : Option Addr} {len cap m g c k : Nat} {xs : List Int} (h : RomSt w W p a len cap m g c k xs) (hb : Below W.heap.size W W') : RomSt w W' p a len cap m g c k xs := by
  have hg : W.grownBy W' none := ⟨hb.os, hb.tape, hb.output, hb.size, fun b hb1 _ => hb.block b hb1⟩
  obtain ⟨n', hn, hs⟩ := h.src
  exact ⟨h.lenx, h.own.kept hg (.inr (by intro e; cases e)), ⟨n', hn, hs.kept hg (by intro g e; cases e)⟩, grown_two h.gro ⟨hb.os, hb.tape, hb.output, hb.size, fun b hb1 _ => hb.block b hb1⟩⟩
theorem RomSt.set {w W : World} {p : Nat} {a : Option Addr} {len cap m g c k b : Nat} {xs : List Int} (h : RomSt w W p a len cap m g c k xs) (hp : p < w.heap.size) (hb : w.heap.size ≤ b) (hne : g ≠ b) (i : Nat) (u : Value) : RomSt w (W.setCell ⟨b, i, none⟩ u) p a len cap m g c k xs := by
  have hg : W.grownBy (W.setCell ⟨b, i, none⟩ u) (some b) := ⟨rfl, rfl, rfl, by simp [World.setCell], fun k hk hne => Below.heap_setCell _ _ _ _ (by intro e; exact hne (by rw [e]))⟩
  obtain ⟨n', hn, hs⟩ := h.src
  exact ⟨h.lenx, h.own.kept hg (.inr (by intro e; injection e with e; exact hne e)), ⟨n', hn, hs.setO (by omega)⟩, grown_setO h.gro hb⟩
theorem RomSt.step {w W W2 : World} {p : Nat} {a : Option Addr} {len cap m g c g2 c2 k : Nat} {xs : List Int} {x : Int} {o : Obj} (h : RomSt w W p a len cap m g c k xs) (hp : p < w.heap.size)
    (hown : W2.ownsRow w.heap.size 5 1 (.slice (some ⟨g2, 0, none⟩) (k + 1) c2) (k + 1) (xs.map (Value.int .u8) ++ [.int .u8 x])) (hg : (W.alloc o).grownBy W2 (some g)) : RomSt w W2 p a len cap m g2 c2 (k + 1) (xs ++ [x]) := by
  have hl := h.lt
  have g12 : W.grownBy W2 (some g) := grown_then ((World.grownBy_alloc W o (some g))) hg (fun g hg => .inr hg)
  obtain ⟨n', hn, hs⟩ := h.src
  exact ⟨by simp [h.lenx], by simpa using hown, ⟨n', hn, hs.kept g12 (fun g' e => by cases e; omega)⟩, grown_then h.gro g12 (fun g' e => by cases e; exact .inl hl.1)⟩
theorem RomSt.mono {w W : World} {p : Nat} {a : Option Addr} {len cap m m' g c k : Nat} {xs : List Int} (h : RomSt w W p a len cap m g c k xs) (hm : m ≤ m') : RomSt w W p a len cap m' g c k xs := by
  obtain ⟨n', hn, hs⟩ := h.src
  exact ⟨h.lenx, h.own, ⟨n', by omega, hs⟩, h.gro⟩
/-- an instruction's box is filled anew -/
theorem RomSt.fill {w W : World} {p : Nat} {a : Option Addr} {len cap m g c k b : Nat} {xs : List Int} {z0 z1 z2 z3 z4 : Value} (h : RomSt w W p a len cap m g c k xs) (hp : p < w.heap.size) (hb : w.heap.size ≤ b) (hne : g ≠ b) (q : Blk W b #[z0, z1, z2, z3, z4]) (o i j n l : Int) (hI : Ins o i j n l) :
    ∃ o' i' j' n' l', Ins o' i' j' n' l' ∧ RomSt w (((((W.setCell ⟨b, 0, none⟩ (.int .i64 o)).setCell ⟨b, 1, none⟩ (.int .i64 i)).setCell ⟨b, 2, none⟩ (.int .i64 j)).setCell ⟨b, 3, none⟩ (.int .i64 n)).setCell ⟨b, 4, none⟩ (.int .i64 l)) p a len cap m g c k xs ∧ Blk (((((W.setCell ⟨b, 0, none⟩ (.int .i64 o)).setCell ⟨b, 1, none⟩ (.int .i64 i)).setCell ⟨b, 2, none⟩ (.int .i64 j)).setCell ⟨b, 3, none⟩ (.int .i64 n)).setCell ⟨b, 4, none⟩ (.int .i64 l)) b #[.int .i64 o', .int .i64 i', .int .i64 j', .int .i64 n', .int .i64 l'] := by
  have := ((((q.set 0 (.int .i64 o)).set 1 (.int .i64 i)).set 2 (.int .i64 j)).set 3 (.int .i64 n)).set 4 (.int .i64 l)
  exact ⟨o, i, j, n, l, hI, ((((h.set hp hb hne 0 _).set hp hb hne 1 _).set hp hb hne 2 _).set hp hb hne 3 _).set hp hb hne 4 _, by simpa using this⟩
theorem RowR.grownBy {w w' : World} {b n cap g : Nat} {zs : List Int} (h : RowR w (.slice (some ⟨b, 0, none⟩) n cap) zs) (hg : w.grownBy w' (some g)) (hne : g ≠ b) : RowR w' (.slice (some ⟨b, 0, none⟩) n cap) zs := by
  obtain ⟨a, cap', e, h⟩ := h
  injection e with e1 e2 e3
  subst e1 e2 e3
  refine ⟨_, _, rfl, ?_⟩
  rcases h with h | ⟨b', off, e, h⟩
  · exact .inl h
  · injection e with e
    injection e with e1 e2
    subst e1 e2
    exact .inr ⟨b, 0, rfl, fun i hi => hg.cell (h i hi) (by simp; exact fun e => hne e.symm)⟩
def lenVm : Value → Nat
  | .slice _ l _ => l
  | _ => 0
/-- the first 64 bytes as a text -/
theorem rom_string {w W : World} {p : Nat} {a : Option Addr} {len cap m g c k : Nat} {xs : List Int} (h : RomSt w W p a len cap m g c k xs) (hk : 64 ≤ k) :
    64 ≤ c ∧ (convert 22 9 (.slice (some ⟨g, 0, none⟩) 64 c)).run Tryz.prog W = .ok (.string (strOfNums (xs.take 64))) W := by
  have hlx := h.lenx
  have hkc : k ≤ c := by
    obtain ⟨_, ⟨h0, _⟩ | ⟨g', cap', cur, e, hb, hh, hn, hm, hs, ht⟩⟩ := h.own
    · cases h0
    · injection e with e1 e2 e3
      omega
  refine ⟨by omega, run_convert_bytes_arg _ 22 5 Tryz.underlying22 Tryz.underlying5 g 0 64 c (xs.take 64) (by rw [List.length_take]; omega) (fun i hi => ?_) 9 Tryz.underlying9⟩
  rw [Nat.zero_add, h.own.cellAt i (by omega)]
  have h1 : i < xs.length := by omega
  simp [List.getD_eq_getElem?_getD, List.getElem?_take, hi, List.getElem?_eq_getElem h1]
set_option maxRecDepth 100000 in
set_option maxHeartbeats 4000000 in
theorem rom_any (p : Nat) (a : Option Addr) (len cap n : Nat) (w : World) (hs : Src w p a len cap n) (hn : n ≤ 1000) :
    Calls Tryz.prog 14 #[.pointer (some ⟨p, 0, none⟩)] w fun e w' => (∃ s : ByteArray, e = .returned (.string s) ∧ s.size = 64) ∧ w.grownBy w' (some p) := by
  obtain ⟨i0, hi0, hz0, hz1, hz2⟩ := info_parts infoU8
  have hp := hs.lt
  have h0 : Hid (RomSt w (w.alloc (.cells #[] 5)) p a len cap n w.heap.size 0 0 []) := ⟨rfl, World.ownsRow_lit w #[] 0 (Nat.le_refl _) (by decide) rfl, ⟨n, Nat.le_refl _, hs.kept (World.grownBy_alloc w _ none) (fun g hg => by cases hg)⟩, World.grownBy_alloc w _ _⟩
  clear hs
  go_enter Tryz.func14, Tryz.ntmps14
  go_wp2
  go_loopw [3] (fun v wr => ∃ (k g c : Nat) (xs : List Int), k ≤ 65 ∧ v = .slice (some ⟨g, 0, none⟩) k c ∧ RomSt w wr p a len cap (n + 27 * k) g c k xs) (fun v _ => 65 - lenVm v)
  case atStart => exact ⟨0, _, _, [], by omega, rfl, h0.out⟩
  case round =>
    obtain ⟨k, g, c, xs, hk, rfl, hS⟩ := hrel
    clear h0
    by_cases hlt : k < 64
    · obtain ⟨n1, hn1, hs1⟩ := hS.src
      replace hS := hid hS
      go_wp2_with fail
      refine (instr_any p a len cap n1 _ hs1 (by omega)).mono ?_
      rintro e w1 ⟨⟨o, i, j, q, l, rfl, hI⟩, ⟨n2, hn2, hs2⟩, hg2⟩
      have hS1 := hS.out.next hp hg2 hs2 (m' := n + 27 * k + 6) (by omega)
      have hS2 : Hid (RomSt w (w1.alloc (.cells #[.int .i64 o, .int .i64 i, .int .i64 j, .int .i64 q, .int .i64 l] 62)) p a len cap (n + 27 * k + 6) g c k xs) := hS1.below ((Below.refl _ _).alloc (Nat.le_refl _) _)
      have hb2 : Hid (Blk (w1.alloc (.cells #[.int .i64 o, .int .i64 i, .int .i64 j, .int .i64 q, .int .i64 l] 62)) w1.heap.size #[.int .i64 o, .int .i64 i, .int .i64 j, .int .i64 q, .int .i64 l]) := Blk.new _ _ _
      have hgl := hS1.lt
      have hpw := hS1.gro.size
      replace hI := hid hI
      clear hs1 hs2 hg2 hS hS1
      obtain ⟨n3, hn3, hs3⟩ := hS2.out.src
      replace hs3 := hid hs3
      go_wp2_with fail
      refine (chance_any p a len cap n3 3 _ hs3.out (by omega) (by omega) (by omega)).mono ?_
      rintro e w3 ⟨⟨b3, rfl⟩, ⟨n4, hn4, hs4⟩, hg4⟩
      have hS3 := hid (hS2.out.next hp hg4 hs4 (m' := n + 27 * k + 9) (by omega))
      have hb3 := hid (hb2.out.grown hg4 (by simp; omega))
      obtain ⟨bx, hbx⟩ : ∃ bx, w1.heap.size = bx := ⟨_, rfl⟩
      rw [hbx] at hb3 hgl hpw
      clear hS2 hb2 hs4 hg4 hs3
      go_upto_if 14 with fail
      go_cut [] from 15 to 41 (fun wx => ∃ o i j q l, Ins o i j q l ∧ RomSt w wx p a len cap (n + 27 * k + 27) g c k xs ∧ Blk wx bx #[.int .i64 o, .int .i64 i, .int .i64 j, .int .i64 q, .int .i64 l])
      case first =>
        cases b3
        · go_wp2_with fail
          go_meet
          exact ⟨_, _, _, _, _, hI.out, hS3.out.mono (by omega), hb3.out⟩
        · skip
          obtain ⟨m4, hm4, hq4⟩ := hS3.out.src
          replace hq4 := hid hq4
          go_wp2_with fail
          refine (next_any p a len cap m4 4 _ hq4.out (by omega)).mono ?_
          rintro e w4 ⟨⟨v4, rfl, l4, _, r4⟩, ⟨n4, hn4, hs4⟩, hg4⟩
          have hv4 := r4 (by omega)
          have hS4 := hid (hS3.out.next hp hg4 hs4 (m' := n + 27 * k + 12) (by omega))
          have hb4 := hid (hb3.out.grown hg4 (by simp; omega))
          clear hS3 hb3 hs4 hg4 r4 hq4
          obtain ⟨m5, hm5, hq5⟩ := hS4.out.src
          replace hq5 := hid hq5
          go_wp2_with fail
          refine (next_any p a len cap m5 4 _ hq5.out (by omega)).mono ?_
          rintro e w5 ⟨⟨v5, rfl, l5, _, r5⟩, ⟨n5, hn5, hs5⟩, hg5⟩
          have hv5 := r5 (by omega)
          have hS5 := hid (hS4.out.next hp hg5 hs5 (m' := n + 27 * k + 15) (by omega))
          have hb5 := hid (hb4.out.grown hg5 (by simp; omega))
          clear hS4 hb4 hs5 hg5 r5 hq5
          obtain ⟨m6, hm6, hq6⟩ := hS5.out.src
          replace hq6 := hid hq6
          go_wp2_with fail
          refine (next_any p a len cap m6 9 _ hq6.out (by omega)).mono ?_
          rintro e w6 ⟨⟨v6, rfl, l6, _, r6⟩, ⟨n6, hn6, hs6⟩, hg6⟩
          have hv6 := r6 (by omega)
          have hS6 := hid (hS5.out.next hp hg6 hs6 (m' := n + 27 * k + 18) (by omega))
          have hb6 := hid (hb5.out.grown hg6 (by simp; omega))
          clear hS5 hb5 hs6 hg6 r6 hq6
          obtain ⟨m7, hm7, hq7⟩ := hS6.out.src
          replace hq7 := hid hq7
          go_wp2_with fail
          refine (next_any p a len cap m7 128 _ hq7.out (by omega)).mono ?_
          rintro e w7 ⟨⟨v7, rfl, l7, _, r7⟩, ⟨n7, hn7, hs7⟩, hg7⟩
          have hv7 := r7 (by omega)
          have hS7 := hid (hS6.out.next hp hg7 hs7 (m' := n + 27 * k + 21) (by omega))
          have hb7 := hid (hb6.out.grown hg7 (by simp; omega))
          clear hS6 hb6 hs7 hg7 r7 hq7
          obtain ⟨m8, hm8, hq8⟩ := hS7.out.src
          replace hq8 := hid hq8
          go_wp2_with fail
          refine (next_any p a len cap m8 128 _ hq8.out (by omega)).mono ?_
          rintro e w8 ⟨⟨v8, rfl, l8, _, r8⟩, ⟨n8, hn8, hs8⟩, hg8⟩
          have hv8 := r8 (by omega)
          have hS8 := hid (hS7.out.next hp hg8 hs8 (m' := n + 27 * k + 24) (by omega))
          have hb8 := hid (hb7.out.grown hg8 (by simp; omega))
          clear hS7 hb7 hs8 hg8 r8 hq8
          have hS9 : Hid (RomSt w (w8.alloc (.cells #[.int .i64 18, .int .i64 0, .int .i64 0, .int .i64 (2 * v4), .int .i64 2, .int .i64 18, .int .i64 0, .int .i64 0, .int .i64 (1 + 2 * v5), .int .i64 2, .int .i64 17, .int .i64 0, .int .i64 0, .int .i64 v6, .int .i64 2, .int .i64 20, .int .i64 0, .int .i64 0, .int .i64 0, .int .i64 1, .int .i64 7, .int .i64 7, .int .i64 0, .int .i64 0, .int .i64 1, .int .i64 4, .int .i64 0, .int .i64 0, .int .i64 (64 + v7), .int .i64 2, .int .i64 3, .int .i64 0, .int .i64 0, .int .i64 (64 + v8), .int .i64 2] 62)) p a len cap (n + 27 * k + 24) g c k xs) := hS8.out.below ((Below.refl _ _).alloc (Nat.le_refl _) _)
          have hb9 : Hid (Blk (w8.alloc (.cells #[.int .i64 18, .int .i64 0, .int .i64 0, .int .i64 (2 * v4), .int .i64 2, .int .i64 18, .int .i64 0, .int .i64 0, .int .i64 (1 + 2 * v5), .int .i64 2, .int .i64 17, .int .i64 0, .int .i64 0, .int .i64 v6, .int .i64 2, .int .i64 20, .int .i64 0, .int .i64 0, .int .i64 0, .int .i64 1, .int .i64 7, .int .i64 7, .int .i64 0, .int .i64 0, .int .i64 1, .int .i64 4, .int .i64 0, .int .i64 0, .int .i64 (64 + v7), .int .i64 2, .int .i64 3, .int .i64 0, .int .i64 0, .int .i64 (64 + v8), .int .i64 2] 62)) bx #[.int .i64 o, .int .i64 i, .int .i64 j, .int .i64 q, .int .i64 l]) := hb8.out.alloc _
          have hc9 : Hid (Blk (w8.alloc (.cells #[.int .i64 18, .int .i64 0, .int .i64 0, .int .i64 (2 * v4), .int .i64 2, .int .i64 18, .int .i64 0, .int .i64 0, .int .i64 (1 + 2 * v5), .int .i64 2, .int .i64 17, .int .i64 0, .int .i64 0, .int .i64 v6, .int .i64 2, .int .i64 20, .int .i64 0, .int .i64 0, .int .i64 0, .int .i64 1, .int .i64 7, .int .i64 7, .int .i64 0, .int .i64 0, .int .i64 1, .int .i64 4, .int .i64 0, .int .i64 0, .int .i64 (64 + v7), .int .i64 2, .int .i64 3, .int .i64 0, .int .i64 0, .int .i64 (64 + v8), .int .i64 2] 62)) w8.heap.size #[.int .i64 18, .int .i64 0, .int .i64 0, .int .i64 (2 * v4), .int .i64 2, .int .i64 18, .int .i64 0, .int .i64 0, .int .i64 (1 + 2 * v5), .int .i64 2, .int .i64 17, .int .i64 0, .int .i64 0, .int .i64 v6, .int .i64 2, .int .i64 20, .int .i64 0, .int .i64 0, .int .i64 0, .int .i64 1, .int .i64 7, .int .i64 7, .int .i64 0, .int .i64 0, .int .i64 1, .int .i64 4, .int .i64 0, .int .i64 0, .int .i64 (64 + v7), .int .i64 2, .int .i64 3, .int .i64 0, .int .i64 0, .int .i64 (64 + v8), .int .i64 2]) := Blk.new _ _ _
          have hx8 := hb8.out.lt
          have hgr8 := hS8.out.gro.size
          obtain ⟨m9, hm9, hq9⟩ := hS9.out.src
          replace hq9 := hid hq9
          clear hS8 hb8
          go_wp2_with fail
          refine (next_any p a len cap m9 7 _ hq9.out (by omega)).mono ?_
          rintro e w9 ⟨⟨v9, rfl, l9, _, r9⟩, ⟨n9, hn9, hs9⟩, hg9⟩
          have hv9 := r9 (by omega)
          have hSa := hid (hS9.out.next hp hg9 hs9 (m' := n + 27 * k + 27) (by omega))
          have hba := hid (hb9.out.grown hg9 (by simp; omega))
          have hca := (hc9.out.grown hg9 (by simp; omega)).cell
          have xa := hba.out.cell
          have fa := hba.out.frozen
          clear hS9 hb9 hc9 hs9 hg9 r9 hq9
          obtain ⟨jj, rfl⟩ : ∃ jj : Nat, v9 = (jj : Int) := ⟨v9.toNat, by omega⟩
          obtain ⟨bs, hbs⟩ : ∃ bs, w8.heap.size = bs := ⟨_, rfl⟩
          rw [hbs] at hca hx8
          rcases (by omega : jj = 0 ∨ jj = 1 ∨ jj = 2 ∨ jj = 3 ∨ jj = 4 ∨ jj = 5 ∨ jj = 6) with rfl | rfl | rfl | rfl | rfl | rfl | rfl
          all_goals
            go_wp2
            go_meet
            refine hSa.out.fill hp (by omega) (by omega) hba.out _ _ _ _ _ ?_
            unfold Ins
            omega
      case rest =>
        clear hS3 hb3 hI
        obtain ⟨o', i', j', q', l', hI', hS4, hb4⟩ := hcut
        have x4 := hb4.cell
        have hg4 := hS4.lt
        have hgs4 := hS4.gro.size
        replace hS4 := hid hS4
        replace hI' := hid hI'
        clear hb4
        go_wp2_with fail
        refine (encode_any _ _ _ _ _ _ hI'.out).mono ?_
        rintro e w5 ⟨⟨ge, m, ce, zs, rfl, hrow, hzl, hm, hge0, hge1⟩, hb5⟩
        have hS5 := hid (hS4.out.below hb5)
        have hzz := hb5.size
        replace hrow := hid hrow
        replace hzl := hid hzl
        clear x4 hS4 hb5
        go_wp2
        go_loopw [3, 6] (fun v i wr => ∃ (y g' c' : Nat) (xs' : List Int), y ≤ m ∧ i = .int .i64 y ∧ v = .slice (some ⟨g', 0, none⟩) (k + y) c' ∧ RomSt w wr p a len cap (n + 27 * k + 27) g' c' (k + y) xs' ∧ RowR wr (.slice (some ⟨ge, 0, none⟩) m ce) zs ∧ g' ≠ ge ∧ ge < wr.heap.size) (fun _ i _ => m - (intOf i).toNat)
        case atStart => exact ⟨0, _, _, _, by omega, rfl, rfl, hS5.out, hrow.out, by omega, by omega⟩
        case round =>
          obtain ⟨y, g', c', xs', hy, rfl, rfl, hT, hR, hne, hgel⟩ := hrel
          clear hS5 hrow
          by_cases hly : y < m
          · obtain ⟨b1, off1, e1, c1, _⟩ := row_at hR (k := y) (by rw [hzl.out]; exact hly)
            injection e1 with e1
            injection e1 with e1 e2
            subst e1 e2
            rw [Nat.zero_add] at c1
            generalize zs.getD y 0 = z at *
            obtain ⟨x, hx⟩ : ∃ x, IntKind.u8.wrap z = x := ⟨_, rfl⟩
            have hlt1 := hT.lt
            have hown1 := hT.own
            have hE : Hid (∀ gg cap' w2 ob, w2.ownsRow w.heap.size 5 1 (.slice (some ⟨gg, 0, none⟩) (k + y + 1) cap') (k + y + 1) (xs'.map (Value.int .u8) ++ [.int .u8 x]) → (wr.alloc ob).grownBy w2 (some g') → (some g' = some gg ∨ gg = wr.heap.size + 1) → RomSt w w2 p a len cap (n + 27 * k + 27) gg cap' (k + y + 1) (xs' ++ [x]) ∧ RowR w2 (.slice (some ⟨ge, 0, none⟩) m ce) zs ∧ gg ≠ ge ∧ ge < w2.heap.size) := fun gg cap' w2 ob h1 h2 h3 =>
              ⟨hT.step hp h1 h2, (hR.below ((Below.refl _ _).alloc (Nat.le_refl _) ob)).grownBy h2 hne, by
                rcases h3 with h3 | h3
                · injection h3 with h3
                  omega
                · omega, by
                have := h2.size
                rw [World.size_alloc] at this
                omega⟩
            clear hT hR
            go_wp2_with (at_builtin; refine wpList_append_lies _ rfl _ _ 22 rfl w.heap.size 5 i0 _ 1 1 Tryz.underlying22 hi0 hz0 hz1 hz2 rfl (by omega) _ (k + y) (xs'.map (Value.int .u8)) rfl (hown1.alloc _) ⟨_, 0, none⟩ 1 1 [.int .u8 x] rfl rfl (World.news_of_block (cs := #[.int .u8 x]) (t := 5) (fr := (0, 0)) (heap_alloc_new _ _)) (by simp [Value.oneCell']) (by omega) (by unfold maxLen; omega) (by omega) (by simp; omega) _ rfl ?_; intro gg cap' w2 hown2 hgrow hat hlt3)
            exact ⟨⟨y + 1, gg, cap', xs' ++ [x], by omega, by go_num, rfl, hE.out gg cap' w2 _ hown2 hgrow (hat.imp id (fun h => by rw [World.size_alloc] at h; exact h))⟩, by simp [intOf]; omega⟩
          · obtain rfl : y = m := by omega
            replace hT := hid hT
            clear hR
            go_wp2
            exact ⟨⟨k + y, g', c', xs', by omega, rfl, hT.out.mono (by omega)⟩, by simp [lenVm]; omega⟩
    · obtain ⟨hc64, hcv⟩ := rom_string hS (by omega)
      have hsz : (strOfNums (xs.take 64)).size = 64 := by
        rw [strOfNums_size, List.length_take, hS.lenx]
        omega
      have hgro := hid hS.gro
      replace hS := hid hS
      generalize strOfNums (xs.take 64) = str at *
      go_wp2
      go_ret
      exact ⟨⟨_, rfl, hsz⟩, hgro.out⟩
theorem romdrawn_any (a : Option Addr) (len cap : Nat) (w : World) (hc : CodeAt w w.heap.size a len) (hl : len ≤ 1048576) :
    Calls Tryz.prog 5 #[.slice a len cap] w fun e w' => (∃ s : ByteArray, e = .returned (.string s) ∧ s.size = 64) ∧ Below w.heap.size w w' := by
  go_enter Tryz.func5, Tryz.ntmps5
  go_wp2_with fail
  refine (source_any a len cap _ hc hl).mono ?_
  rintro e w1 ⟨rfl, hs1, hg1⟩
  have hB1 : Below w.heap.size w w1 := (Below.refl _ _).grown hg1 (by simp) (fun k e => by cases e)
  replace hs1 := hid hs1
  replace hB1 := hid hB1
  clear hg1 hc
  go_wp2_with fail
  refine (rom_any _ a len cap 0 _ hs1.out (by omega)).mono ?_
  rintro e w2 ⟨⟨s, rfl, hsz⟩, hg2⟩
  have hB2 := hid (hB1.out.grown hg2 (by have := hB1.out.size; omega) (fun k e => by cases e; omega))
  clear hg2 hs1 hB1
  go_wp2
  go_ret
  exact ⟨⟨_, rfl, hsz⟩, hB2.out⟩
end Go.Proofs.YtghcagibdcblnaaGreatDoor

/- Eight registers that are the same are told the same. -/
namespace Go.Proofs.YtghcagibdcblnaaGreatDoor
open Go.ChangeShapes Go.WideShapes Go.ChangeAt Go.RowKit
set_option linter.unusedVariables false
set_option linter.unusedSimpArgs false

theorem part_int {xs : Array Value} {i : Nat} {v : Value} (h : xs[i]? = some v) (w : World) : (part 3 xs i).run Tryz.prog w = .ok v w := by
  have hu := Tryz.underlying3
  simp [part, isAgg, go_sem, hu, h]
theorem eq_int1 (d : Nat) (z : Int) (w : World) : (Op.equalIn (d + 1) 3 (.int .i64 z) (.int .i64 z)).run Tryz.prog w = .ok true w := by
  have hu := Tryz.underlying3
  simp [Op.equalIn, go_sem, hu]
theorem items_self (d : Nat) (xs : Array Value) (w : World) : ∀ is : List Nat, (∀ i ∈ is, ∃ z, xs[i * 1]? = some (.int .i64 z)) → (Op.eqItems (d + 1) 3 1 xs xs is).run Tryz.prog w = .ok true w := by
  intro is
  induction is with
  | nil => intro _; rfl
  | cons i t ih =>
    intro h
    obtain ⟨z, hz⟩ := h i (by simp)
    simp only [Op.eqItems, Sem.run_bind, part_int hz, Result.andThen_ok, eq_int1, Bool.not_true, Bool.false_eq_true, if_false]
    exact ih (fun j hj => h j (by simp [hj]))
theorem eq8 (d : Nat) (x0 x1 x2 x3 x4 x5 x6 x7 : Int) (w : World) : Sem.run Tryz.prog (Op.equalIn (d + 1 + 1) 23 (.agg #[.int .i64 x0, .int .i64 x1, .int .i64 x2, .int .i64 x3, .int .i64 x4, .int .i64 x5, .int .i64 x6, .int .i64 x7]) (.agg #[.int .i64 x0, .int .i64 x1, .int .i64 x2, .int .i64 x3, .int .i64 x4, .int .i64 x5, .int .i64 x6, .int .i64 x7])) w = .ok true w := by
  obtain ⟨i, hi⟩ : ∃ i, Tryz.prog.info? 3 = some i := Option.isSome_iff_exists.1 (by kernel_rfl)
  have c1 : Tryz.prog.cellsOf 3 = 1 := by kernel_rfl
  rw [run_equalIn_array (w := w) (d + 1) _ _ Tryz.underlying23 hi, c1]
  refine items_self d _ w _ (fun i hi => ?_)
  have hi8 : i < 8 := List.mem_range.1 hi
  rcases (by omega : i = 0 ∨ i = 1 ∨ i = 2 ∨ i = 3 ∨ i = 4 ∨ i = 5 ∨ i = 6 ∨ i = 7) with rfl | rfl | rfl | rfl | rfl | rfl | rfl | rfl <;> exact ⟨_, rfl⟩
theorem eq8a (x0 x1 x2 x3 x4 x5 x6 x7 : Int) (w : World) : Sem.run Tryz.prog (Op.equalIn 9999 23 (.agg #[.int .i64 x0, .int .i64 x1, .int .i64 x2, .int .i64 x3, .int .i64 x4, .int .i64 x5, .int .i64 x6, .int .i64 x7]) (.agg #[.int .i64 x0, .int .i64 x1, .int .i64 x2, .int .i64 x3, .int .i64 x4, .int .i64 x5, .int .i64 x6, .int .i64 x7])) w = .ok true w := eq8 9997 _ _ _ _ _ _ _ _ w
theorem eq8b (x0 x1 x2 x3 x4 x5 x6 x7 : Int) (w : World) : Sem.run Tryz.prog (Op.equalIn 10000 23 (.agg #[.int .i64 x0, .int .i64 x1, .int .i64 x2, .int .i64 x3, .int .i64 x4, .int .i64 x5, .int .i64 x6, .int .i64 x7]) (.agg #[.int .i64 x0, .int .i64 x1, .int .i64 x2, .int .i64 x3, .int .i64 x4, .int .i64 x5, .int .i64 x6, .int .i64 x7])) w = .ok true w := eq8 9998 _ _ _ _ _ _ _ _ w
end Go.Proofs.YtghcagibdcblnaaGreatDoor

/- What the row's list of the cursor's three errors gives: three cells that point to three blocks of their own. -/
namespace Go.Proofs.YtghcagibdcblnaaGreatDoor
open Go.ChangeShapes Go.WideShapes Go.ChangeAt Go.RowKit
set_option linter.unusedVariables false

theorem eStar : "*errors.errorString" = "*" ++ "errors.errorString" := by decide
theorem eRow (u : TypeId) (h : Tryz.prog.typeName? 3 u = some "*errors.errorString") : u = 171 :=
  typeName_ptr_named (nm := "errors.errorString") (by rw [← eStar]; kernel_rfl) (by kernel_rfl) (by decide) u (by rw [← eStar]; exact h)
theorem g0n : Tryz.prog.globalNamed "loop.example/g00644/impl.errCursor" = some 0 := by kernel_rfl
theorem g1n : Tryz.prog.globalNamed "loop.example/g00644/impl.errCount" = some 1 := by kernel_rfl
theorem g2n : Tryz.prog.globalNamed "loop.example/g00644/impl.errAtEnd" = some 2 := by kernel_rfl
theorem g0t : (Tryz.prog.globals[0]?).map (·.type) = some 75 := by kernel_rfl
theorem g1t : (Tryz.prog.globals[1]?).map (·.type) = some 75 := by kernel_rfl
theorem g2t : (Tryz.prog.globals[2]?).map (·.type) = some 75 := by kernel_rfl
theorem eCells : Tryz.prog.cellsOf 193 = 1 := by kernel_rfl
theorem sCells : Tryz.prog.cellsOf 9 = 1 := by kernel_rfl

set_option maxRecDepth 100000 in
theorem errs_of {W : World} (h : laidMetH Tryz.prog [("loop.example/g00644/impl.errCursor", Rows.laid_loop_example_g00644_impl_errCursor), ("loop.example/g00644/impl.errCount", Rows.laid_loop_example_g00644_impl_errCount), ("loop.example/g00644/impl.errAtEnd", Rows.laid_loop_example_g00644_impl_errAtEnd)] W) :
    ∃ e0 e1 e2, Errs W e0 e1 e2 := by
  rw [MakeChecks.laidMetH_plain _ _ _ (by kernel_rfl)] at h
  obtain ⟨ps, ⟨g0, t0, cs0, f0, p0, q0, hg0, ht0, hv0, hd0, ⟨g1, t1, cs1, f1, p1, q1, hg1, ht1, hv1, hd1, ⟨g2, t2, cs2, f2, p2, q2, hg2, ht2, hv2, hd2, _, k2⟩, k1⟩, k0⟩, hnd, hrows⟩ := h
  obtain rfl := Option.some.inj (g0n.symm.trans hg0)
  obtain rfl := Option.some.inj (g1n.symm.trans hg1)
  obtain rfl := Option.some.inj (g2n.symm.trans hg2)
  obtain rfl := Option.some.inj (g0t.symm.trans ht0)
  obtain rfl := Option.some.inj (g1t.symm.trans ht1)
  obtain rfl := Option.some.inj (g2t.symm.trans ht2)
  subst k2
  subst k1
  subst k0
  obtain ⟨l0⟩ := cs0
  obtain ⟨l1⟩ := cs1
  obtain ⟨l2⟩ := cs2
  have ok0 : ∀ u v, l0 = [.iface u v] → Value.okWide Tryz.prog W .any 0 u v := fun u v e => by
    subst e
    exact (hrows 0 0 (by simp [MemPlace.row])).2 u v (by simpa using World.var?_cell hg0 hv0 0)
  have ok1 : ∀ u v, l1 = [.iface u v] → Value.okWide Tryz.prog W .any 0 u v := fun u v e => by
    subst e
    exact (hrows 1 0 (by simp [MemPlace.row])).2 u v (by simpa using World.var?_cell hg1 hv1 0)
  have ok2 : ∀ u v, l2 = [.iface u v] → Value.okWide Tryz.prog W .any 0 u v := fun u v e => by
    subst e
    exact (hrows 2 0 (by simp [MemPlace.row])).2 u v (by simpa using World.var?_cell hg2 hv2 0)
  obtain ⟨a0, s0, rfl, _, _, _, rfl⟩ := errorString_of_trod Tryz.underlying75 eRow Tryz.underlying171 Tryz.underlying193 rfl rfl Tryz.underlying9 eCells sCells hd0 ok0
  obtain ⟨a1, s1, rfl, _, _, _, rfl⟩ := errorString_of_trod Tryz.underlying75 eRow Tryz.underlying171 Tryz.underlying193 rfl rfl Tryz.underlying9 eCells sCells hd1 ok1
  obtain ⟨a2, s2, rfl, _, _, _, rfl⟩ := errorString_of_trod Tryz.underlying75 eRow Tryz.underlying171 Tryz.underlying193 rfl rfl Tryz.underlying9 eCells sCells hd2 ok2
  refine ⟨a0, a1, a2, ?_, ?_, ?_, ?_, ?_, ?_, (hrows a0.block a0.off (by simp [MemPlace.row])).1, (hrows a1.block a1.off (by simp [MemPlace.row])).1, (hrows a2.block a2.off (by simp [MemPlace.row])).1⟩
  · simpa using World.var?_cell hg0 hv0 0
  · simpa using World.var?_cell hg1 hv1 0
  · simpa using World.var?_cell hg2 hv2 0
  · rintro rfl; simp [MemPlace.row] at hnd
  · rintro rfl; simp [MemPlace.row] at hnd
  · rintro rfl; simp [MemPlace.row] at hnd
end Go.Proofs.YtghcagibdcblnaaGreatDoor

/- Plain facts of the law of snapshots. -/
namespace Go.Proofs.YtghcagibdcblnaaGreatDoor
open Go.ChangeShapes Go.WideShapes Go.ChangeAt Go.RowKit
set_option linter.unusedVariables false
set_option linter.unusedSimpArgs false

theorem sn_smallS {s : Sn} (h : okSn s = true) : SmallS s := by
  obtain ⟨m1, m2, m3, m4, m5⟩ := ok_parts (sn_parts h).2.1
  refine ⟨by rw [bytes_len m1]; omega, by omega, fun i hi => ?_⟩
  rw [bytes_len (m5 i hi)]
  omega
/-- all that the law asks of a drawn snapshot -/
theorem sn_law {s : Sn} {rom : ByteArray} (h : okSn s = true) (hr : rom.size = 64) : ∃ (T : ByteArray) (X : Sn), T = snT s ∧ sntext2 s = (T, 0) ∧ read2 T rom = (X, 0) ∧ sntext2 X = (T, 0) ∧ okSn X = true ∧ sameSn X s = true ∧ X.c = s.c ∧ X.p.border = s.p.border ∧ 15 ≤ T.size ∧ T.size ≤ 5000 ∧ byt T 0 = 3 ∧
    (∀ j, j < T.size → (read2 (T.extract 0 j) rom).2 = 9) ∧ (read2 (T ++ strOfNums [120]) rom).2 = 8 ∧ (∀ t : ByteArray, 15 ≤ t.size → t.size ≤ 65536 → byt t 0 ≠ 3 → (read2 t rom).2 = 18) := by
  obtain ⟨f1, f2, f3, f4, f5⟩ := sn_facts h hr
  obtain ⟨z1, z2⟩ := snT_size h
  refine ⟨_, _, rfl, f1, f2, f3, f4, f5, rfl, rfl, z1, z2, ?_, fun j hj => sn_cut h hr hj, sn_more h hr (by omega), fun t t1 t2 t3 => sn_bent (s := s) hr t1 t2 t3⟩
  have hb := bts_at (snT s) (k := 0) (by omega)
  rw [snT_bts h] at hb
  have : (snapL s.c s.m s.p)[0]? = some 3 := rfl
  rw [this] at hb
  exact (Option.some.inj hb).symm
theorem bent_law {T : ByteArray} (h : 15 ≤ T.size) : (strOfNums [4] ++ T.extract 1 T.size).size = T.size ∧ byt (strOfNums [4] ++ T.extract 1 T.size) 0 = 4 := by
  have e : strOfNums [4] ++ T.extract 1 T.size = strOfNums ([4] ++ bts (T.extract 1 T.size)) := by rw [sN_app, str_bts]
  have e2 : (strOfNums [4]).size = 1 := rfl
  refine ⟨by rw [ByteArray.size_append, e2, ByteArray.size_extract]; omega, ?_⟩
  have hb : bts (strOfNums ([4] ++ bts (T.extract 1 T.size))) = [4] ++ bts (T.extract 1 T.size) := bts_str (fun x hx => by
    rcases List.mem_append.1 hx with hx | hx
    · rw [List.mem_singleton.1 hx]; omega
    · exact bts_all _ x hx)
  rw [e]
  have hz : 0 < (strOfNums ([4] ++ bts (T.extract 1 T.size))).size := by rw [strOfNums_size]; simp
  have h1 := bts_at _ hz
  rw [hb] at h1
  exact (Option.some.inj h1).symm
theorem conv_bent (W : World) : (convert 22 9 (.slice (some ⟨W.heap.size, 0, none⟩) 1 1)).run Tryz.prog ((W.alloc (.cells #[.int .u8 4] 5)).drew) = .ok (.string (strOfNums [4])) ((W.alloc (.cells #[.int .u8 4] 5)).drew) :=
  run_convert_bytes_arg _ 22 5 Tryz.underlying22 Tryz.underlying5 W.heap.size 0 1 1 [4] rfl (fun i hi => by
    have : i = 0 := by simp at hi; exact hi
    subst this
    exact (Blk.new W #[.int .u8 4] 5).cell 0) 9 Tryz.underlying9
theorem x_str : (⟨#[120]⟩ : ByteArray) = strOfNums [120] := rfl
end Go.Proofs.YtghcagibdcblnaaGreatDoor
