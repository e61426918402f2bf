/- The law of calls: a small program in a memory, and what its four steps do, as plain numbers. -/
import Derived.Test.YtdfadiicjkenfabGreatDoorW38
import Derived.Test.YtdfadiicjkenfabGreatDoorW46
import Derived.Test.YtdfadiicjkenfabGreatDoorW47
import Derived.Test.YtdfadiicjkenfabGreatDoorW45
namespace Go.Proofs.YtdfadiicjkenfabGreatDoor
open Go.ChangeShapes Go.WideShapes Go.ChangeAt Go.RowKit
set_option linter.unusedVariables false
set_option linter.unusedSimpArgs false

/-- bytes laid from a place on -/
def poked (M : Mem) (K : Nat) : List Int → Mem
  | [] => M
  | z :: t => poked (pokeM M (K : Int) z) (K + 1) t
theorem poked_snoc (l : List Int) (z : Int) : ∀ (M : Mem) (K : Nat), poked M K (l ++ [z]) = pokeM (poked M K l) ((K + l.length : Nat) : Int) z := by
  induction l with
  | nil => intro M K; rfl
  | cons y t ih =>
    intro M K
    show poked (pokeM M (K : Int) y) (K + 1) (t ++ [z]) = pokeM (poked (pokeM M (K : Int) y) (K + 1) t) _ z
    rw [ih]
    congr 2
    simp
    omega
/-- the program's instructions: operation, first number, byte, length; their bytes; where they lie -/
def opC : Nat → Nat
  | 0 => 13
  | 1 => 15
  | _ => 16
def aC (r : Nat) : Nat → Nat
  | 0 => 7
  | 1 => r
  | _ => 5
def nC : Nat → Nat
  | 0 => 140
  | _ => 0
def lC : Nat → Nat
  | 0 => 2
  | _ => 1
def bytC (r : Nat) : Nat → List Int
  | 0 => [111, 140]
  | 1 => [((120 + r : Nat) : Int)]
  | _ => [133]
def atC : Nat → Nat
  | 0 => 128
  | 1 => 130
  | 2 => 131
  | _ => 132
def memC (M : Mem) (r : Nat) : Nat → Mem
  | 0 => M
  | i + 1 => poked (memC M r i) (atC i) (bytC r i)
/-- a register that is pushed -/
def R6 (r : Nat) : Prop := r = 0 ∨ r = 1 ∨ r = 2 ∨ r = 3 ∨ r = 5 ∨ r = 7
theorem encC (r i : Nat) (hr : R6 r) (hi : i < 3) : okIc (opC i) (aC r i) 0 (nC i) (lC i) = 0 ∧ encR (opC i) (aC r i) 0 (nC i) (lC i) = bytC r i := by
  rcases (by omega : i = 0 ∨ i = 1 ∨ i = 2) with rfl | rfl | rfl
  · exact ⟨(by decide : okIc 13 7 0 140 2 = 0), (by decide : encR 13 7 0 140 2 = [111, 140])⟩
  · rcases hr with rfl | rfl | rfl | rfl | rfl | rfl <;> exact ⟨by decide, by decide⟩
  · exact ⟨(by decide : okIc 16 5 0 0 1 = 0), (by decide : encR 16 5 0 0 1 = [133])⟩
theorem encB : okIc 14 7 0 0 1 = 0 ∧ encR 14 7 0 0 1 = [119] := ⟨by decide, by decide⟩
theorem bytC_len (r i : Nat) (hi : i < 3) : (bytC r i).length ≤ 2 ∧ 1 ≤ (bytC r i).length ∧ atC (i + 1) = atC i + (bytC r i).length := by
  rcases (by omega : i = 0 ∨ i = 1 ∨ i = 2) with rfl | rfl | rfl <;> exact ⟨by simp [bytC], by simp [bytC], by simp [bytC, atC]⟩
theorem bytC_bd (r i h : Nat) (hr : R6 r) (hi : i < 3) (hh : h < (bytC r i).length) : 0 ≤ (bytC r i).getD h 0 ∧ (bytC r i).getD h 0 ≤ 255 := by
  have hr8 : r < 8 := by rcases hr with rfl | rfl | rfl | rfl | rfl | rfl <;> decide
  rcases (by omega : i = 0 ∨ i = 1 ∨ i = 2) with rfl | rfl | rfl
  · have : h < 2 := hh
    rcases (by omega : h = 0 ∨ h = 1) with rfl | rfl
    · exact (by decide : (0 : Int) ≤ 111 ∧ (111 : Int) ≤ 255)
    · exact (by decide : (0 : Int) ≤ 140 ∧ (140 : Int) ≤ 255)
  · have : h < 1 := hh
    obtain rfl : h = 0 := by omega
    show 0 ≤ ((120 + r : Nat) : Int) ∧ ((120 + r : Nat) : Int) ≤ 255
    omega
  · have : h < 1 := hh
    obtain rfl : h = 0 := by omega
    exact (by decide : (0 : Int) ≤ 133 ∧ (133 : Int) ≤ 255)
theorem atC_bd (i : Nat) : 128 ≤ atC i ∧ atC i ≤ 132 := by
  unfold atC
  split <;> omega
/-- the program lies there -/
theorem peek_other {M : Mem} (hok : okM M = true) (k : Nat) (v : Int) (i : Nat) (hk : k < 256) (hi : i < 256) (h : i % 64 ≠ k % 64) : peekN (pokeM M (k : Int) v) i = peekN M i := by
  unfold peekN
  rw [peek_poke hok (by omega) (by omega) (by omega) (by omega), if_neg (by rintro ⟨_, h2, _⟩; omega)]
theorem peek_same {M : Mem} (hok : okM M = true) (k : Nat) (v : Nat) (hk : k < 256) (h64 : 64 ≤ k) : peekN (pokeM M (k : Int) (v : Int)) k = v := by
  unfold peekN
  rw [peek_poke hok (by omega) (by omega) (by omega) (by omega), if_pos ⟨rfl, rfl, (bank_bd (ok_parts hok).2.2.1 (a := (k : Int)) (by omega)).1⟩]
  omega
/-- the whole program, the way back besides -/
def memP (M : Mem) (r : Nat) : Mem := pokeM (memC M r 3) 140 119
theorem memP_eq (M : Mem) (r : Nat) : memP M r = pokeM (pokeM (pokeM (pokeM (pokeM M ((128 : Nat) : Int) ((111 : Nat) : Int)) ((129 : Nat) : Int) ((140 : Nat) : Int)) ((130 : Nat) : Int) ((120 + r : Nat) : Int)) ((131 : Nat) : Int) ((133 : Nat) : Int)) ((140 : Nat) : Int) ((119 : Nat) : Int) := rfl
theorem memP_peek {M : Mem} {r : Nat} (hok : okM M = true) (hr : r < 8) : okM (memP M r) = true ∧ peekN (memP M r) 128 = 111 ∧ peekN (memP M r) 129 = 140 ∧ peekN (memP M r) 130 = 120 + r ∧ peekN (memP M r) 131 = 133 ∧ peekN (memP M r) 140 = 119 := by
  rw [memP_eq]
  have k1 : okM (pokeM M ((128 : Nat) : Int) ((111 : Nat) : Int)) = true := poke_ok hok (by decide)
  have k2 : okM (pokeM (pokeM M ((128 : Nat) : Int) ((111 : Nat) : Int)) ((129 : Nat) : Int) ((140 : Nat) : Int)) = true := poke_ok k1 (by decide)
  have k3 : okM (pokeM (pokeM (pokeM M ((128 : Nat) : Int) ((111 : Nat) : Int)) ((129 : Nat) : Int) ((140 : Nat) : Int)) ((130 : Nat) : Int) ((120 + r : Nat) : Int)) = true := poke_ok k2 (in_yes (by omega) (by omega))
  have k4 : okM (pokeM (pokeM (pokeM (pokeM M ((128 : Nat) : Int) ((111 : Nat) : Int)) ((129 : Nat) : Int) ((140 : Nat) : Int)) ((130 : Nat) : Int) ((120 + r : Nat) : Int)) ((131 : Nat) : Int) ((133 : Nat) : Int)) = true := poke_ok k3 (by decide)
  refine ⟨poke_ok k4 (by decide), ?_, ?_, ?_, ?_, ?_⟩
  · rw [peek_other k4 _ _ _ (by omega) (by omega) (by omega), peek_other k3 _ _ _ (by omega) (by omega) (by omega), peek_other k2 _ _ _ (by omega) (by omega) (by omega), peek_other k1 _ _ _ (by omega) (by omega) (by omega), peek_same hok _ _ (by omega) (by omega)]
  · rw [peek_other k4 _ _ _ (by omega) (by omega) (by omega), peek_other k3 _ _ _ (by omega) (by omega) (by omega), peek_other k2 _ _ _ (by omega) (by omega) (by omega), peek_same k1 _ _ (by omega) (by omega)]
  · rw [peek_other k4 _ _ _ (by omega) (by omega) (by omega), peek_other k3 _ _ _ (by omega) (by omega) (by omega), peek_same k2 _ _ (by omega) (by omega)]
  · rw [peek_other k4 _ _ _ (by omega) (by omega) (by omega), peek_same k3 _ _ (by omega) (by omega)]
  · rw [peek_same k4 _ _ (by omega) (by omega)]
set_option maxRecDepth 100000 in
theorem do_call (d : Cp) (M : Mem) (n : Nat) (hh : d.halt = false) (h1 : peekN M d.pc = 111) (h2 : peekN M ((d.pc + 1) % 256) = n) : (stepM d M 0).c = { d with ei := false, sp := (d.sp + 255) % 256, pc := n } ∧ (stepM d M 0).m = pokeM M (((d.sp + 255) % 256 : Nat) : Int) (((d.pc + 2) % 256 : Nat) : Int) := by
  unfold stepM stepQ
  rw [h1, h2, hh, if_neg (by decide), if_pos (by decide)]
  have e1 : (decO ((111 : Nat) : Int)).toNat = 13 := by decide
  have e2 : (decA ((111 : Nat) : Int)).toNat = 7 := by decide
  have e3 : (decN ((111 : Nat) : Int) (n : Int)).toNat = n := by
    have : decN ((111 : Nat) : Int) (n : Int) = (n : Int) := by
      unfold decN
      rw [if_neg (by decide), if_pos (by decide)]
    rw [this, Int.toNat_natCast]
  rw [e1, e2, e3]
  unfold Mx.run
  rw [if_pos (by rfl)]
  exact ⟨rfl, rfl⟩
set_option maxRecDepth 100000 in
theorem do_back (d : Cp) (M : Mem) (hh : d.halt = false) (h1 : peekN M d.pc = 119) : (stepM d M 0).c = { d with ei := false, sp := (d.sp + 1) % 256, pc := peekN M d.sp } ∧ (stepM d M 0).m = M := by
  unfold stepM stepQ
  rw [h1, hh, if_neg (by decide), if_neg (by decide)]
  have e1 : (decO ((119 : Nat) : Int)).toNat = 14 := by decide
  have e2 : (decA ((119 : Nat) : Int)).toNat = 7 := by decide
  rw [e1, e2]
  unfold Mx.run
  rw [if_pos (by rfl)]
  exact ⟨rfl, rfl⟩
set_option maxRecDepth 100000 in
theorem do_push (d : Cp) (M : Mem) (r : Nat) (hr : R6 r) (hh : d.halt = false) (h1 : peekN M d.pc = 120 + r) : (stepM d M 0).c = { d with ei := false, sp := (d.sp + 255) % 256, pc := (d.pc + 1) % 256 } ∧ (stepM d M 0).m = pokeM M (((d.sp + 255) % 256 : Nat) : Int) ((d.reg r : Nat) : Int) := by
  unfold stepM stepQ
  rw [h1, hh, if_neg (by decide)]
  rcases hr with rfl | rfl | rfl | rfl | rfl | rfl <;> (rw [if_neg (by decide)]; exact ⟨rfl, rfl⟩)
set_option maxRecDepth 100000 in
theorem do_pop (d : Cp) (M : Mem) (hh : d.halt = false) (h1 : peekN M d.pc = 133) : (stepM d M 0).c = { d with ei := false, sp := (d.sp + 1) % 256, pc := (d.pc + 1) % 256, l := peekN M d.sp } ∧ (stepM d M 0).m = M := by
  unfold stepM stepQ
  rw [h1, hh, if_neg (by decide), if_neg (by decide)]
  exact ⟨rfl, rfl⟩
theorem stp_cp (d : Cp) (v : Value) (M : Mem) (w : World) (hd : d.ok) (he : d.ei = true → d.iff = true) (h : MemR w v M) (hok : okM M = true) (hG : Flags w) (hD : Conds w) (hK : Kinds w) :
    Calls Tryz.prog 8 #[cpV d, v, .int .i64 0] w fun e w' => ∃ u cv, e = .returned (.tuple #[cpV (stepM d M 0).c, u, cv, .int .i64 0]) ∧ Ans w w' (stepM d M 0) u cv := by
  have q := stp_impl_ok d.cu v M 0 w h (ok_fit hok) (by rw [okC_of hd he, hok]; rfl) (by omega) hG hD hK
  have e1 : d.cu.cp = d := by
    unfold Cu.cp
    simp
  rw [e1] at q
  exact q
set_option maxRecDepth 100000 in
theorem four_steps (d : Cp) (M : Mem) (r : Nat) (hr : R6 r) (hd : d.ok) (hh : d.halt = false) (hpc : d.pc = 128) (hsp : d.sp = 252) (hok : okM M = true) :
    ∃ M1 M3 : Mem, okM M1 = true ∧ okM M3 = true ∧
      ((stepM d (memP M r) 0).c = { d with ei := false, sp := 251, pc := 140 } ∧ (stepM d (memP M r) 0).m = M1) ∧
      ((stepM { d with ei := false, sp := 251, pc := 140 } M1 0).c = { d with ei := false, sp := 252, pc := 130 } ∧ (stepM { d with ei := false, sp := 251, pc := 140 } M1 0).m = M1) ∧
      ((stepM { d with ei := false, sp := 252, pc := 130 } M1 0).c = { d with ei := false, sp := 251, pc := 131 } ∧ (stepM { d with ei := false, sp := 252, pc := 130 } M1 0).m = M3) ∧
      ((stepM { d with ei := false, sp := 251, pc := 131 } M3 0).c = { d with ei := false, sp := 252, pc := 132, l := d.reg r } ∧ (stepM { d with ei := false, sp := 251, pc := 131 } M3 0).m = M3) := by
  have hr8 : r < 8 := by rcases hr with rfl | rfl | rfl | rfl | rfl | rfl <;> decide
  obtain ⟨k0, p1, p2, p3, p4, p5⟩ := memP_peek (r := r) hok hr8
  have hreg : d.reg r < 256 := reg_lt hd r
  have k1 : okM (pokeM (memP M r) ((251 : Nat) : Int) ((130 : Nat) : Int)) = true := poke_ok k0 (by decide)
  have k3 : okM (pokeM (pokeM (memP M r) ((251 : Nat) : Int) ((130 : Nat) : Int)) ((251 : Nat) : Int) ((d.reg r : Nat) : Int)) = true := poke_ok k1 (in_yes (by omega) (by omega))
  refine ⟨_, _, k1, k3, ?_, ?_, ?_, ?_⟩
  · have := do_call d (memP M r) 140 hh (by rw [hpc]; exact p1) (by rw [hpc]; exact p2)
    rw [hsp, hpc, show (252 + 255) % 256 = 251 by decide, show (128 + 2) % 256 = 130 by decide] at this
    exact this
  · have := do_back { d with ei := false, sp := 251, pc := 140 } (pokeM (memP M r) ((251 : Nat) : Int) ((130 : Nat) : Int)) hh (by show peekN _ 140 = 119; rw [peek_other k0 _ _ _ (by omega) (by omega) (by omega)]; exact p5)
    rw [show peekN (pokeM (memP M r) ((251 : Nat) : Int) ((130 : Nat) : Int)) ({ d with ei := false, sp := 251, pc := 140 } : Cp).sp = 130 from peek_same k0 251 130 (by omega) (by omega)] at this
    have e1 : (({ d with ei := false, sp := 251, pc := 140 } : Cp).sp + 1) % 256 = 252 := by show (251 + 1) % 256 = 252; decide
    rw [e1] at this
    exact this
  · have := do_push { d with ei := false, sp := 252, pc := 130 } (pokeM (memP M r) ((251 : Nat) : Int) ((130 : Nat) : Int)) r hr hh (by show peekN _ 130 = 120 + r; rw [peek_other k0 _ _ _ (by omega) (by omega) (by omega)]; exact p3)
    have e1 : (({ d with ei := false, sp := 252, pc := 130 } : Cp).sp + 255) % 256 = 251 := by show (252 + 255) % 256 = 251; decide
    have e2 : (({ d with ei := false, sp := 252, pc := 130 } : Cp).pc + 1) % 256 = 131 := by show (130 + 1) % 256 = 131; decide
    rw [e1, e2] at this
    have e3 : ({ d with ei := false, sp := 252, pc := 130 } : Cp).reg r = d.reg r := by rcases hr with rfl | rfl | rfl | rfl | rfl | rfl <;> rfl
    rw [e3] at this
    exact this
  · have := do_pop { d with ei := false, sp := 251, pc := 131 } (pokeM (pokeM (memP M r) ((251 : Nat) : Int) ((130 : Nat) : Int)) ((251 : Nat) : Int) ((d.reg r : Nat) : Int)) hh (by show peekN _ 131 = 133; rw [peek_other k1 _ _ _ (by omega) (by omega) (by omega), peek_other k0 _ _ _ (by omega) (by omega) (by omega)]; exact p4)
    rw [show peekN (pokeM (pokeM (memP M r) ((251 : Nat) : Int) ((130 : Nat) : Int)) ((251 : Nat) : Int) ((d.reg r : Nat) : Int)) ({ d with ei := false, sp := 251, pc := 131 } : Cp).sp = d.reg r from peek_same k1 251 _ (by omega) (by omega)] at this
    have e1 : (({ d with ei := false, sp := 251, pc := 131 } : Cp).sp + 1) % 256 = 252 := by show (251 + 1) % 256 = 252; decide
    have e2 : (({ d with ei := false, sp := 251, pc := 131 } : Cp).pc + 1) % 256 = 132 := by show (131 + 1) % 256 = 132; decide
    rw [e1, e2] at this
    exact this
end Go.Proofs.YtdfadiicjkenfabGreatDoor

/- The law of calls: boxes that come and go; the program as it lies in a world. -/
namespace Go.Proofs.YtdfadiicjkenfabGreatDoor
open Go.ChangeShapes Go.WideShapes Go.ChangeAt Go.RowKit
set_option linter.unusedVariables false
set_option linter.unusedSimpArgs false

theorem StF.new {w W W' : World} {L : List Thing} {g : Nat} {cs : Array Value} (h : StF w W L) (hb : Below W.heap.size W W') (hq : Blk W' g cs) (hg : W.heap.size ≤ g) : StF w W' (tBox g cs :: L) :=
  ⟨h.sts.push hb (sits_box hq) (fun b e => by cases e; exact hg), new_trans h.bel hb, fun t ht b hd => by
    rcases List.mem_cons.1 ht with rfl | ht
    · have : b = g := hd
      have := h.bel.size
      omega
    · exact h.far t ht b hd⟩
theorem StF.swap {w W : World} {L : List Thing} {s t : Thing} (h : StF w W (s :: t :: L)) : StF w W (t :: s :: L) :=
  ⟨h.sts.perm (List.Perm.swap _ _ _), h.bel, fun x hx => h.far x (by
    rcases List.mem_cons.1 hx with rfl | hx
    · exact List.mem_cons_of_mem _ (List.mem_cons_self ..)
    · rcases List.mem_cons.1 hx with rfl | hx
      · exact List.mem_cons_self ..
      · exact List.mem_cons_of_mem _ (List.mem_cons_of_mem _ hx))⟩
theorem StF.tail {w W : World} {L : List Thing} {s : Thing} (h : StF w W (s :: L)) : StF w W L :=
  ⟨⟨fun t ht => h.sts.lies t (List.mem_cons_of_mem _ ht), (List.pairwise_cons.1 h.sts.apart).2⟩, h.bel, fun x hx => h.far x (List.mem_cons_of_mem _ hx)⟩
theorem StF.drop2 {w W : World} {L : List Thing} {s t : Thing} (h : StF w W (s :: t :: L)) : StF w W (s :: L) := h.swap.tail
theorem MemR.unlock {w : World} {vr vm : Value} {M : Mem} (h : MemR w (memV vr vm M.page M.screen M.locked) M) : MemR w (memV vr vm M.page M.screen false) { M with locked := false } := by
  obtain ⟨r, m, e, h1, h2⟩ := h
  simp only [memV, Value.agg.injEq, Array.mk.injEq, List.cons.injEq, and_true, true_and] at e
  obtain ⟨rfl, rfl⟩ := e
  exact ⟨_, _, rfl, h1, h2⟩
theorem ok_unlock {M : Mem} (h : okM M = true) : okM { M with locked := false } = true := h
/-- the program's three instructions -/
abbrev prA (r : Nat) : Array Value := #[.int .i64 13, .int .i64 7, .int .i64 0, .int .i64 140, .int .i64 2, .int .i64 15, .int .i64 (r : Int), .int .i64 0, .int .i64 0, .int .i64 1, .int .i64 16, .int .i64 5, .int .i64 0, .int .i64 0, .int .i64 1]
theorem prA_at (r i : Nat) (hi : i < 3) : (prA r)[i * 5]? = some (.int .i64 (opC i : Nat)) ∧ (prA r)[i * 5 + 1]? = some (.int .i64 (aC r i : Nat)) ∧ (prA r)[i * 5 + 2]? = some (.int .i64 0) ∧ (prA r)[i * 5 + 3]? = some (.int .i64 (nC i : Nat)) ∧ (prA r)[i * 5 + 4]? = some (.int .i64 (lC i : Nat)) := by
  rcases (by omega : i = 0 ∨ i = 1 ∨ i = 2) with rfl | rfl | rfl <;> exact ⟨rfl, rfl, rfl, rfl, rfl⟩
theorem six_at (j : Nat) (hj : j < 6) : ∃ r : Nat, R6 r ∧ (#[.int .i64 0, .int .i64 1, .int .i64 2, .int .i64 3, .int .i64 5, .int .i64 7] : Array Value)[j]? = some (.int .i64 (r : Int)) := by
  rcases (by omega : j = 0 ∨ j = 1 ∨ j = 2 ∨ j = 3 ∨ j = 4 ∨ j = 5) with rfl | rfl | rfl | rfl | rfl | rfl
  · exact ⟨0, .inl rfl, rfl⟩
  · exact ⟨1, .inr (.inl rfl), rfl⟩
  · exact ⟨2, .inr (.inr (.inl rfl)), rfl⟩
  · exact ⟨3, .inr (.inr (.inr (.inl rfl))), rfl⟩
  · exact ⟨5, .inr (.inr (.inr (.inr (.inl rfl)))), rfl⟩
  · exact ⟨7, .inr (.inr (.inr (.inr (.inr rfl)))), rfl⟩
theorem row_open {w w' : World} {u : Value} {zs : List Int} (h : RowA w' w.heap.size u zs) (hz : 1 ≤ zs.length) : ∃ g cap cs, w.heap.size ≤ g ∧ u = .slice (some ⟨g, 0, none⟩) zs.length cap ∧ Blk w' g cs ∧ ∀ i, i < zs.length → cs[i]? = some (.int .i64 (zs.getD i 0)) := by
  rcases h with ⟨rfl, _⟩ | ⟨g, hg, cap, cs, t, rfl, h1, h2⟩
  · exact absurd hz (by decide)
  · exact ⟨g, cap, cs, hg, rfl, ⟨t, h1⟩, h2⟩
theorem row_open1 {w w' : World} {u : Value} {z : Int} (h : RowA w' w.heap.size u [z]) : ∃ g cap cs, w.heap.size ≤ g ∧ u = .slice (some ⟨g, 0, none⟩) 1 cap ∧ Blk w' g cs ∧ cs[0]? = some (.int .i64 z) := by
  obtain ⟨g, cap, cs, h1, h2, h3, h4⟩ := row_open h (by simp)
  exact ⟨g, cap, cs, h1, h2, h3, h4 0 (by simp)⟩
theorem StF.resetAt {w W : World} (L1 : List Thing) {L2 : List Thing} {b : Nat} {A A' : Array Value} (h : StF w W (L1 ++ tBox b A :: L2)) (l : List Value) (hA : setsA 0 l A = A') : StF w (sets W b 0 l) (L1 ++ tBox b A' :: L2) := by
  have hb : w.heap.size ≤ b := h.far (tBox b A) (List.mem_append.2 (.inr (List.mem_cons_self ..))) b rfl
  refine ⟨WI.turn h.sts hA, sets_below _ _ _ _ _ _ h.bel hb, fun t ht x hd => ?_⟩
  rcases List.mem_append.1 ht with ht | ht
  · exact h.far t (List.mem_append.2 (.inl ht)) x hd
  · rcases List.mem_cons.1 ht with rfl | ht
    · have : x = b := hd
      omega
    · exact h.far t (List.mem_append.2 (.inr (List.mem_cons_of_mem _ ht))) x hd
theorem cpA_at (d : Cp) (r : Nat) (hr : R6 r) : (cpA d)[r]? = some (.int .i64 (d.reg r : Nat)) := by
  rcases hr with rfl | rfl | rfl | rfl | rfl | rfl <;> rfl
theorem stp_to (d D : Cp) (v : Value) (M M' : Mem) (w : World) (hd : d.ok) (he : d.ei = true → d.iff = true) (h : MemR w v M) (hok : okM M = true) (hG : Flags w) (hD : Conds w) (hK : Kinds w) (hs : (stepM d M 0).c = D ∧ (stepM d M 0).m = M') :
    Calls Tryz.prog 8 #[cpV d, v, .int .i64 0] w fun e w' => ∃ u cv cy, e = .returned (.tuple #[cpV D, u, cv, .int .i64 0]) ∧ Ans w w' ⟨D, M', cy⟩ u cv := by
  refine (stp_cp d v M w hd he h hok hG hD hK).mono ?_
  rintro e w' ⟨u, cv, rfl, hA⟩
  obtain ⟨X, hX⟩ : ∃ X, stepM d M 0 = X := ⟨_, rfl⟩
  rw [hX] at hs hA ⊢
  obtain ⟨xc, xm, xcy⟩ := X
  obtain ⟨h1, h2⟩ := hs
  simp only at h1 h2
  subst h1
  subst h2
  exact ⟨u, cv, xcy, rfl, hA⟩
theorem four_plain (d : Cp) (M : Mem) (r : Nat) (hr : R6 r) (hd : d.ok) (hh : d.halt = false) (hpc : d.pc = 128) (hsp : d.sp = 252) (hok : okM M = true) :
    ∃ (M1 M3 : Mem) (D1 D2 D3 D4 : Cp), okM (memP M r) = true ∧ okM M1 = true ∧ okM M3 = true ∧ (D1.ok ∧ D2.ok ∧ D3.ok) ∧ (D1.ei = false ∧ D2.ei = false ∧ D3.ei = false) ∧
      ((stepM d (memP M r) 0).c = D1 ∧ (stepM d (memP M r) 0).m = M1) ∧ ((stepM D1 M1 0).c = D2 ∧ (stepM D1 M1 0).m = M1) ∧ ((stepM D2 M1 0).c = D3 ∧ (stepM D2 M1 0).m = M3) ∧ ((stepM D3 M3 0).c = D4 ∧ (stepM D3 M3 0).m = M3) ∧
      (D1.pc : Int) = 140 ∧ (D1.sp : Int) = 251 ∧ (D2.pc : Int) = 130 ∧ (D2.sp : Int) = 252 ∧ (D4.sp : Int) = 252 ∧ D4.l = d.reg r ∧ D4.f = d.f ∧ (D4.pc : Int) = 132 := by
  obtain ⟨M1, M3, k1, k3, s1, s2, s3, s4⟩ := four_steps d M r hr hd hh hpc hsp hok
  have hr8 : r < 8 := by rcases hr with rfl | rfl | rfl | rfl | rfl | rfl <;> decide
  have k0 := (memP_peek (r := r) hok hr8).1
  obtain ⟨o0, o1, o2, o3, o4, o5, o6, o7, o8, o9⟩ := hd
  exact ⟨M1, M3, { d with ei := false, sp := 251, pc := 140 }, { d with ei := false, sp := 252, pc := 130 }, { d with ei := false, sp := 251, pc := 131 }, { d with ei := false, sp := 252, pc := 132, l := d.reg r }, k0, k1, k3, ⟨⟨o0, o1, o2, o3, o4, o5, o6, o7, by show 251 < 256; omega, by show 140 < 256; omega⟩, ⟨o0, o1, o2, o3, o4, o5, o6, o7, by show 252 < 256; omega, by show 130 < 256; omega⟩, ⟨o0, o1, o2, o3, o4, o5, o6, o7, by show 251 < 256; omega, by show 131 < 256; omega⟩⟩, ⟨rfl, rfl, rfl⟩, s1, s2, s3, s4, rfl, rfl, rfl, rfl, rfl, rfl, rfl, rfl⟩
end Go.Proofs.YtdfadiicjkenfabGreatDoor
