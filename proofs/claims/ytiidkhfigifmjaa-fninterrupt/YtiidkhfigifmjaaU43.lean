/- What the program answers where an address lies, what is read there, whether it is shared, and what a write makes of a memory. -/
import Derived.Test.YtiidkhfigifmjaaBfu
import Derived.Test.YtiidkhfigifmjaaMiu
import Derived.Test.YtiidkhfigifmjaaU10
import Derived.Test.YtiidkhfigifmjaaMju
import Derived.Test.YtiidkhfigifmjaaU41
namespace Go.Proofs.Ytiidkhfigifmjaa
open Go.ChangeShapes Go.WideShapes Go.ChangeAt Go.RowKit
set_option linter.unusedVariables false
set_option linter.unusedSimpArgs false

theorem row_one (W : World) (a : Int) (t : TypeId) : RowR (W.alloc (.cells #[.int .i64 a] t)) (.slice (some ⟨W.heap.size, 0, none⟩) 1 1) [a] :=
  ⟨_, 1, rfl, .inr ⟨W.heap.size, 0, rfl, fun i hi => by
    have hi : i < 1 := hi
    obtain rfl : i = 0 := by omega
    exact cell_new1 W _ t⟩⟩
theorem row_one2 (W : World) (o : Obj) (a : Int) (t : TypeId) : RowR ((W.alloc o).alloc (.cells #[.int .i64 a] t)) (.slice (some ⟨W.heap.size + 1, 0, none⟩) 1 1) [a] := by
  have := row_one (W.alloc o) a t
  rw [World.size_alloc] at this
  exact this
theorem row_one3 (W : World) (o o' : Obj) (a : Int) (t : TypeId) : RowR (((W.alloc o).alloc o').alloc (.cells #[.int .i64 a] t)) (.slice (some ⟨W.heap.size + 1 + 1, 0, none⟩) 1 1) [a] := by
  have := row_one ((W.alloc o).alloc o') a t
  simp only [World.size_alloc] at this
  exact this
theorem row_two3 (W : World) (o o' : Obj) (a b : Int) (t : TypeId) : RowR (((W.alloc o).alloc o').alloc (.cells #[.int .i64 a, .int .i64 b] t)) (.slice (some ⟨W.heap.size + 1 + 1, 0, none⟩) 2 2) [a, b] := by
  have h := (Blk.new ((W.alloc o).alloc o') #[.int .i64 a, .int .i64 b] t).cell
  simp only [World.size_alloc] at h
  refine ⟨_, 2, rfl, .inr ⟨W.heap.size + 1 + 1, 0, rfl, fun i hi => ?_⟩⟩
  have hi : i < 2 := hi
  rcases (by omega : i = 0 ∨ i = 1) with rfl | rfl
  · exact h 0
  · exact h 1
/-- memoryFault with one number beside -/
theorem fault1_impl (v : Value) (M : Mem) (b cap : Nat) (a : Int) (w : World) (h : MemR w v M) (hf : Fit M) (hz : RowR w (.slice (some ⟨b, 0, none⟩) 1 cap) [a]) :
    Calls Try.prog 35 #[v, .slice (some ⟨b, 0, none⟩) 1 cap] w fun e w' => e = .returned (.int .i64 (askM M a)) ∧ Below w.heap.size w w' := by
  rw [← fault_one]
  exact fault_impl v M (some ⟨b, 0, none⟩) cap [a] w h hf hz (by simp)
theorem fault2_impl (v : Value) (M : Mem) (b cap : Nat) (a x : Int) (w : World) (h : MemR w v M) (hf : Fit M) (hz : RowR w (.slice (some ⟨b, 0, none⟩) 2 cap) [a, x]) :
    Calls Try.prog 35 #[v, .slice (some ⟨b, 0, none⟩) 2 cap] w fun e w' => e = .returned (.int .i64 (pokeC M a x)) ∧ Below w.heap.size w w' := by
  have e : pokeC M a x = faultM M [a, x] := by
    unfold pokeC faultM askM
    cases okM M
    · simp
    · cases ha : inB a 0 255
      · simp [ha]
      · cases hx : inB x 0 255 <;> simp [ha, hx]
  rw [e]
  exact fault_impl v M (some ⟨b, 0, none⟩) cap [a, x] w h hf hz (by simp)
theorem Brd.below {w w' : World} {lo hi B r s : Nat} {G Q : Nat → Nat} {M : Mem} (h : Brd w lo hi B r s G Q M) (hb : Below w.heap.size w w') : Brd w' lo hi B r s G Q M := by
  have hB := h.blk.lt
  have ho := h.ord
  exact ⟨h.lies.kept (fun b _ h1 => hb.block b (by omega)), h.blk.below hb hB, fun q hq => by
    obtain ⟨cap, hc⟩ := h.bank q hq
    exact ⟨cap, hc.below hb hc.lt⟩, ho⟩
theorem peek_impl (v : Value) (M : Mem) (a : Int) (w : World) (h : MemR w v M) (hf : Fit M) :
    Calls Try.prog 11 #[v, .int .i64 a] w fun e w' => e = .returned (peek2 M a) ∧ Below w.heap.size w w' := by
  obtain ⟨a1, p1, a2, p2, rfl, _, _⟩ := h.form
  have hB : Hid (∀ o o', Below w.heap.size w ((w.alloc o).alloc o')) := fun o o' => ((Below.refl _ _).alloc (Nat.le_refl _) _).alloc (by simp) _
  have hM : Hid (∀ W', Below w.heap.size w W' → MemR W' (memV (.slice a1 M.rom.length p1) (.slice a2 M.ram.length p2) M.page M.screen M.locked) M) := fun W' hb => h.below hb
  have hF : Hid (Fit M) := hf
  clear h hf
  rcases ask_cases M a with ⟨hk, ho, h0, h1⟩ | ⟨hk, hk2⟩
  · have e : peek2 M a = .tuple #[.int .i64 (peekI M a), .int .i64 0] := by unfold peek2; rw [if_pos hk]
    rw [e]
    clear e
    go_enter Try.func11, Try.ntmps11
    go_wp2_with fail
    refine (fault1_impl _ M _ _ a _ (hM.out _ (hB.out _ _)) hF.out (row_one2 _ _ _ _)).mono ?_
    rintro e w1 ⟨rfl, hb1⟩
    rw [hk]
    have hz := hb1.size
    simp only [World.size_alloc] at hz
    have x0 := (((Blk.new w _ _).alloc _).below hb1 (by simp; omega)).cell
    have hB1 := hid (new_trans (hB.out _ _) hb1)
    clear hb1
    go_wp2_with fail
    refine (board_impl _ M _ (hM.out _ hB1.out) ho hF.out).mono ?_
    rintro e w2 ⟨hi, B, r, s, G, Q, rfl, hBr, hb2⟩
    have hB2 := hid (new_trans hB1.out hb2)
    replace hBr := hid hBr
    clear x0 hb2 hB1
    go_wp2_with (go_at_call 37; refine (read_impl _ _ _ _ _ _ _ _ M a hBr.out ho h0 h1).mono ?_; rintro e w' ⟨rfl, rfl⟩)
    go_ret2
    exact ⟨rfl, hB2.out⟩
  · have e : peek2 M a = .tuple #[.int .i64 0, .int .i64 (askM M a)] := by unfold peek2; rw [if_neg hk]
    rw [e]
    clear e
    generalize hx : askM M a = x at *
    replace hx := hid hx
    go_enter Try.func11, Try.ntmps11
    go_wp2_with fail
    refine (fault1_impl _ M _ _ a _ (hM.out _ (hB.out _ _)) hF.out (row_one2 _ _ _ _)).mono ?_
    rintro e w1 ⟨rfl, hb1⟩
    rw [hx.out]
    replace hb1 := hid hb1
    go_wp2
    go_ret2
    exact ⟨rfl, new_trans (hB.out _ _) hb1.out⟩
end Go.Proofs.Ytiidkhfigifmjaa

/- What the specification answers whether an address is shared, and what paging makes of a memory. -/
namespace Go.Proofs.Ytiidkhfigifmjaa
open Go.ChangeShapes Go.WideShapes Go.ChangeAt Go.RowKit
set_option linter.unusedVariables false

/-- a memory behind paging -/
def pageM (M : Mem) (v : Int) : Mem := { M with page := (Nat.land v.toNat 3 : Nat), screen := 1 + 2 * (Nat.land (v.toNat / 8) 1 : Nat), locked := !(Nat.beq (Nat.land v.toNat 32) 0) }
def pageC (M : Mem) (v : Int) : Int := if askM M v = 0 then (if M.locked = true then 12 else 0) else askM M v
def pageR (M : Mem) (v : Int) : Mem := if askM M v = 0 then (if M.locked = true then M else pageM M v) else mem0
theorem land3 (k : Nat) : Nat.land k 3 ≤ 3 := Nat.and_le_right
theorem land1 (k : Nat) : Nat.land k 1 ≤ 1 := Nat.and_le_right
theorem page_ok {M : Mem} {v : Int} (h : okM M = true) : okM (pageM M v) = true := by
  obtain ⟨h1, h2, h3, h4, h5⟩ := ok_parts h
  have k3 := land3 v.toNat
  have k1 := land1 (v.toNat / 8)
  refine ok_all h1 h2 (in_yes ?_ ?_) ?_ (fun i hi => h5 i (by omega))
  · show (0 : Int) ≤ (Nat.land v.toNat 3 : Nat)
    omega
  · show ((Nat.land v.toNat 3 : Nat) : Int) ≤ 3
    omega
  · show 1 + 2 * ((Nat.land (v.toNat / 8) 1 : Nat) : Int) = 1 ∨ 1 + 2 * ((Nat.land (v.toNat / 8) 1 : Nat) : Int) = 3
    omega
end Go.Proofs.Ytiidkhfigifmjaa

/- Plain facts of a write: what is read behind it. -/
namespace Go.Proofs.Ytiidkhfigifmjaa
set_option linter.unusedVariables false

theorem poke_page (M : Mem) (k v : Int) : (pokeM M k v).page = M.page := by unfold pokeM; split <;> rfl
theorem peek_poke {M : Mem} (hok : okM M = true) {k v i : Int} (hk0 : 0 ≤ k) (hk1 : k ≤ 255) (hi0 : 0 ≤ i) (hi1 : i ≤ 255) :
    peekI (pokeM M k v) i = if bankI M.page i = bankI M.page k ∧ i % 64 = k % 64 ∧ 0 ≤ bankI M.page k then v else peekI M i := by
  obtain ⟨h1, h2, h3, h4, h5⟩ := ok_parts hok
  by_cases hk : k < 64
  · have e : bankI M.page k = -1 := by unfold bankI; rw [if_pos hk]
    have e2 : pokeM M k v = M := by unfold pokeM; rw [if_pos hk]
    rw [e2, if_neg (by rw [e]; omega)]
  · have hb := bank_bd h3 (a := k) (by omega)
    have e2 : pokeM M k v = { M with ram := M.ram.set (bankI M.page k).toNat ((M.ram.getD (bankI M.page k).toNat []).set (k % 64).toNat v) } := by unfold pokeM; rw [if_neg hk]
    have hlen := bytes_len (h5 (bankI M.page k).toNat (by omega))
    by_cases hi : i < 64
    · have e : bankI M.page i = -1 := by unfold bankI; rw [if_pos hi]
      rw [if_neg (by rw [e]; omega), e2]
      unfold peekI
      rw [if_pos hi, if_pos hi]
    · have hc := bank_bd h3 (a := i) (by omega)
      rw [e2]
      unfold peekI
      rw [if_neg hi, if_neg hi]
      show ((M.ram.set (bankI M.page k).toNat ((M.ram.getD (bankI M.page k).toNat []).set (k % 64).toNat v)).getD (bankI M.page i).toNat []).getD (i % 64).toNat 0 = _
      by_cases hbb : bankI M.page i = bankI M.page k
      · rw [hbb, List.getD_eq_getElem?_getD (l := M.ram.set _ _), List.getElem?_set_self (by omega), Option.getD_some]
        by_cases hq : i % 64 = k % 64
        · rw [if_pos ⟨rfl, hq, hb.1⟩, hq, List.getD_eq_getElem?_getD, List.getElem?_set_self (by omega), Option.getD_some]
        · rw [if_neg (fun h => hq h.2.1), List.getD_eq_getElem?_getD, List.getElem?_set_ne (by omega), ← List.getD_eq_getElem?_getD]
      · rw [if_neg (fun h => hbb h.1), List.getD_eq_getElem?_getD (l := M.ram.set _ _), List.getElem?_set_ne (by omega), ← List.getD_eq_getElem?_getD]
theorem ask_ok {M : Mem} (hok : okM M = true) {a : Int} (h0 : 0 ≤ a) (h1 : a ≤ 255) : askM M a = 0 := by unfold askM; rw [if_pos hok, if_pos (in_yes h0 h1)]
theorem same_self {M : Mem} (hok : okM M = true) : sameM M M = true := sameM_yes hok hok rfl rfl (by simp) rfl rfl
theorem ok_fit {M : Mem} (hok : okM M = true) : Fit M := by
  obtain ⟨h1, h2, h3, h4, h5⟩ := ok_parts hok
  exact ⟨by have := bytes_len h1; omega, by omega, fun i hi => by have := bytes_len (h5 i hi); omega⟩
end Go.Proofs.Ytiidkhfigifmjaa
