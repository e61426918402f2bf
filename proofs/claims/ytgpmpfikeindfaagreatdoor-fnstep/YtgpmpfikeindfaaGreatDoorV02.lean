/- What the specification answers where an address lies, what is read there, and whether it is shared. -/
import Derived.Test.YtgpmpfikeindfaaGreatDoorV01
import Derived.Test.YtgpmpfikeindfaaGreatDoorV00
import Derived.Deep.RegionWith
import Derived.Deep.DeepCutAuto
import Derived.Deep.QuietTactic
import Derived.BigQuiet
import Derived.Deep.RegionHeld3
import Derived.Deep.RegionHeld2
namespace Go.Proofs.YtgpmpfikeindfaaGreatDoor
open Go.ChangeShapes Go.WideShapes Go.ChangeAt Go.RowKit
set_option linter.unusedVariables false

def Fit (M : Mem) : Prop := M.rom.length ≤ 1000000000 ∧ M.ram.length ≤ 1000000000 ∧ ∀ i, i < M.ram.length → (M.ram.getD i []).length ≤ 1000000000
/-- the code that an address gets -/
def askM (M : Mem) (a : Int) : Int := if okM M = true then (if inB a 0 255 = true then 0 else 4) else 1
/-- the bank that an address shows, -1 of the ROM -/
def bankI (p a : Int) : Int := if a < 64 then -1 else if a < 128 then 1 else if a < 192 then 2 else p
def peekI (M : Mem) (a : Int) : Int := if a < 64 then M.rom.getD a.toNat 0 else (M.ram.getD (bankI M.page a).toNat []).getD (a % 64).toNat 0
def where3 (M : Mem) (a : Int) : Value := if askM M a = 0 then .tuple #[.int .i64 (bankI M.page a), .int .i64 (a % 64), .int .i64 0] else .tuple #[.int .i64 0, .int .i64 0, .int .i64 (askM M a)]
def peek2 (M : Mem) (a : Int) : Value := if askM M a = 0 then .tuple #[.int .i64 (peekI M a), .int .i64 0] else .tuple #[.int .i64 0, .int .i64 (askM M a)]
def shared2 (M : Mem) (a : Int) : Value := if askM M a = 0 then .tuple #[.bool (decide (bankI M.page a = 1 ∨ bankI M.page a = 3)), .int .i64 0] else .tuple #[.bool false, .int .i64 (askM M a)]
theorem ask_cases (M : Mem) (a : Int) : (askM M a = 0 ∧ okM M = true ∧ 0 ≤ a ∧ a ≤ 255) ∨ (askM M a ≠ 0 ∧ (askM M a == 0) = false) := by
  unfold askM
  split
  · split
    · rename_i h1 h2
      have : 0 ≤ a ∧ a ≤ 255 := by simpa [inB] using h2
      exact .inl ⟨rfl, h1, this⟩
    · exact .inr ⟨by decide, by decide⟩
  · exact .inr ⟨by decide, by decide⟩
theorem bank_bd {p a : Int} (hp : 0 ≤ p ∧ p ≤ 3) (ha : 64 ≤ a) : 0 ≤ bankI p a ∧ bankI p a ≤ 3 := by
  unfold bankI
  split
  · omega
  · split
    · omega
    · split <;> omega
theorem row_at {w : World} {a : Option Addr} {n cap : Nat} {zs : List Int} (h : RowR w (.slice a n cap) zs) {k : Nat} (hk : k < zs.length) :
    ∃ b off, a = some ⟨b, off, none⟩ ∧ w.cell? ⟨b, off + k, none⟩ = some (.int .i64 (zs.getD k 0)) ∧ b < w.heap.size := by
  obtain ⟨b, off, h1, h2⟩ := row_some h.disj hk
  exact ⟨b, off, h1, h2, World.block_lt_of_cell? w _ h2⟩
theorem rows_at {w : World} {a : Option Addr} {n cap : Nat} {zss : List (List Int)} (h : RowsR w (.slice a n cap) zss) {k : Nat} (hk : k < zss.length) :
    ∃ b off a' cap', a = some ⟨b, off, none⟩ ∧ w.cell? ⟨b, off + k, none⟩ = some (.slice a' (zss.getD k []).length cap') ∧ b < w.heap.size ∧ RowR w (.slice a' (zss.getD k []).length cap') (zss.getD k []) := by
  obtain ⟨b, off, a', cap', h1, h2, h3⟩ := rows_some h.disj hk
  exact ⟨b, off, a', cap', h1, h2, World.block_lt_of_cell? w _ h2, h3⟩

theorem bank_spec (a1 a2 : Option Addr) (n1 p1 n2 p2 : Nat) (pg sc : Int) (l : Bool) (a : Int) (w : World) (h0 : 0 ≤ a) (h1 : a ≤ 255) :
    Calls Tryz.prog 104 #[memV (.slice a1 n1 p1) (.slice a2 n2 p2) pg sc l, .int .i64 a] w fun e w' => e = .returned (.int .i64 (bankI pg a)) ∧ Below w.heap.size w w' := by
  have h4 : a / 64 = 0 ∨ a / 64 = 1 ∨ a / 64 = 2 ∨ a / 64 = 3 := by omega
  rcases h4 with h4 | h4 | h4 | h4
  · have e : bankI pg a = -1 := by unfold bankI; rw [if_pos (by omega)]
    rw [e]
    go_enter Tryz.func104, Tryz.ntmps104
    go_wp2
    go_ret
    exact ⟨rfl, ((Below.refl _ _).alloc (Nat.le_refl _) _).alloc (by simp) _⟩
  · have e : bankI pg a = 1 := by unfold bankI; rw [if_neg (by omega), if_pos (by omega)]
    rw [e]
    go_enter Tryz.func104, Tryz.ntmps104
    go_wp2
    go_ret
    exact ⟨rfl, ((Below.refl _ _).alloc (Nat.le_refl _) _).alloc (by simp) _⟩
  · have e : bankI pg a = 2 := by unfold bankI; rw [if_neg (by omega), if_neg (by omega), if_pos (by omega)]
    rw [e]
    go_enter Tryz.func104, Tryz.ntmps104
    go_wp2
    go_ret
    exact ⟨rfl, ((Below.refl _ _).alloc (Nat.le_refl _) _).alloc (by simp) _⟩
  · have e : bankI pg a = pg := by unfold bankI; rw [if_neg (by omega), if_neg (by omega), if_neg (by omega)]
    rw [e]
    go_enter Tryz.func104, Tryz.ntmps104
    go_wp2
    go_ret
    exact ⟨rfl, ((Below.refl _ _).alloc (Nat.le_refl _) _).alloc (by simp) _⟩
theorem peek0_spec (v : Value) (M : Mem) (a : Int) (w : World) (h : MemR w v M) (hk : okM M = true) (h0 : 0 ≤ a) (h1 : a ≤ 255) :
    Calls Tryz.prog 49 #[v, .int .i64 a] w fun e w' => e = .returned (.int .i64 (peekI M a)) ∧ Below w.heap.size w w' := by
  obtain ⟨hp1, hp2, hp3, _, hp5⟩ := ok_parts hk
  have hl := bytes_len hp1
  obtain ⟨a1, p1, a2, p2, rfl, r1, r2⟩ := h.form
  have hB : Hid (∀ o, Below w.heap.size w (w.alloc o)) := fun o => (Below.refl _ _).alloc (Nat.le_refl _) _
  clear h hk
  by_cases hlt : a < 64
  · have e : peekI M a = M.rom.getD a.toNat 0 := by unfold peekI; rw [if_pos hlt]
    have eb : bankI M.page a = -1 := by unfold bankI; rw [if_pos hlt]
    obtain ⟨b, off, rfl, c1, hb⟩ := row_at r1 (k := a.toNat) (by omega)
    rw [e]
    clear e r1 r2 hp1 hp5
    obtain ⟨k, hk⟩ : ∃ k : Nat, a = (k : Int) := ⟨a.toNat, by omega⟩
    subst hk
    simp only [Int.toNat_natCast] at c1 ⊢
    generalize M.rom.getD k 0 = z at *
    go_enter Tryz.func49, Tryz.ntmps49
    go_wp2_with fail
    refine (bank_spec _ a2 _ p1 _ p2 _ _ _ _ _ h0 h1).mono ?_
    rintro e w1 ⟨rfl, hb1⟩
    rw [eb]
    have hz := hb1.size
    simp only [World.size_alloc] at hz
    have hc := fun i => (bcell hb1).1 w.heap.size i (by simp)
    have c2 : w1.cell? ⟨b, off + k, none⟩ = some (.int .i64 z) := by rw [(bcell hb1).1 b _ (by simp; omega)]; rw [World.cell?_alloc_past _ _ _ hb]; exact c1
    replace hb1 := hid hb1
    clear c1
    go_wp2
    go_ret
    exact ⟨rfl, new_trans (hB.out _) hb1.out⟩
  · have hbb := bank_bd hp3 (a := a) (by omega)
    obtain ⟨j, hj⟩ : ∃ j : Nat, bankI M.page a = (j : Int) := ⟨(bankI M.page a).toNat, by omega⟩
    obtain ⟨q, hq⟩ : ∃ q : Nat, a % 64 = (q : Int) := ⟨(a % 64).toNat, by omega⟩
    have e : peekI M a = (M.ram.getD j []).getD q 0 := by unfold peekI; rw [if_neg hlt, hj, hq]; rfl
    have hj4 : j < M.ram.length := by omega
    have hrow := bytes_len (hp5 j hj4)
    obtain ⟨b, off, a3, p3, rfl, c1, hb, r3⟩ := rows_at r2 hj4
    obtain ⟨b3, off3, rfl, c3, hb3⟩ := row_at r3 (k := q) (by omega)
    rw [e]
    clear e r1 r2 r3 hp1 hp5
    generalize M.ram.getD j [] = zz at *
    generalize zz.getD q 0 = z at *
    have hjz : ((j : Int) < 0) = False := by simp
    go_enter Tryz.func49, Tryz.ntmps49
    go_wp2_with fail
    refine (bank_spec a1 _ _ p1 _ p2 _ _ _ _ _ h0 h1).mono ?_
    rintro e w1 ⟨rfl, hb1⟩
    rw [hj]
    have hz := hb1.size
    simp only [World.size_alloc] at hz
    have hc := fun i => (bcell hb1).1 w.heap.size i (by simp)
    have c2 : w1.cell? ⟨b, off + j, none⟩ = some (.slice (some ⟨b3, off3, none⟩) zz.length p3) := by rw [(bcell hb1).1 b _ (by simp; omega)]; rw [World.cell?_alloc_past _ _ _ hb]; exact c1
    have c4 : w1.cell? ⟨b3, off3 + q, none⟩ = some (.int .i64 z) := by rw [(bcell hb1).1 b3 _ (by simp; omega)]; rw [World.cell?_alloc_past _ _ _ hb3]; exact c3
    replace hb1 := hid hb1
    clear c1 c3
    go_wp2
    go_ret
    exact ⟨rfl, new_trans (hB.out _) hb1.out⟩
end Go.Proofs.YtgpmpfikeindfaaGreatDoor

/- What the specification says of an instruction that is right: the forms of instructions, and InstrOK. -/
namespace Go.Proofs.YtgpmpfikeindfaaGreatDoor
open Go.ChangeShapes Go.WideShapes Go.ChangeAt Go.RowKit
set_option linter.unusedVariables false
set_option linter.unusedSimpArgs false

abbrev insV (o a b n l : Int) : Value := .agg #[.int .i64 o, .int .i64 a, .int .i64 b, .int .i64 n, .int .i64 l]
abbrev insA (o a b n l : Int) : Array Value := #[.int .i64 o, .int .i64 a, .int .i64 b, .int .i64 n, .int .i64 l]
/-- what stands in an instruction's form: A, B, N -/
def formS : List ByteArray := [⟨#[]⟩, ⟨#[65, 66]⟩, ⟨#[65, 78]⟩, ⟨#[78]⟩, ⟨#[78]⟩, ⟨#[65, 66]⟩, ⟨#[65, 78]⟩, ⟨#[65]⟩, ⟨#[65]⟩, ⟨#[65, 66]⟩, ⟨#[65, 66]⟩, ⟨#[]⟩, ⟨#[65, 78]⟩, ⟨#[65, 78]⟩, ⟨#[65]⟩, ⟨#[65]⟩, ⟨#[65]⟩, ⟨#[78]⟩, ⟨#[78]⟩, ⟨#[]⟩, ⟨#[]⟩, ⟨#[]⟩, ⟨#[]⟩]
def formT (k : Nat) : ByteArray := formS.getD k ⟨#[]⟩
def hasC (k : Nat) (c : Int) : Bool := (List.range (formT k).size).any fun i => byt (formT k) i == c
def bitI (b : Bool) : Int := if b then 1 else 0
theorem bitI_bd (b : Bool) : 0 ≤ bitI b ∧ bitI b ≤ 1 := by cases b <;> decide
theorem form_at (k : Nat) (hk : k < 23) : (formS.map Value.string)[k]'(by simpa [formS] using hk) = .string (formT k) := by
  rw [List.getElem_map]
  unfold formT
  rw [List.getD_eq_getElem?_getD, List.getElem?_eq_getElem (by simpa [formS] using hk)]
  rfl
theorem hasC_no {k j : Nat} {c : Int} (h : ∀ i, i < (formT k).size → (byt (formT k) i == c) = false) : hasC k c = false := by
  unfold hasC
  rw [List.any_eq_false]
  intro i hi
  rw [h i (List.mem_range.1 hi)]
  simp
theorem hasC_yes {k i : Nat} {c : Int} (hi : i < (formT k).size) (h : (byt (formT k) i == c) = true) : hasC k c = true := by
  unfold hasC
  rw [List.any_eq_true]
  exact ⟨i, List.mem_range.2 hi, h⟩
theorem formT_size (k : Nat) (hk : k < 23) : (formT k).size ≤ 2 := by
  have h : ∀ k, k < 23 → (formT k).size ≤ 2 := by decide +kernel
  exact h k hk
set_option maxRecDepth 100000 in
theorem form_spec (k : Nat) (w : World) (hk : k < 23) :
    Calls Tryz.prog 141 #[.int .i64 (k : Int)] w fun e w' => e = .returned (.string (formT k)) ∧ Below w.heap.size w w' := by
  have hs := hid (form_at k hk)
  go_enter Tryz.func141, Tryz.ntmps141
  go_wp2
  go_ret
  exact ⟨congrArg Ending.returned hs.out, (Below.refl _ _).alloc (Nat.le_refl _) _⟩
theorem has_spec (k : Nat) (c : Int) (w : World) (hk : k < 23) :
    Calls Tryz.prog 121 #[.int .i64 (k : Int), .int .u8 c] w fun e w' => e = .returned (.bool (hasC k c)) ∧ Below w.heap.size w w' := by
  have hno : Hid ((∀ i, i < (formT k).size → (byt (formT k) i == c) = false) → hasC k c = false) := hasC_no (j := 0)
  have hyes : Hid (∀ i, i < (formT k).size → (byt (formT k) i == c) = true → hasC k c = true) := fun i => hasC_yes
  have hsz := formT_size k hk
  obtain ⟨s, hs⟩ : ∃ s, formT k = s := ⟨_, rfl⟩
  rw [hs] at hno hyes hsz
  replace hs := hid hs
  go_enter Tryz.func121, Tryz.ntmps121
  go_wp2_with fail
  refine (form_spec k _ hk).mono ?_
  rintro e w1 ⟨rfl, hb1⟩
  rw [hs.out]
  replace hb1 := hid hb1
  go_wp2
  go_loop [6] (fun i => ∃ j : Nat, j ≤ s.size ∧ i = .int .i64 j ∧ ∀ i, i < j → (byt s i == c) = false) (fun i => s.size - (intOf i).toNat)
  case atStart => exact ⟨0, by omega, rfl, fun i hi => by omega⟩
  case round =>
    obtain ⟨j, hj, rfl, hn⟩ := hrel
    by_cases hlt : j < s.size
    · have hid1 := run_idx s (j : Int) j rfl hlt
      cases hz : (byt s j == c)
      · have hn2 : Hid (∀ i, i < j + 1 → (byt s i == c) = false) := fun i hi => by
          by_cases e : i = j
          · rw [e]; exact hz
          · exact hn i (by omega)
        clear hn hno hyes
        generalize byt s j = z at *
        go_wp2
        go_round
        case rel => exact ⟨j + 1, by omega, by go_num, hn2.out⟩
        case measure => simp [intOf]; omega
      · have hE := hid (hyes.out j hlt hz)
        clear hn hno hyes
        generalize byt s j = z at *
        go_wp2
        go_ret
        exact ⟨ret_bool hE.out.symm, hb1.out⟩
    · obtain rfl : j = s.size := by omega
      have hE := hid (hno.out hn)
      clear hn hno hyes
      go_wp2
      go_ret
      exact ⟨ret_bool hE.out.symm, hb1.out⟩
theorem bitI_spec (b : Bool) (w : World) : Calls Tryz.prog 139 #[.bool b] w fun e w' => e = .returned (.int .i64 (bitI b)) ∧ w' = w := by
  cases b
  all_goals
    go_enter Tryz.func139, Tryz.ntmps139
    go_wp2
    go_ret
    exact ⟨rfl, rfl⟩
theorem belD (n : Nat) (w : World) (m : Nat) : Below n w (w.drewN m) := ⟨rfl, rfl, rfl, Nat.le_refl _, fun _ _ => rfl⟩
theorem cell_kept {W W' : World} {b i : Nat} {v : Value} (hb : Below W.heap.size W W') (h : W.cell? ⟨b, i, none⟩ = some v) : W'.cell? ⟨b, i, none⟩ = some v := by
  rw [hb.cell (p := ⟨b, i, none⟩) (World.block_lt_of_cell? W _ h)]
  exact h
/-- an instruction that is right -/
def okI (o a b n l : Int) : Bool :=
  if o = 23 then (decide (a = 0) && decide (b = 0) && inB n 184 255 && decide (l = 1))
  else inB o 0 22 && (inB a 0 (7 * bitI (hasC o.toNat 65)) && inB b 0 (7 * bitI (hasC o.toNat 66)) && inB n 0 (255 * bitI (hasC o.toNat 78)) && decide (l = 1 + bitI (hasC o.toNat 66 || hasC o.toNat 78)))
end Go.Proofs.YtgpmpfikeindfaaGreatDoor

/- What the specification decodes. -/
namespace Go.Proofs.YtgpmpfikeindfaaGreatDoor
open Go.ChangeShapes Go.WideShapes Go.ChangeAt Go.RowKit
set_option linter.unusedVariables false
set_option linter.unusedSimpArgs false

/-- the numbers of the instruction that two bytes are -/
def decO (x : Int) : Int := if 23 ≤ x / 8 then 23 else x / 8
def decA (x : Int) : Int := if 23 ≤ x / 8 then 0 else if hasC (x / 8).toNat 65 = true then x % 8 else 0
def decB (x y : Int) : Int := if 23 ≤ x / 8 then 0 else if hasC (x / 8).toNat 66 = true then y % 8 else 0
def decN (x y : Int) : Int := if 23 ≤ x / 8 then x else if hasC (x / 8).toNat 78 = true then y else 0
def decL (x : Int) : Int := if 23 ≤ x / 8 then 1 else 1 + bitI (hasC (x / 8).toNat 66 || hasC (x / 8).toNat 78)
abbrev dcdV (x y : Int) : Value := insV (decO x) (decA x) (decB x y) (decN x y) (decL x)
/-- while an instruction is being decoded -/
structure DSt (w W : World) (C : Array Value) : Prop where
  q0 : Blk W w.heap.size #[.int .i64 0, .int .i64 0, .int .i64 0, .int .i64 0, .int .i64 0]
  q1 : Blk W (w.heap.size + 1) C
  bel : Below w.heap.size w W
theorem two_newI {w w1 : World} {A0 A1 : Array Value} {t t1 : TypeId} (hb : Below ((w.alloc (.cells A0 t)).alloc (.cells A1 t1)).heap.size ((w.alloc (.cells A0 t)).alloc (.cells A1 t1)) w1) :
    Blk w1 w.heap.size A0 ∧ Blk w1 (w.heap.size + 1) A1 ∧ Below w.heap.size w w1 := by
  have hs : ((w.alloc (.cells A0 t)).alloc (.cells A1 t1)).heap.size = w.heap.size + 1 + 1 := by simp
  have q1 := Blk.new (w.alloc (.cells A0 t)) A1 t1
  simp only [World.size_alloc] at q1
  refine ⟨((Blk.new w A0 t).alloc _).below hb (by omega), q1.below hb (by omega), ?_⟩
  exact (((Below.refl _ _).alloc (Nat.le_refl _) _).alloc (by simp) _).trans (hb.mono (by omega))
theorem DSt.start {w w1 : World} {C : Array Value} {t t1 : TypeId} (hb : Below ((w.alloc (.cells #[.int .i64 0, .int .i64 0, .int .i64 0, .int .i64 0, .int .i64 0] t)).alloc (.cells C t1)).heap.size ((w.alloc (.cells #[.int .i64 0, .int .i64 0, .int .i64 0, .int .i64 0, .int .i64 0] t)).alloc (.cells C t1)) w1) : DSt w w1 C :=
  ⟨(two_newI hb).1, (two_newI hb).2.1, (two_newI hb).2.2⟩
theorem DSt.below {w W W' : World} {C : Array Value} (h : DSt w W C) (hb : Below W.heap.size W W') : DSt w W' C :=
  ⟨h.q0.below hb h.q0.lt, h.q1.below hb h.q1.lt, h.bel.trans (hb.mono h.bel.size)⟩
theorem DSt.set {w W : World} {C : Array Value} (h : DSt w W C) (i : Nat) (u : Value) : DSt w (W.setCell ⟨w.heap.size + 1, i, none⟩ u) (C.setIfInBounds i u) :=
  ⟨h.q0.other (by simp) _, h.q1.set i u, h.bel.setCell (p := ⟨w.heap.size + 1, i, none⟩) (by simp) _⟩
set_option maxRecDepth 100000 in
set_option maxHeartbeats 1000000 in
theorem dec0_spec (x y : Int) (w : World) (hx0 : 0 ≤ x) (hx1 : x ≤ 255) (hy0 : 0 ≤ y) (hy1 : y ≤ 255) :
    Calls Tryz.prog 55 #[.int .i64 x, .int .i64 y] w fun e w' => e = .returned (dcdV x y) ∧ Below w.heap.size w w' := by
  by_cases h23 : 23 ≤ x / 8
  · have e : dcdV x y = insV 23 0 0 x 1 := by unfold dcdV decO decA decB decN decL; rw [if_pos h23, if_pos h23, if_pos h23, if_pos h23, if_pos h23]
    rw [e]
    clear e
    go_enter Tryz.func55, Tryz.ntmps55
    go_wp2
    refine bodyPost_ret (v := insV 23 0 0 x 1) (by simp [results, Tryz.results55, go_sem]) rfl ⟨rfl, ?_⟩
    exact (Below.refl _ _).alloc (Nat.le_refl _) _
  obtain ⟨o, ho⟩ : ∃ o : Nat, x / 8 = (o : Int) := ⟨(x / 8).toNat, by omega⟩
  obtain ⟨r, hr⟩ : ∃ o : Int, x % 8 = o := ⟨_, rfl⟩
  obtain ⟨t, ht⟩ : ∃ o : Int, y % 8 = o := ⟨_, rfl⟩
  have ho1 : o < 23 := by omega
  have e : dcdV x y = insV (o : Int) (if hasC o 65 = true then r else 0) (if hasC o 66 = true then t else 0) (if hasC o 78 = true then y else 0) (1 + bitI (hasC o 66 || hasC o 78)) := by
    unfold dcdV decO decA decB decN decL
    rw [if_neg h23, if_neg h23, if_neg h23, if_neg h23, if_neg h23, ho, hr, ht, Int.toNat_natCast]
  rw [e]
  clear e
  have ho2 : (23 ≤ (o : Int)) = False := by simp; omega
  obtain ⟨pA, hpA⟩ : ∃ x, hasC o 65 = x := ⟨_, rfl⟩
  obtain ⟨pB, hpB⟩ : ∃ x, hasC o 66 = x := ⟨_, rfl⟩
  obtain ⟨pN, hpN⟩ : ∃ x, hasC o 78 = x := ⟨_, rfl⟩
  rw [hpA, hpB, hpN]
  replace hpA := hid hpA
  replace hpB := hid hpB
  replace hpN := hid hpN
  clear h23
  go_enter Tryz.func55, Tryz.ntmps55
  go_wp2_with fail
  refine (has_spec o 65 _ ho1).mono ?_
  rintro e v1 ⟨rfl, hb1⟩
  rw [hpA.out]
  have S1 := hid (DSt.start hb1)
  have x1 := S1.out.q1.cell
  have f1 := S1.out.q1.frozen
  have z1 := S1.out.q1.lt
  clear hb1
  cases pA
  · skip
    go_wp2_with fail
    clear x1 f1 z1
    refine (has_spec o 66 _ ho1).mono ?_
    rintro e v2 ⟨rfl, hb2⟩
    rw [hpB.out]
    have S2 := hid (S1.out.below hb2)
    have x2 := S2.out.q1.cell
    have f2 := S2.out.q1.frozen
    have z2 := S2.out.q1.lt
    clear hb2 S1
    cases pB
    · skip
      go_wp2_with fail
      clear x2 f2 z2
      refine (has_spec o 78 _ ho1).mono ?_
      rintro e v3 ⟨rfl, hb3⟩
      rw [hpN.out]
      have S3 := hid (S2.out.below hb3)
      have x3 := S3.out.q1.cell
      have f3 := S3.out.q1.frozen
      have z3 := S3.out.q1.lt
      clear hb3 S2
      cases pN
      · skip
        have x0 := S3.out.q0.cell
        have f0 := S3.out.q0.frozen
        have hz0 := S3.out.q0.lt
        go_wp2
        refine bodyPost_ret (v := insV (o : Int) 0 0 0 1) (by simp [results, Tryz.results55, go_sem, x0]) rfl ⟨rfl, ?_⟩
        iterate 5 refine Below.setCell ?_ (by first | omega | (simp; done) | (simp; omega)) _
        exact S3.out.bel
      · skip
        have T3 : Hid (DSt w ((v3.setCell ⟨w.heap.size + 1, 3, none⟩ (.int .i64 y)).setCell ⟨w.heap.size + 1, 4, none⟩ (.int .i64 2)) #[.int .i64 (o : Int), .int .i64 0, .int .i64 0, .int .i64 y, .int .i64 2]) := ((S3.out.set 3 (.int .i64 y)).set 4 (.int .i64 2))
        obtain ⟨W3, hW3⟩ : ∃ W3, ((v3.setCell ⟨w.heap.size + 1, 3, none⟩ (.int .i64 y)).setCell ⟨w.heap.size + 1, 4, none⟩ (.int .i64 2)) = W3 := ⟨_, rfl⟩
        rw [hW3] at T3
        have x0 := T3.out.q0.cell
        have f0 := T3.out.q0.frozen
        have hz0 := T3.out.q0.lt
        have y0 := T3.out.q1.cell
        go_wp2
        refine bodyPost_ret (v := insV (o : Int) 0 0 y 2) (by simp [results, Tryz.results55, go_sem, x0]) rfl ⟨rfl, ?_⟩
        iterate 5 refine Below.setCell ?_ (by first | omega | (simp; done) | (simp; omega)) _
        exact T3.out.bel
    · skip
      have T2 : Hid (DSt w ((v2.setCell ⟨w.heap.size + 1, 2, none⟩ (.int .i64 t)).setCell ⟨w.heap.size + 1, 4, none⟩ (.int .i64 2)) #[.int .i64 (o : Int), .int .i64 0, .int .i64 t, .int .i64 0, .int .i64 2]) := ((S2.out.set 2 (.int .i64 t)).set 4 (.int .i64 2))
      obtain ⟨W2, hW2⟩ : ∃ W2, ((v2.setCell ⟨w.heap.size + 1, 2, none⟩ (.int .i64 t)).setCell ⟨w.heap.size + 1, 4, none⟩ (.int .i64 2)) = W2 := ⟨_, rfl⟩
      rw [hW2] at T2
      go_wp2_with fail
      clear hW2 x2 f2 z2 S2
      refine (has_spec o 78 _ ho1).mono ?_
      rintro e v4 ⟨rfl, hb4⟩
      rw [hpN.out]
      have S4 := hid (T2.out.below hb4)
      have x4 := S4.out.q1.cell
      have f4 := S4.out.q1.frozen
      have z4 := S4.out.q1.lt
      clear hb4 T2
      cases pN
      · skip
        have x0 := S4.out.q0.cell
        have f0 := S4.out.q0.frozen
        have hz0 := S4.out.q0.lt
        go_wp2
        refine bodyPost_ret (v := insV (o : Int) 0 t 0 2) (by simp [results, Tryz.results55, go_sem, x0]) rfl ⟨rfl, ?_⟩
        iterate 5 refine Below.setCell ?_ (by first | omega | (simp; done) | (simp; omega)) _
        exact S4.out.bel
      · skip
        have T4 : Hid (DSt w ((v4.setCell ⟨w.heap.size + 1, 3, none⟩ (.int .i64 y)).setCell ⟨w.heap.size + 1, 4, none⟩ (.int .i64 2)) #[.int .i64 (o : Int), .int .i64 0, .int .i64 t, .int .i64 y, .int .i64 2]) := ((S4.out.set 3 (.int .i64 y)).set 4 (.int .i64 2))
        obtain ⟨W4, hW4⟩ : ∃ W4, ((v4.setCell ⟨w.heap.size + 1, 3, none⟩ (.int .i64 y)).setCell ⟨w.heap.size + 1, 4, none⟩ (.int .i64 2)) = W4 := ⟨_, rfl⟩
        rw [hW4] at T4
        have x0 := T4.out.q0.cell
        have f0 := T4.out.q0.frozen
        have hz0 := T4.out.q0.lt
        have y0 := T4.out.q1.cell
        go_wp2
        refine bodyPost_ret (v := insV (o : Int) 0 t y 2) (by simp [results, Tryz.results55, go_sem, x0]) rfl ⟨rfl, ?_⟩
        iterate 5 refine Below.setCell ?_ (by first | omega | (simp; done) | (simp; omega)) _
        exact T4.out.bel
  · skip
    have T1 : Hid (DSt w (v1.setCell ⟨w.heap.size + 1, 1, none⟩ (.int .i64 r)) #[.int .i64 (o : Int), .int .i64 r, .int .i64 0, .int .i64 0, .int .i64 1]) := (S1.out.set 1 (.int .i64 r))
    obtain ⟨W1, hW1⟩ : ∃ W1, (v1.setCell ⟨w.heap.size + 1, 1, none⟩ (.int .i64 r)) = W1 := ⟨_, rfl⟩
    rw [hW1] at T1
    go_wp2_with fail
    clear hW1 x1 f1 z1 S1
    refine (has_spec o 66 _ ho1).mono ?_
    rintro e v5 ⟨rfl, hb5⟩
    rw [hpB.out]
    have S5 := hid (T1.out.below hb5)
    have x5 := S5.out.q1.cell
    have f5 := S5.out.q1.frozen
    have z5 := S5.out.q1.lt
    clear hb5 T1
    cases pB
    · skip
      go_wp2_with fail
      clear x5 f5 z5
      refine (has_spec o 78 _ ho1).mono ?_
      rintro e v6 ⟨rfl, hb6⟩
      rw [hpN.out]
      have S6 := hid (S5.out.below hb6)
      have x6 := S6.out.q1.cell
      have f6 := S6.out.q1.frozen
      have z6 := S6.out.q1.lt
      clear hb6 S5
      cases pN
      · skip
        have x0 := S6.out.q0.cell
        have f0 := S6.out.q0.frozen
        have hz0 := S6.out.q0.lt
        go_wp2
        refine bodyPost_ret (v := insV (o : Int) r 0 0 1) (by simp [results, Tryz.results55, go_sem, x0]) rfl ⟨rfl, ?_⟩
        iterate 5 refine Below.setCell ?_ (by first | omega | (simp; done) | (simp; omega)) _
        exact S6.out.bel
      · skip
        have T6 : Hid (DSt w ((v6.setCell ⟨w.heap.size + 1, 3, none⟩ (.int .i64 y)).setCell ⟨w.heap.size + 1, 4, none⟩ (.int .i64 2)) #[.int .i64 (o : Int), .int .i64 r, .int .i64 0, .int .i64 y, .int .i64 2]) := ((S6.out.set 3 (.int .i64 y)).set 4 (.int .i64 2))
        obtain ⟨W6, hW6⟩ : ∃ W6, ((v6.setCell ⟨w.heap.size + 1, 3, none⟩ (.int .i64 y)).setCell ⟨w.heap.size + 1, 4, none⟩ (.int .i64 2)) = W6 := ⟨_, rfl⟩
        rw [hW6] at T6
        have x0 := T6.out.q0.cell
        have f0 := T6.out.q0.frozen
        have hz0 := T6.out.q0.lt
        have y0 := T6.out.q1.cell
        go_wp2
        refine bodyPost_ret (v := insV (o : Int) r 0 y 2) (by simp [results, Tryz.results55, go_sem, x0]) rfl ⟨rfl, ?_⟩
        iterate 5 refine Below.setCell ?_ (by first | omega | (simp; done) | (simp; omega)) _
        exact T6.out.bel
    · skip
      have T5 : Hid (DSt w ((v5.setCell ⟨w.heap.size + 1, 2, none⟩ (.int .i64 t)).setCell ⟨w.heap.size + 1, 4, none⟩ (.int .i64 2)) #[.int .i64 (o : Int), .int .i64 r, .int .i64 t, .int .i64 0, .int .i64 2]) := ((S5.out.set 2 (.int .i64 t)).set 4 (.int .i64 2))
      obtain ⟨W5, hW5⟩ : ∃ W5, ((v5.setCell ⟨w.heap.size + 1, 2, none⟩ (.int .i64 t)).setCell ⟨w.heap.size + 1, 4, none⟩ (.int .i64 2)) = W5 := ⟨_, rfl⟩
      rw [hW5] at T5
      go_wp2_with fail
      clear hW5 x5 f5 z5 S5
      refine (has_spec o 78 _ ho1).mono ?_
      rintro e v7 ⟨rfl, hb7⟩
      rw [hpN.out]
      have S7 := hid (T5.out.below hb7)
      have x7 := S7.out.q1.cell
      have f7 := S7.out.q1.frozen
      have z7 := S7.out.q1.lt
      clear hb7 T5
      cases pN
      · skip
        have x0 := S7.out.q0.cell
        have f0 := S7.out.q0.frozen
        have hz0 := S7.out.q0.lt
        go_wp2
        refine bodyPost_ret (v := insV (o : Int) r t 0 2) (by simp [results, Tryz.results55, go_sem, x0]) rfl ⟨rfl, ?_⟩
        iterate 5 refine Below.setCell ?_ (by first | omega | (simp; done) | (simp; omega)) _
        exact S7.out.bel
      · skip
        have T7 : Hid (DSt w ((v7.setCell ⟨w.heap.size + 1, 3, none⟩ (.int .i64 y)).setCell ⟨w.heap.size + 1, 4, none⟩ (.int .i64 2)) #[.int .i64 (o : Int), .int .i64 r, .int .i64 t, .int .i64 y, .int .i64 2]) := ((S7.out.set 3 (.int .i64 y)).set 4 (.int .i64 2))
        obtain ⟨W7, hW7⟩ : ∃ W7, ((v7.setCell ⟨w.heap.size + 1, 3, none⟩ (.int .i64 y)).setCell ⟨w.heap.size + 1, 4, none⟩ (.int .i64 2)) = W7 := ⟨_, rfl⟩
        rw [hW7] at T7
        have x0 := T7.out.q0.cell
        have f0 := T7.out.q0.frozen
        have hz0 := T7.out.q0.lt
        have y0 := T7.out.q1.cell
        go_wp2
        refine bodyPost_ret (v := insV (o : Int) r t y 2) (by simp [results, Tryz.results55, go_sem, x0]) rfl ⟨rfl, ?_⟩
        iterate 5 refine Below.setCell ?_ (by first | omega | (simp; done) | (simp; omega)) _
        exact T7.out.bel
/-- the code that a list gets that is to be decoded -/
def decC (zs : List Int) : Int := if 4096 < zs.length then 2 else if zs.length = 2 then (if bytesB zs 2 = true then 0 else 4) else 8
def dec2 (zs : List Int) : Value := if decC zs = 0 then .tuple #[dcdV (zs.getD 0 0) (zs.getD 1 0), .int .i64 0] else .tuple #[insV 0 0 0 0 0, .int .i64 (decC zs)]
end Go.Proofs.YtgpmpfikeindfaaGreatDoor
