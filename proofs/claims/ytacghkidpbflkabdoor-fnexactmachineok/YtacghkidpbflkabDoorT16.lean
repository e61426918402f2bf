/- What the specification answers where an address lies, what is read there, and whether it is shared. -/
import Derived.Test.YtacghkidpbflkabDoorT03
import Derived.Test.YtacghkidpbflkabDoorT00
import Derived.Deep.RegionWith
import Derived.Deep.DeepCutAuto
import Derived.Deep.QuietTactic
import Derived.BigQuiet
import Derived.Deep.RegionHeld3
import Derived.Deep.RegionHeld2
namespace Go.Proofs.YtacghkidpbflkabDoor
open Go.ChangeShapes Go.WideShapes Go.ChangeAt Go.RowKit
set_option linter.unusedVariables false

def Fit (M : Mem) : Prop := M.rom.length ≤ 1000000000 ∧ M.ram.length ≤ 1000000000 ∧ ∀ i, i < M.ram.length → (M.ram.getD i []).length ≤ 1000000000
/-- the code that an address gets -/
def askM (M : Mem) (a : Int) : Int := if okM M = true then (if inB a 0 255 = true then 0 else 4) else 1
/-- the bank that an address shows, -1 of the ROM -/
def bankI (p a : Int) : Int := if a < 64 then -1 else if a < 128 then 1 else if a < 192 then 2 else p
def peekI (M : Mem) (a : Int) : Int := if a < 64 then M.rom.getD a.toNat 0 else (M.ram.getD (bankI M.page a).toNat []).getD (a % 64).toNat 0
def where3 (M : Mem) (a : Int) : Value := if askM M a = 0 then .tuple #[.int .i64 (bankI M.page a), .int .i64 (a % 64), .int .i64 0] else .tuple #[.int .i64 0, .int .i64 0, .int .i64 (askM M a)]
def peek2 (M : Mem) (a : Int) : Value := if askM M a = 0 then .tuple #[.int .i64 (peekI M a), .int .i64 0] else .tuple #[.int .i64 0, .int .i64 (askM M a)]
def shared2 (M : Mem) (a : Int) : Value := if askM M a = 0 then .tuple #[.bool (decide (bankI M.page a = 1 ∨ bankI M.page a = 3)), .int .i64 0] else .tuple #[.bool false, .int .i64 (askM M a)]
theorem ask_cases (M : Mem) (a : Int) : (askM M a = 0 ∧ okM M = true ∧ 0 ≤ a ∧ a ≤ 255) ∨ (askM M a ≠ 0 ∧ (askM M a == 0) = false) := by
  unfold askM
  split
  · split
    · rename_i h1 h2
      have : 0 ≤ a ∧ a ≤ 255 := by simpa [inB] using h2
      exact .inl ⟨rfl, h1, this⟩
    · exact .inr ⟨by decide, by decide⟩
  · exact .inr ⟨by decide, by decide⟩
theorem bank_bd {p a : Int} (hp : 0 ≤ p ∧ p ≤ 3) (ha : 64 ≤ a) : 0 ≤ bankI p a ∧ bankI p a ≤ 3 := by
  unfold bankI
  split
  · omega
  · split
    · omega
    · split <;> omega
theorem row_at {w : World} {a : Option Addr} {n cap : Nat} {zs : List Int} (h : RowR w (.slice a n cap) zs) {k : Nat} (hk : k < zs.length) :
    ∃ b off, a = some ⟨b, off, none⟩ ∧ w.cell? ⟨b, off + k, none⟩ = some (.int .i64 (zs.getD k 0)) ∧ b < w.heap.size := by
  obtain ⟨b, off, h1, h2⟩ := row_some h.disj hk
  exact ⟨b, off, h1, h2, World.block_lt_of_cell? w _ h2⟩
theorem rows_at {w : World} {a : Option Addr} {n cap : Nat} {zss : List (List Int)} (h : RowsR w (.slice a n cap) zss) {k : Nat} (hk : k < zss.length) :
    ∃ b off a' cap', a = some ⟨b, off, none⟩ ∧ w.cell? ⟨b, off + k, none⟩ = some (.slice a' (zss.getD k []).length cap') ∧ b < w.heap.size ∧ RowR w (.slice a' (zss.getD k []).length cap') (zss.getD k []) := by
  obtain ⟨b, off, a', cap', h1, h2, h3⟩ := rows_some h.disj hk
  exact ⟨b, off, a', cap', h1, h2, World.block_lt_of_cell? w _ h2, h3⟩

theorem bank_spec (a1 a2 : Option Addr) (n1 p1 n2 p2 : Nat) (pg sc : Int) (l : Bool) (a : Int) (w : World) (h0 : 0 ≤ a) (h1 : a ≤ 255) :
    Calls Tryd.prog 142 #[memV (.slice a1 n1 p1) (.slice a2 n2 p2) pg sc l, .int .i64 a] w fun e w' => e = .returned (.int .i64 (bankI pg a)) ∧ Below w.heap.size w w' := by
  have h4 : a / 64 = 0 ∨ a / 64 = 1 ∨ a / 64 = 2 ∨ a / 64 = 3 := by omega
  rcases h4 with h4 | h4 | h4 | h4
  · have e : bankI pg a = -1 := by unfold bankI; rw [if_pos (by omega)]
    rw [e]
    go_enter Tryd.func142, Tryd.ntmps142
    go_wp2
    go_ret
    exact ⟨rfl, ((Below.refl _ _).alloc (Nat.le_refl _) _).alloc (by simp) _⟩
  · have e : bankI pg a = 1 := by unfold bankI; rw [if_neg (by omega), if_pos (by omega)]
    rw [e]
    go_enter Tryd.func142, Tryd.ntmps142
    go_wp2
    go_ret
    exact ⟨rfl, ((Below.refl _ _).alloc (Nat.le_refl _) _).alloc (by simp) _⟩
  · have e : bankI pg a = 2 := by unfold bankI; rw [if_neg (by omega), if_neg (by omega), if_pos (by omega)]
    rw [e]
    go_enter Tryd.func142, Tryd.ntmps142
    go_wp2
    go_ret
    exact ⟨rfl, ((Below.refl _ _).alloc (Nat.le_refl _) _).alloc (by simp) _⟩
  · have e : bankI pg a = pg := by unfold bankI; rw [if_neg (by omega), if_neg (by omega), if_neg (by omega)]
    rw [e]
    go_enter Tryd.func142, Tryd.ntmps142
    go_wp2
    go_ret
    exact ⟨rfl, ((Below.refl _ _).alloc (Nat.le_refl _) _).alloc (by simp) _⟩
theorem peek0_spec (v : Value) (M : Mem) (a : Int) (w : World) (h : MemR w v M) (hk : okM M = true) (h0 : 0 ≤ a) (h1 : a ≤ 255) :
    Calls Tryd.prog 92 #[v, .int .i64 a] w fun e w' => e = .returned (.int .i64 (peekI M a)) ∧ Below w.heap.size w w' := by
  obtain ⟨hp1, hp2, hp3, _, hp5⟩ := ok_parts hk
  have hl := bytes_len hp1
  obtain ⟨a1, p1, a2, p2, rfl, r1, r2⟩ := h.form
  have hB : Hid (∀ o, Below w.heap.size w (w.alloc o)) := fun o => (Below.refl _ _).alloc (Nat.le_refl _) _
  clear h hk
  by_cases hlt : a < 64
  · have e : peekI M a = M.rom.getD a.toNat 0 := by unfold peekI; rw [if_pos hlt]
    have eb : bankI M.page a = -1 := by unfold bankI; rw [if_pos hlt]
    obtain ⟨b, off, rfl, c1, hb⟩ := row_at r1 (k := a.toNat) (by omega)
    rw [e]
    clear e r1 r2 hp1 hp5
    obtain ⟨k, hk⟩ : ∃ k : Nat, a = (k : Int) := ⟨a.toNat, by omega⟩
    subst hk
    simp only [Int.toNat_natCast] at c1 ⊢
    generalize M.rom.getD k 0 = z at *
    go_enter Tryd.func92, Tryd.ntmps92
    go_wp2_with fail
    refine (bank_spec _ a2 _ p1 _ p2 _ _ _ _ _ h0 h1).mono ?_
    rintro e w1 ⟨rfl, hb1⟩
    rw [eb]
    have hz := hb1.size
    simp only [World.size_alloc] at hz
    have hc := fun i => (bcell hb1).1 w.heap.size i (by simp)
    have c2 : w1.cell? ⟨b, off + k, none⟩ = some (.int .i64 z) := by rw [(bcell hb1).1 b _ (by simp; omega)]; rw [World.cell?_alloc_past _ _ _ hb]; exact c1
    replace hb1 := hid hb1
    clear c1
    go_wp2
    go_ret
    exact ⟨rfl, new_trans (hB.out _) hb1.out⟩
  · have hbb := bank_bd hp3 (a := a) (by omega)
    obtain ⟨j, hj⟩ : ∃ j : Nat, bankI M.page a = (j : Int) := ⟨(bankI M.page a).toNat, by omega⟩
    obtain ⟨q, hq⟩ : ∃ q : Nat, a % 64 = (q : Int) := ⟨(a % 64).toNat, by omega⟩
    have e : peekI M a = (M.ram.getD j []).getD q 0 := by unfold peekI; rw [if_neg hlt, hj, hq]; rfl
    have hj4 : j < M.ram.length := by omega
    have hrow := bytes_len (hp5 j hj4)
    obtain ⟨b, off, a3, p3, rfl, c1, hb, r3⟩ := rows_at r2 hj4
    obtain ⟨b3, off3, rfl, c3, hb3⟩ := row_at r3 (k := q) (by omega)
    rw [e]
    clear e r1 r2 r3 hp1 hp5
    generalize M.ram.getD j [] = zz at *
    generalize zz.getD q 0 = z at *
    have hjz : ((j : Int) < 0) = False := by simp
    go_enter Tryd.func92, Tryd.ntmps92
    go_wp2_with fail
    refine (bank_spec a1 _ _ p1 _ p2 _ _ _ _ _ h0 h1).mono ?_
    rintro e w1 ⟨rfl, hb1⟩
    rw [hj]
    have hz := hb1.size
    simp only [World.size_alloc] at hz
    have hc := fun i => (bcell hb1).1 w.heap.size i (by simp)
    have c2 : w1.cell? ⟨b, off + j, none⟩ = some (.slice (some ⟨b3, off3, none⟩) zz.length p3) := by rw [(bcell hb1).1 b _ (by simp; omega)]; rw [World.cell?_alloc_past _ _ _ hb]; exact c1
    have c4 : w1.cell? ⟨b3, off3 + q, none⟩ = some (.int .i64 z) := by rw [(bcell hb1).1 b3 _ (by simp; omega)]; rw [World.cell?_alloc_past _ _ _ hb3]; exact c3
    replace hb1 := hid hb1
    clear c1 c3
    go_wp2
    go_ret
    exact ⟨rfl, new_trans (hB.out _) hb1.out⟩
end Go.Proofs.YtacghkidpbflkabDoor

/- What the specification says of an instruction that is right: the forms of instructions, and InstrOK. -/
namespace Go.Proofs.YtacghkidpbflkabDoor
open Go.ChangeShapes Go.WideShapes Go.ChangeAt Go.RowKit
set_option linter.unusedVariables false
set_option linter.unusedSimpArgs false

abbrev insV (o a b n l : Int) : Value := .agg #[.int .i64 o, .int .i64 a, .int .i64 b, .int .i64 n, .int .i64 l]
abbrev insA (o a b n l : Int) : Array Value := #[.int .i64 o, .int .i64 a, .int .i64 b, .int .i64 n, .int .i64 l]
/-- what stands in an instruction's form: A, B, N -/
def formS : List ByteArray := [⟨#[]⟩, ⟨#[65, 66]⟩, ⟨#[65, 78]⟩, ⟨#[78]⟩, ⟨#[78]⟩, ⟨#[65, 66]⟩, ⟨#[65, 78]⟩, ⟨#[65]⟩, ⟨#[65]⟩, ⟨#[65, 66]⟩, ⟨#[65, 66]⟩, ⟨#[]⟩, ⟨#[65, 78]⟩, ⟨#[65, 78]⟩, ⟨#[65]⟩, ⟨#[65]⟩, ⟨#[65]⟩, ⟨#[78]⟩, ⟨#[78]⟩, ⟨#[]⟩, ⟨#[]⟩, ⟨#[]⟩, ⟨#[]⟩]
def formT (k : Nat) : ByteArray := formS.getD k ⟨#[]⟩
def hasC (k : Nat) (c : Int) : Bool := (List.range (formT k).size).any fun i => byt (formT k) i == c
def bitI (b : Bool) : Int := if b then 1 else 0
theorem bitI_bd (b : Bool) : 0 ≤ bitI b ∧ bitI b ≤ 1 := by cases b <;> decide
theorem form_at (k : Nat) (hk : k < 23) : (formS.map Value.string)[k]'(by simpa [formS] using hk) = .string (formT k) := by
  rw [List.getElem_map]
  unfold formT
  rw [List.getD_eq_getElem?_getD, List.getElem?_eq_getElem (by simpa [formS] using hk)]
  rfl
theorem hasC_no {k j : Nat} {c : Int} (h : ∀ i, i < (formT k).size → (byt (formT k) i == c) = false) : hasC k c = false := by
  unfold hasC
  rw [List.any_eq_false]
  intro i hi
  rw [h i (List.mem_range.1 hi)]
  simp
theorem hasC_yes {k i : Nat} {c : Int} (hi : i < (formT k).size) (h : (byt (formT k) i == c) = true) : hasC k c = true := by
  unfold hasC
  rw [List.any_eq_true]
  exact ⟨i, List.mem_range.2 hi, h⟩
theorem formT_size (k : Nat) (hk : k < 23) : (formT k).size ≤ 2 := by
  have h : ∀ k, k < 23 → (formT k).size ≤ 2 := by decide +kernel
  exact h k hk
set_option maxRecDepth 100000 in
theorem form_spec (k : Nat) (w : World) (hk : k < 23) :
    Calls Tryd.prog 172 #[.int .i64 (k : Int)] w fun e w' => e = .returned (.string (formT k)) ∧ Below w.heap.size w w' := by
  have hs := hid (form_at k hk)
  go_enter Tryd.func172, Tryd.ntmps172
  go_wp2
  go_ret
  exact ⟨congrArg Ending.returned hs.out, (Below.refl _ _).alloc (Nat.le_refl _) _⟩
theorem has_spec (k : Nat) (c : Int) (w : World) (hk : k < 23) :
    Calls Tryd.prog 141 #[.int .i64 (k : Int), .int .u8 c] w fun e w' => e = .returned (.bool (hasC k c)) ∧ Below w.heap.size w w' := by
  have hno : Hid ((∀ i, i < (formT k).size → (byt (formT k) i == c) = false) → hasC k c = false) := hasC_no (j := 0)
  have hyes : Hid (∀ i, i < (formT k).size → (byt (formT k) i == c) = true → hasC k c = true) := fun i => hasC_yes
  have hsz := formT_size k hk
  obtain ⟨s, hs⟩ : ∃ s, formT k = s := ⟨_, rfl⟩
  rw [hs] at hno hyes hsz
  replace hs := hid hs
  go_enter Tryd.func141, Tryd.ntmps141
  go_wp2_with fail
  refine (form_spec k _ hk).mono ?_
  rintro e w1 ⟨rfl, hb1⟩
  rw [hs.out]
  replace hb1 := hid hb1
  go_wp2
  go_loop [6] (fun i => ∃ j : Nat, j ≤ s.size ∧ i = .int .i64 j ∧ ∀ i, i < j → (byt s i == c) = false) (fun i => s.size - (intOf i).toNat)
  case atStart => exact ⟨0, by omega, rfl, fun i hi => by omega⟩
  case round =>
    obtain ⟨j, hj, rfl, hn⟩ := hrel
    by_cases hlt : j < s.size
    · have hid1 := run_idx s (j : Int) j rfl hlt
      cases hz : (byt s j == c)
      · have hn2 : Hid (∀ i, i < j + 1 → (byt s i == c) = false) := fun i hi => by
          by_cases e : i = j
          · rw [e]; exact hz
          · exact hn i (by omega)
        clear hn hno hyes
        generalize byt s j = z at *
        go_wp2
        go_round
        case rel => exact ⟨j + 1, by omega, by go_num, hn2.out⟩
        case measure => simp [intOf]; omega
      · have hE := hid (hyes.out j hlt hz)
        clear hn hno hyes
        generalize byt s j = z at *
        go_wp2
        go_ret
        exact ⟨ret_bool hE.out.symm, hb1.out⟩
    · obtain rfl : j = s.size := by omega
      have hE := hid (hno.out hn)
      clear hn hno hyes
      go_wp2
      go_ret
      exact ⟨ret_bool hE.out.symm, hb1.out⟩
theorem bitI_spec (b : Bool) (w : World) : Calls Tryd.prog 165 #[.bool b] w fun e w' => e = .returned (.int .i64 (bitI b)) ∧ w' = w := by
  cases b
  all_goals
    go_enter Tryd.func165, Tryd.ntmps165
    go_wp2
    go_ret
    exact ⟨rfl, rfl⟩
theorem belD (n : Nat) (w : World) (m : Nat) : Below n w (w.drewN m) := ⟨rfl, rfl, rfl, Nat.le_refl _, fun _ _ => rfl⟩
theorem cell_kept {W W' : World} {b i : Nat} {v : Value} (hb : Below W.heap.size W W') (h : W.cell? ⟨b, i, none⟩ = some v) : W'.cell? ⟨b, i, none⟩ = some v := by
  rw [hb.cell (p := ⟨b, i, none⟩) (World.block_lt_of_cell? W _ h)]
  exact h
/-- an instruction that is right -/
def okI (o a b n l : Int) : Bool :=
  if o = 23 then (decide (a = 0) && decide (b = 0) && inB n 184 255 && decide (l = 1))
  else inB o 0 22 && (inB a 0 (7 * bitI (hasC o.toNat 65)) && inB b 0 (7 * bitI (hasC o.toNat 66)) && inB n 0 (255 * bitI (hasC o.toNat 78)) && decide (l = 1 + bitI (hasC o.toNat 66 || hasC o.toNat 78)))
end Go.Proofs.YtacghkidpbflkabDoor
