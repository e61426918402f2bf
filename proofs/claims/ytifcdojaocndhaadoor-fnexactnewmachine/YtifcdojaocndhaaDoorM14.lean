/- What the specification answers where an address lies, what is read there, and whether it is shared. -/
import Derived.Test.YtifcdojaocndhaaDoorM02
import Derived.Test.YtifcdojaocndhaaDoorM00
import Derived.Deep.RegionWith
import Derived.Deep.DeepCutAuto
import Derived.Deep.QuietTactic
import Derived.BigQuiet
import Derived.Deep.RegionHeld3
import Derived.Deep.RegionHeld2
import Derived.Deep.AppendLies
import Derived.OwnWalk
namespace Go.Proofs.YtifcdojaocndhaaDoor
open Go.ChangeShapes Go.WideShapes Go.ChangeAt Go.RowKit
set_option linter.unusedVariables false

def Fit (M : Mem) : Prop := M.rom.length ≤ 1000000000 ∧ M.ram.length ≤ 1000000000 ∧ ∀ i, i < M.ram.length → (M.ram.getD i []).length ≤ 1000000000
/-- the code that an address gets -/
def askM (M : Mem) (a : Int) : Int := if okM M = true then (if inB a 0 255 = true then 0 else 4) else 1
/-- the bank that an address shows, -1 of the ROM -/
def bankI (p a : Int) : Int := if a < 64 then -1 else if a < 128 then 1 else if a < 192 then 2 else p
def peekI (M : Mem) (a : Int) : Int := if a < 64 then M.rom.getD a.toNat 0 else (M.ram.getD (bankI M.page a).toNat []).getD (a % 64).toNat 0
def where3 (M : Mem) (a : Int) : Value := if askM M a = 0 then .tuple #[.int .i64 (bankI M.page a), .int .i64 (a % 64), .int .i64 0] else .tuple #[.int .i64 0, .int .i64 0, .int .i64 (askM M a)]
def peek2 (M : Mem) (a : Int) : Value := if askM M a = 0 then .tuple #[.int .i64 (peekI M a), .int .i64 0] else .tuple #[.int .i64 0, .int .i64 (askM M a)]
def shared2 (M : Mem) (a : Int) : Value := if askM M a = 0 then .tuple #[.bool (decide (bankI M.page a = 1 ∨ bankI M.page a = 3)), .int .i64 0] else .tuple #[.bool false, .int .i64 (askM M a)]
theorem ask_cases (M : Mem) (a : Int) : (askM M a = 0 ∧ okM M = true ∧ 0 ≤ a ∧ a ≤ 255) ∨ (askM M a ≠ 0 ∧ (askM M a == 0) = false) := by
  unfold askM
  split
  · split
    · rename_i h1 h2
      have : 0 ≤ a ∧ a ≤ 255 := by simpa [inB] using h2
      exact .inl ⟨rfl, h1, this⟩
    · exact .inr ⟨by decide, by decide⟩
  · exact .inr ⟨by decide, by decide⟩
theorem bank_bd {p a : Int} (hp : 0 ≤ p ∧ p ≤ 3) (ha : 64 ≤ a) : 0 ≤ bankI p a ∧ bankI p a ≤ 3 := by
  unfold bankI
  split
  · omega
  · split
    · omega
    · split <;> omega
theorem row_at {w : World} {a : Option Addr} {n cap : Nat} {zs : List Int} (h : RowR w (.slice a n cap) zs) {k : Nat} (hk : k < zs.length) :
    ∃ b off, a = some ⟨b, off, none⟩ ∧ w.cell? ⟨b, off + k, none⟩ = some (.int .i64 (zs.getD k 0)) ∧ b < w.heap.size := by
  obtain ⟨b, off, h1, h2⟩ := row_some h.disj hk
  exact ⟨b, off, h1, h2, World.block_lt_of_cell? w _ h2⟩
theorem rows_at {w : World} {a : Option Addr} {n cap : Nat} {zss : List (List Int)} (h : RowsR w (.slice a n cap) zss) {k : Nat} (hk : k < zss.length) :
    ∃ b off a' cap', a = some ⟨b, off, none⟩ ∧ w.cell? ⟨b, off + k, none⟩ = some (.slice a' (zss.getD k []).length cap') ∧ b < w.heap.size ∧ RowR w (.slice a' (zss.getD k []).length cap') (zss.getD k []) := by
  obtain ⟨b, off, a', cap', h1, h2, h3⟩ := rows_some h.disj hk
  exact ⟨b, off, a', cap', h1, h2, World.block_lt_of_cell? w _ h2, h3⟩

theorem bank_spec (a1 a2 : Option Addr) (n1 p1 n2 p2 : Nat) (pg sc : Int) (l : Bool) (a : Int) (w : World) (h0 : 0 ≤ a) (h1 : a ≤ 255) :
    Calls Tryd.prog 166 #[memV (.slice a1 n1 p1) (.slice a2 n2 p2) pg sc l, .int .i64 a] w fun e w' => e = .returned (.int .i64 (bankI pg a)) ∧ Below w.heap.size w w' := by
  have h4 : a / 64 = 0 ∨ a / 64 = 1 ∨ a / 64 = 2 ∨ a / 64 = 3 := by omega
  rcases h4 with h4 | h4 | h4 | h4
  · have e : bankI pg a = -1 := by unfold bankI; rw [if_pos (by omega)]
    rw [e]
    go_enter Tryd.func166, Tryd.ntmps166
    go_wp2
    go_ret
    exact ⟨rfl, ((Below.refl _ _).alloc (Nat.le_refl _) _).alloc (by simp) _⟩
  · have e : bankI pg a = 1 := by unfold bankI; rw [if_neg (by omega), if_pos (by omega)]
    rw [e]
    go_enter Tryd.func166, Tryd.ntmps166
    go_wp2
    go_ret
    exact ⟨rfl, ((Below.refl _ _).alloc (Nat.le_refl _) _).alloc (by simp) _⟩
  · have e : bankI pg a = 2 := by unfold bankI; rw [if_neg (by omega), if_neg (by omega), if_pos (by omega)]
    rw [e]
    go_enter Tryd.func166, Tryd.ntmps166
    go_wp2
    go_ret
    exact ⟨rfl, ((Below.refl _ _).alloc (Nat.le_refl _) _).alloc (by simp) _⟩
  · have e : bankI pg a = pg := by unfold bankI; rw [if_neg (by omega), if_neg (by omega), if_neg (by omega)]
    rw [e]
    go_enter Tryd.func166, Tryd.ntmps166
    go_wp2
    go_ret
    exact ⟨rfl, ((Below.refl _ _).alloc (Nat.le_refl _) _).alloc (by simp) _⟩
end Go.Proofs.YtifcdojaocndhaaDoor

/- What the specification says of an instruction that is right: the forms of instructions, and InstrOK. -/
namespace Go.Proofs.YtifcdojaocndhaaDoor
open Go.ChangeShapes Go.WideShapes Go.ChangeAt Go.RowKit
set_option linter.unusedVariables false
set_option linter.unusedSimpArgs false

abbrev insV (o a b n l : Int) : Value := .agg #[.int .i64 o, .int .i64 a, .int .i64 b, .int .i64 n, .int .i64 l]
abbrev insA (o a b n l : Int) : Array Value := #[.int .i64 o, .int .i64 a, .int .i64 b, .int .i64 n, .int .i64 l]
/-- what stands in an instruction's form: A, B, N -/
def formS : List ByteArray := [⟨#[]⟩, ⟨#[65, 66]⟩, ⟨#[65, 78]⟩, ⟨#[78]⟩, ⟨#[78]⟩, ⟨#[65, 66]⟩, ⟨#[65, 78]⟩, ⟨#[65]⟩, ⟨#[65]⟩, ⟨#[65, 66]⟩, ⟨#[65, 66]⟩, ⟨#[]⟩, ⟨#[65, 78]⟩, ⟨#[65, 78]⟩, ⟨#[65]⟩, ⟨#[65]⟩, ⟨#[65]⟩, ⟨#[78]⟩, ⟨#[78]⟩, ⟨#[]⟩, ⟨#[]⟩, ⟨#[]⟩, ⟨#[]⟩]
def formT (k : Nat) : ByteArray := formS.getD k ⟨#[]⟩
def hasC (k : Nat) (c : Int) : Bool := (List.range (formT k).size).any fun i => byt (formT k) i == c
def bitI (b : Bool) : Int := if b then 1 else 0
theorem bitI_bd (b : Bool) : 0 ≤ bitI b ∧ bitI b ≤ 1 := by cases b <;> decide
theorem form_at (k : Nat) (hk : k < 23) : (formS.map Value.string)[k]'(by simpa [formS] using hk) = .string (formT k) := by
  rw [List.getElem_map]
  unfold formT
  rw [List.getD_eq_getElem?_getD, List.getElem?_eq_getElem (by simpa [formS] using hk)]
  rfl
theorem hasC_no {k j : Nat} {c : Int} (h : ∀ i, i < (formT k).size → (byt (formT k) i == c) = false) : hasC k c = false := by
  unfold hasC
  rw [List.any_eq_false]
  intro i hi
  rw [h i (List.mem_range.1 hi)]
  simp
theorem hasC_yes {k i : Nat} {c : Int} (hi : i < (formT k).size) (h : (byt (formT k) i == c) = true) : hasC k c = true := by
  unfold hasC
  rw [List.any_eq_true]
  exact ⟨i, List.mem_range.2 hi, h⟩
theorem formT_size (k : Nat) (hk : k < 23) : (formT k).size ≤ 2 := by
  have h : ∀ k, k < 23 → (formT k).size ≤ 2 := by decide +kernel
  exact h k hk
theorem bitI_spec (b : Bool) (w : World) : Calls Tryd.prog 151 #[.bool b] w fun e w' => e = .returned (.int .i64 (bitI b)) ∧ w' = w := by
  cases b
  all_goals
    go_enter Tryd.func151, Tryd.ntmps151
    go_wp2
    go_ret
    exact ⟨rfl, rfl⟩
theorem belD (n : Nat) (w : World) (m : Nat) : Below n w (w.drewN m) := ⟨rfl, rfl, rfl, Nat.le_refl _, fun _ _ => rfl⟩
theorem cell_kept {W W' : World} {b i : Nat} {v : Value} (hb : Below W.heap.size W W') (h : W.cell? ⟨b, i, none⟩ = some v) : W'.cell? ⟨b, i, none⟩ = some v := by
  rw [hb.cell (p := ⟨b, i, none⟩) (World.block_lt_of_cell? W _ h)]
  exact h
/-- an instruction that is right -/
def okI (o a b n l : Int) : Bool :=
  if o = 23 then (decide (a = 0) && decide (b = 0) && inB n 184 255 && decide (l = 1))
  else inB o 0 22 && (inB a 0 (7 * bitI (hasC o.toNat 65)) && inB b 0 (7 * bitI (hasC o.toNat 66)) && inB n 0 (255 * bitI (hasC o.toNat 78)) && decide (l = 1 + bitI (hasC o.toNat 66 || hasC o.toNat 78)))
end Go.Proofs.YtifcdojaocndhaaDoor

/- What the specification decodes. -/
namespace Go.Proofs.YtifcdojaocndhaaDoor
open Go.ChangeShapes Go.WideShapes Go.ChangeAt Go.RowKit
set_option linter.unusedVariables false
set_option linter.unusedSimpArgs false

/-- the numbers of the instruction that two bytes are -/
def decO (x : Int) : Int := if 23 ≤ x / 8 then 23 else x / 8
def decA (x : Int) : Int := if 23 ≤ x / 8 then 0 else if hasC (x / 8).toNat 65 = true then x % 8 else 0
def decB (x y : Int) : Int := if 23 ≤ x / 8 then 0 else if hasC (x / 8).toNat 66 = true then y % 8 else 0
def decN (x y : Int) : Int := if 23 ≤ x / 8 then x else if hasC (x / 8).toNat 78 = true then y else 0
def decL (x : Int) : Int := if 23 ≤ x / 8 then 1 else 1 + bitI (hasC (x / 8).toNat 66 || hasC (x / 8).toNat 78)
abbrev dcdV (x y : Int) : Value := insV (decO x) (decA x) (decB x y) (decN x y) (decL x)
/-- while an instruction is being decoded -/
structure DSt (w W : World) (C : Array Value) : Prop where
  q0 : Blk W w.heap.size #[.int .i64 0, .int .i64 0, .int .i64 0, .int .i64 0, .int .i64 0]
  q1 : Blk W (w.heap.size + 1) C
  bel : Below w.heap.size w W
theorem two_newI {w w1 : World} {A0 A1 : Array Value} {t t1 : TypeId} (hb : Below ((w.alloc (.cells A0 t)).alloc (.cells A1 t1)).heap.size ((w.alloc (.cells A0 t)).alloc (.cells A1 t1)) w1) :
    Blk w1 w.heap.size A0 ∧ Blk w1 (w.heap.size + 1) A1 ∧ Below w.heap.size w w1 := by
  have hs : ((w.alloc (.cells A0 t)).alloc (.cells A1 t1)).heap.size = w.heap.size + 1 + 1 := by simp
  have q1 := Blk.new (w.alloc (.cells A0 t)) A1 t1
  simp only [World.size_alloc] at q1
  refine ⟨((Blk.new w A0 t).alloc _).below hb (by omega), q1.below hb (by omega), ?_⟩
  exact (((Below.refl _ _).alloc (Nat.le_refl _) _).alloc (by simp) _).trans (hb.mono (by omega))
theorem DSt.start {w w1 : World} {C : Array Value} {t t1 : TypeId} (hb : Below ((w.alloc (.cells #[.int .i64 0, .int .i64 0, .int .i64 0, .int .i64 0, .int .i64 0] t)).alloc (.cells C t1)).heap.size ((w.alloc (.cells #[.int .i64 0, .int .i64 0, .int .i64 0, .int .i64 0, .int .i64 0] t)).alloc (.cells C t1)) w1) : DSt w w1 C :=
  ⟨(two_newI hb).1, (two_newI hb).2.1, (two_newI hb).2.2⟩
theorem DSt.below {w W W' : World} {C : Array Value} (h : DSt w W C) (hb : Below W.heap.size W W') : DSt w W' C :=
  ⟨h.q0.below hb h.q0.lt, h.q1.below hb h.q1.lt, h.bel.trans (hb.mono h.bel.size)⟩
theorem DSt.set {w W : World} {C : Array Value} (h : DSt w W C) (i : Nat) (u : Value) : DSt w (W.setCell ⟨w.heap.size + 1, i, none⟩ u) (C.setIfInBounds i u) :=
  ⟨h.q0.other (by simp) _, h.q1.set i u, h.bel.setCell (p := ⟨w.heap.size + 1, i, none⟩) (by simp) _⟩
/-- the code that a list gets that is to be decoded -/
def decC (zs : List Int) : Int := if 4096 < zs.length then 2 else if zs.length = 2 then (if bytesB zs 2 = true then 0 else 4) else 8
def dec2 (zs : List Int) : Value := if decC zs = 0 then .tuple #[dcdV (zs.getD 0 0) (zs.getD 1 0), .int .i64 0] else .tuple #[insV 0 0 0 0 0, .int .i64 (decC zs)]
end Go.Proofs.YtifcdojaocndhaaDoor

/- What the exact laws' copies of rows of rows and of memories answer, and their helpers over memories. -/
namespace Go.Proofs.YtifcdojaocndhaaDoor
open Go.ChangeShapes Go.WideShapes Go.ChangeAt Go.RowKit
set_option linter.unusedVariables false

/-- the first k rows are copied into blocks of their own, the outer slice standing at the end of w's heap -/
def Built (w wr : World) (zss : List (List Int)) (k : Nat) : Prop :=
  ∃ (c : Array Value) (t : TypeId) (G : Nat → Nat) (V : Nat → Value), wr.heap[w.heap.size]? = some (.cells c t (0, 0)) ∧ c.size = zss.length ∧
    (∀ i, i < k → c[i]? = some (V i) ∧ RowO wr (G i) (V i) (zss.getD i []) ∧ w.heap.size < G i ∧ G i < wr.heap.size) ∧ ∀ i j, i < k → j < k → G i = G j → i = j
theorem Built.lt {w wr : World} {zss : List (List Int)} {k : Nat} (h : Built w wr zss k) : w.heap.size < wr.heap.size := by
  obtain ⟨c, t, G, V, h1, _⟩ := h
  exact (Array.getElem?_eq_some_iff.1 h1).1
theorem Built.cell {w wr : World} {zss : List (List Int)} {k : Nat} (h : Built w wr zss k) {i : Nat} (hi : i < zss.length) : (∃ u, wr.cell? ⟨w.heap.size, i, none⟩ = some u) ∧ wr.frozen? ⟨w.heap.size, i, none⟩ = false := by
  obtain ⟨c, t, G, V, h1, h2, _⟩ := h
  have h3 : i < c.size := by omega
  exact ⟨⟨c[i], by simp [World.cell?, h1, h3]⟩, by simp [World.frozen?, h1]⟩
theorem Built.step {w wr w1 : World} {zss : List (List Int)} {k : Nat} {u : Value} (h : Built w wr zss k) (hk : k < zss.length) (hr : RowO w1 wr.heap.size u (zss.getD k [])) (hb : Below wr.heap.size wr w1) :
    Built w (w1.setCell ⟨w.heap.size, k, none⟩ u) zss (k + 1) := by
  have hl := h.lt
  obtain ⟨c, t, G, V, h1, h2, h3, h4⟩ := h
  have h1' : w1.heap[w.heap.size]? = some (.cells c t (0, 0)) := (hb.block _ hl).trans h1
  have hs : (w1.setCell ⟨w.heap.size, k, none⟩ u).heap.size = w1.heap.size := by simp [World.setCell]
  have hlt := hr.lt
  refine ⟨c.setIfInBounds k u, t, fun i => if i = k then wr.heap.size else G i, fun i => if i = k then u else V i, heap_setCell_same' _ _ _ _ _ _ h1', by simpa using h2, fun i hi => ?_, fun i j hi hj e => ?_⟩
  · by_cases e : i = k
    · subst e
      simp only [if_true, hs]
      refine ⟨by rw [Array.getElem?_setIfInBounds]; simp; omega, hr.kept (Below.heap_setCell _ _ _ _ (by simp; omega)), hl, hlt⟩
    · simp only [if_neg e, hs]
      obtain ⟨k1, k2, k3, k4⟩ := h3 i (by omega)
      refine ⟨by rw [Array.getElem?_setIfInBounds, if_neg (fun h => e h.symm)]; exact k1, k2.kept ((Below.heap_setCell _ _ _ _ (by simp; omega)).trans (hb.block _ k4)), k3, by have := hb.size; omega⟩
  · by_cases e1 : i = k
    · by_cases e2 : j = k
      · rw [e1, e2]
      · simp only [if_pos e1, if_neg e2] at e
        have := (h3 j (by omega)).2.2.2
        omega
    · by_cases e2 : j = k
      · simp only [if_neg e1, if_pos e2] at e
        have := (h3 i (by omega)).2.2.2
        omega
      · simp only [if_neg e1, if_neg e2] at e
        exact h4 i j (by omega) (by omega) e
/-- rows of rows in blocks of their own, from lo up to the heap's end -/
def RowsN (w : World) (lo : Nat) (v : Value) (zss : List (List Int)) : Prop :=
  ∃ s G, RowsO w s G v zss ∧ (lo ≤ s ∧ s < w.heap.size) ∧ (∀ i, i < zss.length → lo ≤ G i ∧ G i < w.heap.size) ∧ (∀ i, i < zss.length → G i ≠ s) ∧ ∀ i j, i < zss.length → j < zss.length → G i = G j → i = j
theorem Built.done {w wr : World} {zss : List (List Int)} (h : Built w wr zss zss.length) (cap : Nat) : RowsN wr w.heap.size (.slice (some ⟨w.heap.size, 0, none⟩) zss.length cap) zss := by
  have hl := h.lt
  obtain ⟨c, t, G, V, h1, h2, h3, h4⟩ := h
  exact ⟨w.heap.size, G, ⟨cap, c, t, V, rfl, h1, fun i hi => (h3 i hi).1, fun i hi => (h3 i hi).2.1⟩, ⟨Nat.le_refl _, hl⟩, fun i hi => ⟨Nat.le_of_lt (h3 i hi).2.2.1, (h3 i hi).2.2.2⟩, fun i hi e => by have := (h3 i hi).2.2.1; omega, h4⟩
theorem RowsN.kept {w w' : World} {lo : Nat} {v : Value} {zss : List (List Int)} (h : RowsN w lo v zss) (hs : w.heap.size ≤ w'.heap.size) (k : ∀ b, lo ≤ b → b < w.heap.size → w'.heap[b]? = w.heap[b]?) : RowsN w' lo v zss := by
  obtain ⟨s, G, h1, h2, h3, h4, h5⟩ := h
  exact ⟨s, G, h1.kept (k s h2.1 h2.2) (fun i hi => k _ (h3 i hi).1 (h3 i hi).2), by omega, fun i hi => by have := h3 i hi; omega, h4, h5⟩
theorem infoMM : (Tryd.prog.info? 27).map (fun i => (i.zero, i.size, i.bytes)) = some (some (.slice none 0 0), 1, 24) := by kernel_rfl
theorem built0 (w : World) (zss : List (List Int)) (t : TypeId) : Built w (w.alloc (.cells (madeCells #[.slice none 0 0] zss.length) t)) zss 0 :=
  ⟨madeCells #[.slice none 0 0] zss.length, t, fun _ => 0, fun _ => .slice none 0 0, heap_alloc_new w _, by rw [← Array.length_toList, toList_madeCells_one, List.length_replicate], fun i hi => by omega, fun i j hi => by omega⟩
set_option maxRecDepth 100000 in
theorem toss (v : Value) (zss : List (List Int)) (w : World) (h : RowsR w v zss) (hl : zss.length ≤ 1000000000) (hr : ∀ i, i < zss.length → (zss.getD i []).length ≤ 1000000000) :
    Calls Tryd.prog 105 #[v] w fun e w' => ∃ u, e = .returned u ∧ RowsN w' w.heap.size u zss ∧ Below w.heap.size w w' := by
  obtain ⟨a, cap, rfl, h⟩ := h
  have hmk := fun W => run_make_row' (P := Tryd.prog) 28 27 (.slice none 0 0) 24 Tryd.underlying28 infoMM rfl .i64 .i64 zss.length (by omega) (by omega) W
  have h0 : Hid (Built w (w.alloc (.cells (madeCells #[.slice none 0 0] zss.length) 27)) zss 0) := built0 w zss _
  replace h := hid (h)
  replace hr : Hid (∀ i, i < zss.length → (zss.getD i []).length ≤ 1000000000) := hr
  generalize madeCells #[.slice none 0 0] zss.length = MC at *
  go_enter Tryd.func105, Tryd.ntmps105
  go_wp2
  clear hmk
  go_loopw [4] (fun i wr => ∃ k : Nat, k ≤ zss.length ∧ i = .int .i64 k ∧ Built w wr zss k ∧ Below w.heap.size w wr) (fun i _ => zss.length - (intOf i).toNat)
  case atStart => exact ⟨0, by omega, rfl, h0.out, (Below.refl _ _).alloc (Nat.le_refl _) _⟩
  case round =>
    obtain ⟨k, hk, rfl, hM, hB⟩ := hrel
    by_cases hlt : k < zss.length
    · obtain ⟨b, off, a1, p1, rfl, c1, r1⟩ := rows_some h.out hlt
      have hb := World.block_lt_of_cell? w _ c1
      have c2 : wr.cell? ⟨b, off + k, none⟩ = some (.slice a1 (zss.getD k []).length p1) := by rw [hB.cell (p := ⟨b, off + k, none⟩) hb]; exact c1
      have hbd := hr.out k hlt
      have hz := hM.lt
      obtain ⟨⟨x, hx⟩, hfr⟩ := hM.cell hlt
      replace r1 := hid (r1.below hB)
      have E : Hid (∀ w1 u, RowO w1 wr.heap.size u (zss.getD k []) → Below wr.heap.size wr w1 → Built w (w1.setCell ⟨w.heap.size, k, none⟩ u) zss (k + 1) ∧ Below w.heap.size w (w1.setCell ⟨w.heap.size, k, none⟩ u)) := fun w1 u h1 h2 =>
        ⟨hM.step hlt h1 h2, (hB.trans (h2.mono hB.size)).setCell (p := ⟨w.heap.size, k, none⟩) (Nat.le_refl _) _⟩
      clear hM hB c1 hb h hr
      generalize zss.getD k [] = z at *
      go_wp2_with fail
      refine (tor _ z _ r1.out hbd).mono ?_
      rintro e w1 ⟨u, rfl, hro, hb1⟩
      have E1 := E.out w1 u hro hb1
      obtain ⟨pc, _, _, rfl, _, _⟩ := hro
      have hx1 : w1.cell? ⟨w.heap.size, k, none⟩ = some x := by rw [hb1.cell (p := ⟨w.heap.size, k, none⟩) hz]; exact hx
      have hf1 : w1.frozen? ⟨w.heap.size, k, none⟩ = false := by rw [hb1.frozen (p := ⟨w.heap.size, k, none⟩) hz]; exact hfr
      replace E1 := hid (E1)
      clear E hb1 hx hfr c2
      go_wp2
      go_roundw
      case rel => exact ⟨k + 1, by omega, by go_num, E1.out.1, E1.out.2⟩
      case measure => simp [intOf]; omega
    · obtain rfl : k = zss.length := by omega
      go_wp2
      go_ret
      exact ⟨_, rfl, hM.done _, hB⟩
end Go.Proofs.YtifcdojaocndhaaDoor

/- Rows of rows that are gathered by append, each row a copy in a block of its own. -/
namespace Go.Proofs.YtifcdojaocndhaaDoor
open Go.ChangeShapes Go.WideShapes Go.ChangeAt Go.RowKit
set_option linter.unusedVariables false

theorem add_plain (b off j : Nat) : (⟨b, off, none⟩ : Addr).add j = ⟨b, off + j, none⟩ := by unfold Addr.add; split <;> simp_all
theorem news_of_row {w : World} {b off : Nat} {zs : List Int} (h : ∀ i, i < zs.length → w.cell? ⟨b, off + i, none⟩ = some (.int .i64 (zs.getD i 0))) :
    ∀ j u, (zs.map (Value.int .i64))[j]? = some u → w.cell? ((⟨b, off, none⟩ : Addr).add j) = some u := by
  intro j u hu
  have hj : j < zs.length := by
    have := (List.getElem?_eq_some_iff.1 hu).1
    simpa using this
  rw [add_plain, h j hj, ← hu, List.getElem?_map, List.getElem?_eq_getElem hj, List.getD_eq_getElem?_getD, List.getElem?_eq_getElem hj]
  rfl
theorem one_cells (zs : List Int) : ∀ u ∈ zs.map (Value.int .i64), u.oneCell' = true := by
  intro u hu
  obtain ⟨z, _, rfl⟩ := List.mem_map.1 hu
  rfl
theorem RowO.of_owns' {w : World} {B g cap : Nat} {t : TypeId} {n : Nat} {zs : List Int} (h : w.ownsRow B t 1 (.slice (some ⟨g, 0, none⟩) n cap) n (zs.map (Value.int .i64))) (hn : 0 < n) : RowO w g (.slice (some ⟨g, 0, none⟩) n cap) zs ∧ B ≤ g ∧ zs.length = n := by
  have hz : zs.length = n := by simpa using h.1
  obtain ⟨g', hb, hr⟩ := RowO.of_owns h hn
  obtain ⟨c', _, _, e, _, _⟩ := id hr
  injection e with e1 _ _
  injection e1 with e1
  injection e1 with e1 _ _
  subst e1
  exact ⟨hr, hb, hz⟩
/-- k rows have been gathered in the slice u, all in blocks from lo on, none of them block r -/
def Gath (w : World) (lo r : Nat) (t : TypeId) (u : Value) (zss : List (List Int)) (k : Nat) : Prop :=
  ∃ (G : Nat → Nat) (V : Nat → Value), w.ownsRow lo t 1 u k ((List.range k).map V) ∧ (∀ i, i < k → RowO w (G i) (V i) (zss.getD i []) ∧ lo ≤ G i ∧ G i < w.heap.size ∧ u.ownBlock ≠ some (G i)) ∧ (∀ i j, i < k → j < k → G i = G j → i = j) ∧ (∀ i, i < k → G i ≠ r) ∧ u.ownBlock ≠ some r
theorem Gath.start (w : World) (t : TypeId) (zss : List (List Int)) (r : Nat) (hr : r < w.heap.size) : Gath (w.alloc (.cells #[] t)) w.heap.size r t (.slice (some ⟨w.heap.size, 0, none⟩) 0 0) zss 0 :=
  ⟨fun _ => 0, fun _ => .slice none 0 0, World.ownsRow_lit w #[] 0 (Nat.le_refl _) (by decide) rfl, fun i hi => by omega, fun i j hi => by omega, fun i hi => by omega, by simp [Value.ownBlock]; omega⟩
theorem Gath.own {w : World} {lo r : Nat} {t : TypeId} {u : Value} {zss : List (List Int)} {k : Nat} (h : Gath w lo r t u zss k) : ∃ V : Nat → Value, w.ownsRow lo t 1 u k ((List.range k).map V) := by
  obtain ⟨G, V, h, _⟩ := h
  exact ⟨V, h⟩
theorem Gath.step {w w1 w2 : World} {lo r g g2 c2 : Nat} {t : TypeId} {u v : Value} {zss : List (List Int)} {k : Nat} {V : Nat → Value}
    (h : Gath w lo r t u zss k) (hrr : r < w.heap.size) (hV : w.ownsRow lo t 1 u k ((List.range k).map V)) (hlo : lo ≤ w.heap.size) (hr : RowO w1 g v (zss.getD k [])) (hg : w.heap.size ≤ g) (h1 : Below w.heap.size w w1)
    (ho : w2.ownsRow lo t 1 (.slice (some ⟨g2, 0, none⟩) (k + 1) c2) (k + 1) ((List.range k).map V ++ [v])) (h2 : w1.grownBy w2 u.ownBlock) (hat : u.ownBlock = some g2 ∨ w1.heap.size ≤ g2) :
    Gath w2 lo r t (.slice (some ⟨g2, 0, none⟩) (k + 1) c2) zss (k + 1) := by
  obtain ⟨G, V', hown, hrows, hinj, hav, hub⟩ := h
  have hVV : ∀ i, i < k → V' i = V i := by
    intro i hi
    have hc : ∀ (X : Nat → Value), w.ownsRow lo t 1 u k ((List.range k).map X) → ∀ g0, u.ownBlock = some g0 → w.cell? ((⟨g0, 0, none⟩ : Addr).add i) = some (X i) := by
      intro X hX g0 hg0
      refine hX.cells hg0 i (X i) ?_
      rw [List.getElem?_map, List.getElem?_range hi]
      rfl
    rcases hown.2 with ⟨rfl, h0⟩ | ⟨g0, cap, cur, rfl, _⟩
    · omega
    · have e1 := hc V' hown g0 rfl
      have e2 := hc V hV g0 rfl
      rw [e1] at e2
      exact Option.some.inj e2
  have hlt := hr.lt
  have hu : ∀ b, u.ownBlock = some b → lo ≤ b ∧ b < w.heap.size := fun b hb => hown.lt b hb
  have hne : ∀ b, w.heap.size ≤ b → some b ≠ u.ownBlock := fun b hb e => by
    have := hu b e.symm
    omega
  refine ⟨fun i => if i = k then g else G i, fun i => if i = k then v else V i, ?_, fun i hi => ?_, fun i j hi hj e => ?_, fun i hi => ?_, ?_⟩
  · have e : (List.range (k + 1)).map (fun i => if i = k then v else V i) = (List.range k).map V ++ [v] := by
      rw [List.range_succ, List.map_append]
      congr 1
      · apply List.map_congr_left
        intro i hi
        have := List.mem_range.1 hi
        rw [if_neg (by omega)]
      · simp
    rw [e]
    exact ho
  · by_cases e : i = k
    · subst e
      simp only [if_true]
      refine ⟨hr.kept (h2.block g hlt (hne g hg)), by omega, by have := h2.size; omega, ?_⟩
      rintro e2
      have e2 : g2 = g := by simpa [Value.ownBlock] using e2
      subst e2
      rcases hat with hat | hat
      · exact hne _ hg hat.symm
      · omega
    · simp only [if_neg e]
      obtain ⟨k1, k2, k3, k4⟩ := hrows i (by omega)
      rw [hVV i (by omega)] at k1
      have hs1 := h1.size
      refine ⟨k1.kept ((h2.block _ (by omega) (fun e => k4 e.symm)).trans (h1.block _ k3)), k2, by have := h2.size; omega, ?_⟩
      rintro e2
      have e2 : g2 = G i := by simpa [Value.ownBlock] using e2
      rcases hat with hat | hat
      · exact k4 (by rw [hat, e2])
      · omega
  · by_cases e1 : i = k
    · by_cases e2 : j = k
      · rw [e1, e2]
      · simp only [if_pos e1, if_neg e2] at e
        have := (hrows j (by omega)).2.2.1
        omega
    · by_cases e2 : j = k
      · simp only [if_neg e1, if_pos e2] at e
        have := (hrows i (by omega)).2.2.1
        omega
      · simp only [if_neg e1, if_neg e2] at e
        exact hinj i j (by omega) (by omega) e
  · by_cases e : i = k
    · simp only [if_pos e]
      omega
    · simp only [if_neg e]
      exact hav i (by omega)
  · rintro e2
    have e2 : g2 = r := by simpa [Value.ownBlock] using e2
    rcases hat with hat | hat
    · exact hub (by rw [hat, e2])
    · have := h1.size
      omega
theorem Gath.done {w : World} {lo r : Nat} {t : TypeId} {u : Value} {zss : List (List Int)} (h : Gath w lo r t u zss zss.length) (hn : 0 < zss.length) : RowsN w lo u zss := by
  obtain ⟨G, V, hown, hrows, hinj, _, _⟩ := h
  have hl := hown.lt
  obtain ⟨hlen, ⟨rfl, h0⟩ | ⟨s, cap, cur, rfl, hb, hh, hnc, hm, hs, ht⟩⟩ := hown
  · omega
  · refine ⟨s, G, ⟨cap, cur, t, V, rfl, hh, fun i hi => ?_, fun i hi => (hrows i hi).1⟩, hl s rfl, fun i hi => ⟨(hrows i hi).2.1, (hrows i hi).2.2.1⟩, fun i hi e => (hrows i hi).2.2.2 (by rw [e]; rfl), hinj⟩
    have h1 : (cur.toList.take (zss.length * 1))[i]? = ((List.range zss.length).map V)[i]? := by rw [ht]
    rw [List.getElem?_take, if_pos (by omega), List.getElem?_map, List.getElem?_range hi] at h1
    simpa using h1
theorem Gath.kept {w w' : World} {lo r : Nat} {t : TypeId} {u : Value} {zss : List (List Int)} {k : Nat} (h : Gath w lo r t u zss k) (hs : w.heap.size ≤ w'.heap.size) (hk : ∀ b, lo ≤ b → b < w.heap.size → w'.heap[b]? = w.heap[b]?) : Gath w' lo r t u zss k := by
  obtain ⟨G, V, hown, hrows, hinj, hav, hub⟩ := h
  refine ⟨G, V, ?_, fun i hi => ?_, hinj, hav, hub⟩
  · obtain ⟨hl, h | ⟨g, cap, cur, rfl, hb, hh, r⟩⟩ := hown
    · exact ⟨hl, .inl h⟩
    · exact ⟨hl, .inr ⟨g, cap, cur, rfl, hb, (hk g hb (Array.getElem?_eq_some_iff.1 hh).1).trans hh, r⟩⟩
  · obtain ⟨k1, k2, k3, k4⟩ := hrows i hi
    exact ⟨k1.kept (hk _ k2 k3), k2, by omega, k4⟩
/-- .. with the blocks told, none of them r -/
theorem Gath.doneR {w : World} {lo r : Nat} {t : TypeId} {u : Value} {zss : List (List Int)} (h : Gath w lo r t u zss zss.length) (hn : 0 < zss.length) :
    ∃ s G, RowsO w s G u zss ∧ (lo ≤ s ∧ s < w.heap.size) ∧ (∀ i, i < zss.length → lo ≤ G i ∧ G i < w.heap.size) ∧ (∀ i, i < zss.length → G i ≠ s) ∧ (∀ i j, i < zss.length → j < zss.length → G i = G j → i = j) ∧ (∀ i, i < zss.length → G i ≠ r) ∧ s ≠ r := by
  obtain ⟨G, V, hown, hrows, hinj, hav, hub⟩ := h
  have hl := hown.lt
  obtain ⟨hlen, ⟨rfl, h0⟩ | ⟨s, cap, cur, rfl, hb, hh, hnc, hm, hs, ht⟩⟩ := hown
  · omega
  · refine ⟨s, G, ⟨cap, cur, t, V, rfl, hh, fun i hi => ?_, fun i hi => (hrows i hi).1⟩, hl s rfl, fun i hi => ⟨(hrows i hi).2.1, (hrows i hi).2.2.1⟩, fun i hi e => (hrows i hi).2.2.2 (by rw [e]; rfl), hinj, hav, fun e => hub (by rw [e]; rfl)⟩
    have h1 : (cur.toList.take (zss.length * 1))[i]? = ((List.range zss.length).map V)[i]? := by rw [ht]
    rw [List.getElem?_take, if_pos (by omega), List.getElem?_map, List.getElem?_range hi] at h1
    simpa using h1
end Go.Proofs.YtifcdojaocndhaaDoor
