/- The program's table of kinds: what it holds, and what the program asks of one kind. -/
import Derived.Test.YtneagomkohoceaaDoorIac
namespace Go.Proofs.YtneagomkohoceaaDoor
open Go.ChangeShapes Go.WideShapes Go.ChangeAt Go.RowKit
set_option linter.unusedVariables false
set_option linter.unusedSimpArgs false

def kdWL : List (List UInt8) := [[110, 111, 112], [108, 100], [108, 100, 110], [108, 100, 97], [115, 116, 97], [97, 108, 117], [97, 108, 117, 110], [105, 110, 99], [100, 101, 99], [116, 117, 114, 110], [98, 105, 116], [100, 97, 97], [106, 112], [99, 97, 108, 108], [114, 101, 116], [112, 117, 115, 104], [112, 111, 112], [105, 110], [111, 117, 116], [104, 97, 108, 116], [101, 105], [100, 105], [108, 100, 105], [100, 98]]
def kdNL : List Int := [0, 3, 5, 4, 4, 3, 5, 1, 1, 3, 3, 0, 5, 5, 1, 1, 1, 4, 4, 0, 0, 0, 0, 8]
def kdAL : List Int := [0, 1, 1, 0, 0, 0, 0, 2, 2, 0, 0, 0, 0, 0, 0, 0, 0, 0, 0, 0, 0, 0, 0, 0]
def kdBL : List Int := [0, 1, 0, 0, 0, 1, 0, 0, 0, 2, 1, 0, 0, 0, 0, 0, 0, 0, 0, 0, 0, 0, 0, 0]
def kdTL : List Int := [0, 0, 0, 3, 3, 0, 0, 0, 0, 0, 0, 0, 0, 0, 0, 3, 3, 4, 4, 0, 0, 0, 6, 0]
def kdW (k : Nat) : ByteArray := ⟨(kdWL.getD k []).toArray⟩
def kdN (k : Nat) : Int := kdNL.getD k 0
def kdA (k : Nat) : Int := kdAL.getD k 0
def kdB (k : Nat) : Int := kdBL.getD k 0
def kdT (k : Nat) : Int := kdTL.getD k 0
/-- the table of kinds, in its block -/
def Kinds (w : World) : Prop := ∀ k, k < 24 → w.cell? ⟨0, k * 5, none⟩ = some (.string (kdW k)) ∧ w.cell? ⟨0, k * 5 + 1, none⟩ = some (.int .i64 (kdN k)) ∧ w.cell? ⟨0, k * 5 + 2, none⟩ = some (.int .i64 (kdA k)) ∧ w.cell? ⟨0, k * 5 + 3, none⟩ = some (.int .i64 (kdB k)) ∧ w.cell? ⟨0, k * 5 + 4, none⟩ = some (.int .i64 (kdT k))
theorem Kinds.below {w w' : World} (h : Kinds w) (hb : Below w.heap.size w w') : Kinds w' := fun k hk => by
  obtain ⟨h0, h1, h2, h3, h4⟩ := h k hk
  exact ⟨cell_kept hb h0, cell_kept hb h1, cell_kept hb h2, cell_kept hb h3, cell_kept hb h4⟩
abbrev kinV (s : ByteArray) (n a b t : Int) : Value := .agg #[.string s, .int .i64 n, .int .i64 a, .int .i64 b, .int .i64 t]
abbrev kinA (s : ByteArray) (n a b t : Int) : Array Value := #[.string s, .int .i64 n, .int .i64 a, .int .i64 b, .int .i64 t]
/-- whether a kind has one of these numbers -/
def hasM (n m : Int) : Bool := bits .and .i64 n m != 0
def lenM (n : Int) : Int := if hasM n 6 = true then 2 else 1
def loM (n : Int) : Int := if hasM n 4 = true then 0 else if hasM n 8 = true then 184 else 0
def hiM (n : Int) : Int := if hasM n 4 = true then 255 else if hasM n 8 = true then 255 else 0
def whenM (p : Bool) (x : Int) : Int := if p = true then x else 0
theorem has_impl (s : ByteArray) (n a b t m : Int) (w : World) :
    Calls Tryd.prog 33 #[kinV s n a b t, .int .i64 m] w fun e w' => e = .returned (.bool (hasM n m)) ∧ Below w.heap.size w w' := by
  go_enter Tryd.func33, Tryd.ntmps33
  go_wp2
  go_ret
  exact ⟨ret_bool rfl, (Below.refl _ _).alloc (Nat.le_refl _) _⟩
theorem whenK_impl (p : Bool) (x : Int) (w : World) : Calls Tryd.prog 32 #[.bool p, .int .i64 x] w fun e w' => e = .returned (.int .i64 (whenM p x)) ∧ w' = w := by
  cases p
  all_goals
    go_enter Tryd.func32, Tryd.ntmps32
    go_wp2
    go_ret
    exact ⟨rfl, rfl⟩
theorem withinK_impl (n a b : Int) (w : World) : Calls Tryd.prog 30 #[.int .i64 n, .int .i64 a, .int .i64 b] w fun e w' => e = .returned (.bool (inB n a b)) ∧ w' = w := by
  go_enter Tryd.func30, Tryd.ntmps30
  go_wp2
  all_goals go_ret
  all_goals exact ⟨ret_bool (by rw [Bool.eq_iff_iff]; simp [inB]; try omega), rfl⟩
theorem len_impl (s : ByteArray) (n a b t : Int) (w : World) :
    Calls Tryd.prog 34 #[kinV s n a b t] w fun e w' => e = .returned (.int .i64 (lenM n)) ∧ Below w.heap.size w w' := by
  have hB : Hid (∀ ob, Below w.heap.size w (w.alloc ob)) := fun ob => (Below.refl _ _).alloc (Nat.le_refl _) _
  have h2 : Hid (∀ w1 ob, Below (w.alloc ob).heap.size (w.alloc ob) w1 → Below w.heap.size w w1) := fun w1 ob h => (hB.out ob).trans (h.mono (by simp))
  have e : lenM n = if hasM n 6 = true then 2 else 1 := rfl
  rw [e]
  cases hm : hasM n 6
  all_goals
    go_enter Tryd.func34, Tryd.ntmps34
    go_wp2_with fail
    refine (has_impl _ _ _ _ _ _ _).mono ?_
    rintro e w1 ⟨rfl, hb⟩
    rw [hm]
    have hb1 := hid (h2.out _ _ hb)
    clear hb
    go_wp2
    go_ret
    exact ⟨rfl, hb1.out⟩
theorem bounds_impl (s : ByteArray) (n a b t : Int) (w : World) :
    Calls Tryd.prog 31 #[kinV s n a b t] w fun e w' => e = .returned (.tuple #[.int .i64 (loM n), .int .i64 (hiM n)]) ∧ Below w.heap.size w w' := by
  have hB : Hid (∀ ob, Below w.heap.size w (w.alloc ob)) := fun ob => (Below.refl _ _).alloc (Nat.le_refl _) _
  have h2 : Hid (∀ w1 ob, Below (w.alloc ob).heap.size (w.alloc ob) w1 → Below w.heap.size w w1) := fun w1 ob h => (hB.out ob).trans (h.mono (by simp))
  have hQ := Blk.new w (kinA s n a b t) 62
  have e : loM n = if hasM n 4 = true then 0 else if hasM n 8 = true then 184 else 0 := rfl
  have e' : hiM n = if hasM n 4 = true then 255 else if hasM n 8 = true then 255 else 0 := rfl
  rw [e, e']
  clear e e'
  cases hm : hasM n 4
  · cases hn : hasM n 8
    all_goals
      go_enter Tryd.func31, Tryd.ntmps31
      go_wp2_with fail
      refine (has_impl _ _ _ _ _ _ _).mono ?_
      rintro e w1 ⟨rfl, hb⟩
      rw [hm]
      have hb1 := hid (h2.out _ _ hb)
      have hq1 := (hQ.below hb hQ.lt).cell
      clear hb hQ
      go_wp2_with fail
      refine (has_impl _ _ _ _ _ _ _).mono ?_
      rintro e w2 ⟨rfl, hb⟩
      rw [hn]
      have hb2 := hid (new_trans hb1.out hb)
      clear hb hb1 hq1
      go_wp2
      go_ret2
      exact ⟨rfl, hb2.out⟩
  · go_enter Tryd.func31, Tryd.ntmps31
    go_wp2_with fail
    refine (has_impl _ _ _ _ _ _ _).mono ?_
    rintro e w1 ⟨rfl, hb⟩
    rw [hm]
    have hb1 := hid (h2.out _ _ hb)
    clear hb hQ
    go_wp2
    go_ret2
    exact ⟨rfl, hb1.out⟩
theorem kd_tab : ∀ k, k < 23 → hasM (kdN k) 1 = hasC k 65 ∧ hasM (kdN k) 2 = hasC k 66 ∧ hasM (kdN k) 4 = hasC k 78 ∧ hasM (kdN k) 8 = false ∧ hasM (kdN k) 6 = (hasC k 66 || hasC k 78) := by decide +kernel
theorem kd_23 : hasM (kdN 23) 1 = false ∧ hasM (kdN 23) 2 = false ∧ hasM (kdN 23) 4 = false ∧ hasM (kdN 23) 8 = true ∧ hasM (kdN 23) 6 = false := by decide +kernel
end Go.Proofs.YtneagomkohoceaaDoor
