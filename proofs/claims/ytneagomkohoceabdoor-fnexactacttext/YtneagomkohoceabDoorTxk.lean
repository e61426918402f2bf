/- An act's text: words, the table of forms, where the numbers stand; the program. -/
import Derived.Test.YtneagomkohoceabDoorTxe
import Derived.Test.YtneagomkohoceabDoorTxj
import Derived.Test.YtneagomkohoceabDoorWba
import Derived.Test.YtneagomkohoceabDoorWbb
import Derived.Lib.LaidTab
import Derived.Lib.SmallJoins
import Derived.Deep.Matrix
namespace Go.Proofs.YtneagomkohoceabDoor
open Go.ChangeShapes Go.WideShapes Go.ChangeAt Go.RowKit Go.Joins Go.Deep
set_option linter.unusedVariables false
set_option linter.unusedSimpArgs false

def acwL : List (List UInt8) := [[], [107, 101, 121], [106, 111, 121], [112, 108, 97, 121], [115, 116, 111, 112], [114, 101, 119, 105, 110, 100], [102, 114, 97, 109, 101, 115], [115, 97, 118, 101], [108, 111, 97, 100]]
def acW (k : Nat) : ByteArray := ⟨(acwL.getD k []).toArray⟩
def acN (k : Nat) : Nat := if k = 1 then 2 else if k = 2 then 1 else if k = 6 then 1 else 0
def acDn (k : Nat) : Bool := k == 1
def downB (d : Bool) : ByteArray := if d = true then ⟨#[100, 111, 119, 110]⟩ else ⟨#[117, 112]⟩
def acNs (k a b : Nat) : List Nat := [a, b].take (acN k)
def actB (k a b : Nat) (d : Bool) : ByteArray :=
  if k = 1 then acW k ++ spX ++ digB a ++ spX ++ digB b ++ spX ++ downB d
  else if k = 2 then acW k ++ spX ++ digB a
  else if k = 6 then acW k ++ spX ++ digB a
  else acW k
def act2 (k a b : Int) (d : Bool) : Value := if okAc k a b d = true then .tuple #[.string (actB k.toNat a.toNat b.toNat d), .int .i64 0] else .tuple #[.string ⟨#[]⟩, .int .i64 1]
theorem acW_facts : ∀ k, k < 9 → 1 ≤ k → (acW k).size ≤ 6 ∧ acW k ≠ ⟨#[]⟩ := by decide +kernel
theorem acNs_len (k a b : Nat) : (acNs k a b).length = acN k := by
  unfold acNs acN
  split
  · rfl
  · split
    · rfl
    · split <;> rfl
theorem downB_facts (d : Bool) : (downB d).size ≤ 4 ∧ downB d ≠ ⟨#[]⟩ := by cases d <;> decide +kernel
def actWs (k a b : Nat) (d : Bool) : List ByteArray := (acW k :: (acNs k a b).map digB) ++ (if acDn k = true then [downB d] else [])
theorem act_line (k a b : Nat) (d : Bool) (h1 : 1 ≤ k) (h2 : k < 9) : lineB (actWs k a b d) = actB k a b d := by
  have hw := (acW_facts k h2 h1).2
  unfold lineB
  have hall : ∀ x ∈ actWs k a b d, x ≠ ⟨#[]⟩ := by
    intro x hx
    unfold actWs at hx
    rw [List.mem_append, List.mem_cons] at hx
    rcases hx with (rfl | hx) | hx
    · exact hw
    · obtain ⟨n, _, rfl⟩ := List.mem_map.1 hx
      exact digB_ne n
    · split at hx
      · rw [List.mem_singleton] at hx
        rw [hx]
        exact (downB_facts d).2
      · cases hx
  rw [said_all _ hall]
  unfold joinB actB actWs acNs acN acDn spX
  apply ByteArray.ext
  by_cases k1 : k = 1
  · subst k1
    simp [Lib.join_cons, Lib.joinTail, ByteArray.data_append]
  · by_cases k2 : k = 2
    · subst k2
      simp [Lib.join_cons, Lib.joinTail, ByteArray.data_append]
    · by_cases k6 : k = 6
      · subst k6
        simp [Lib.join_cons, Lib.joinTail, ByteArray.data_append]
      · simp [k1, k2, k6, Lib.join_cons, Lib.joinTail]
theorem okAc_bd {k a b : Int} {d : Bool} (h : okAc k a b d = true) : 1 ≤ k ∧ k ≤ 8 ∧ 0 ≤ a ∧ a ≤ 31 ∧ 0 ≤ b ∧ b ≤ 4 := by
  unfold okAc inB at h
  by_cases k1 : k = 1
  · rw [if_pos k1] at h; simp at h; omega
  · rw [if_neg k1] at h
    by_cases k2 : k = 2
    · rw [if_pos k2] at h; simp at h; omega
    · rw [if_neg k2] at h
      by_cases k6 : k = 6
      · rw [if_pos k6] at h; simp at h; omega
      · rw [if_neg k6] at h; simp at h; omega
def AcFs (w : World) : Prop := ∀ k, k < 9 → w.cell? ⟨1, k * 3, none⟩ = some (.string (acW k)) ∧ w.cell? ⟨1, k * 3 + 1, none⟩ = some (.int .i64 (acN k : Nat)) ∧ w.cell? ⟨1, k * 3 + 2, none⟩ = some (.bool (acDn k))
theorem AcFs.up {w w' : World} (h : AcFs w) (hb : Below w.heap.size w w') : AcFs w' := fun k hk => ⟨cellX_kept hb (h k hk).1, cellX_kept hb (h k hk).2.1, cellX_kept hb (h k hk).2.2⟩
abbrev afA (wd : ByteArray) (n : Nat) (d : Bool) : Array Value := #[.string wd, .int .i64 (n : Nat), .bool d]
set_option maxRecDepth 100000 in
set_option maxHeartbeats 1000000 in
theorem plact_impl (wd : ByteArray) (n : Nat) (dn : Bool) (X : Nat) (w : World) (hn : n = 0 ∨ n = 1 ∨ n = 2) :
    Calls Tryd.prog 63 #[.agg (afA wd n dn), .pointer (some ⟨X, 0, none⟩)] w fun e w' => ∃ g, e = .returned (.slice (some ⟨g, 0, none⟩) n 2) ∧ w'.cell? ⟨g, 0, none⟩ = some (.pointer (some ⟨X, 1, none⟩)) ∧ w'.cell? ⟨g, 1, none⟩ = some (.pointer (some ⟨X, 2, none⟩)) ∧ w.heap.size ≤ g ∧ Below w.heap.size w w' := by
  have hb0 := hid ((Below.refl w.heap.size w).alloc (Nat.le_refl _) (.cells (afA wd n dn) 109))
  have hq0 := Blk.new w (afA wd n dn) 109
  have hC : Hid (((w.alloc (.cells (afA wd n dn) 109)).alloc (.cells #[.pointer (some ⟨X, 1, none⟩), .pointer (some ⟨X, 2, none⟩)] 159)).drew.cell? ⟨w.heap.size + 1, 0, none⟩ = some (.pointer (some ⟨X, 1, none⟩)) ∧ ((w.alloc (.cells (afA wd n dn) 109)).alloc (.cells #[.pointer (some ⟨X, 1, none⟩), .pointer (some ⟨X, 2, none⟩)] 159)).drew.cell? ⟨w.heap.size + 1, 1, none⟩ = some (.pointer (some ⟨X, 2, none⟩)) ∧ w.heap.size ≤ w.heap.size + 1 ∧ Below w.heap.size w ((w.alloc (.cells (afA wd n dn) 109)).alloc (.cells #[.pointer (some ⟨X, 1, none⟩), .pointer (some ⟨X, 2, none⟩)] 159)).drew) := by
    have h := Blk.new (w.alloc (.cells (afA wd n dn) 109)) #[.pointer (some ⟨X, 1, none⟩), .pointer (some ⟨X, 2, none⟩)] 159
    rw [World.size_alloc] at h
    exact ⟨h.cell 0, h.cell 1, by omega, (hb0.out.alloc hb0.out.size _).drew⟩
  rcases hn with rfl | rfl | rfl
  all_goals
    go_enter Tryd.func63, Tryd.ntmps63
    go_wp2_with fail
    go_region
    all_goals
      go_wp2
      go_ret
      exact ⟨_, rfl, hC.out⟩
end Go.Proofs.YtneagomkohoceabDoor
