/- What the specification encodes, and how long an instruction takes. -/
import Derived.Test.YtneagomkohoceabDoorIbl
namespace Go.Proofs.YtneagomkohoceabDoor
open Go.ChangeShapes Go.WideShapes Go.ChangeAt Go.RowKit
set_option linter.unusedVariables false
set_option linter.unusedSimpArgs false

/-- a row that is answered: empty, or in a block of its own from lo on -/
def RowA (w : World) (lo : Nat) (v : Value) (zs : List Int) : Prop := (zs = [] ∧ ∃ a c, v = .slice a 0 c) ∨ ∃ g, lo ≤ g ∧ RowO w g v zs
theorem RowA.reads {w : World} {lo : Nat} {v : Value} {zs : List Int} (h : RowA w lo v zs) : RowR w v zs := by
  rcases h with ⟨rfl, a, c, rfl⟩ | ⟨g, _, h⟩
  · exact ⟨a, c, rfl, .inl rfl⟩
  · exact h.reads
/-- the bytes of an instruction -/
def encL (o a b n l : Int) : List Int := if o = 23 then [n] else if l = 2 then [8 * o + a, b + n] else [8 * o + a]
def encR (o a b n l : Int) : List Int := if okI o a b n l = true then encL o a b n l else []
def okIc (o a b n l : Int) : Int := if okI o a b n l = true then 0 else 1
theorem okI_bd {o a b n l : Int} (h : okI o a b n l = true) : (0 ≤ o ∧ o ≤ 23) ∧ (0 ≤ a ∧ a ≤ 7) ∧ (0 ≤ b ∧ b ≤ 7) ∧ (0 ≤ n ∧ n ≤ 255) ∧ (l = 1 ∨ l = 2) := by
  unfold okI at h
  split at h
  · rename_i e
    simp [inB] at h
    omega
  · have hA := bitI_bd (hasC o.toNat 65)
    have hB := bitI_bd (hasC o.toNat 66)
    have hN := bitI_bd (hasC o.toNat 78)
    have hL := bitI_bd (hasC o.toNat 66 || hasC o.toNat 78)
    simp only [inB, Bool.and_eq_true, decide_eq_true_eq] at h
    omega
theorem rowO_lit {W : World} {cs : Array Value} {t : TypeId} {zs : List Int} {g cap : Nat} (hg : W.heap[g]? = some (.cells cs t (0, 0))) (hc : ∀ i, i < zs.length → cs[i]? = some (.int .i64 (zs.getD i 0))) : RowO W g (.slice (some ⟨g, 0, none⟩) zs.length cap) zs := ⟨cap, cs, t, rfl, hg, hc⟩
theorem rowO_1 (w : World) (o1 : Obj) (z : Int) (t : TypeId) : RowO ((w.alloc o1).alloc (.cells #[.int .i64 z] t)) (w.heap.size + 1) (.slice (some ⟨w.heap.size + 1, 0, none⟩) 1 1) [z] := by
  have h := heap_alloc_new (w.alloc o1) (.cells #[.int .i64 z] t)
  rw [World.size_alloc] at h
  exact rowO_lit (zs := [z]) h (fun i hi => by
    have hi : i < 1 := hi
    obtain rfl : i = 0 := by omega
    rfl)
theorem rowO_2 (w : World) (o1 o2 o3 : Obj) (z y : Int) (X : Array Value) (t : TypeId) (cap : Nat) : RowO ((((w.alloc o1).alloc o2).alloc o3).alloc (.cells (#[.int .i64 z, .int .i64 y] ++ X) t)).drew (w.heap.size + 1 + 1 + 1) (.slice (some ⟨w.heap.size + 1 + 1 + 1, 0, none⟩) 2 cap) [z, y] := by
  have h := heap_alloc_new (((w.alloc o1).alloc o2).alloc o3) (.cells (#[.int .i64 z, .int .i64 y] ++ X) t)
  simp only [World.size_alloc] at h
  exact rowO_lit (zs := [z, y]) h (fun i hi => by
    have hi : i < 2 := hi
    rcases (by omega : i = 0 ∨ i = 1) with rfl | rfl
    · simp [Array.getElem?_append]
    · simp [Array.getElem?_append])
theorem infoE1 : (Tryd.prog.info? 3).map (fun i => (i.zero, i.size, i.bytes)) = some (some (.int .i64 0), 1, 8) := by kernel_rfl
end Go.Proofs.YtneagomkohoceabDoor
