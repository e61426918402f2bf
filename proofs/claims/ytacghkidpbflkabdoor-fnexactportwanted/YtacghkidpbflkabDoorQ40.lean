/- The program's processor at work, as it lies in a world: its own block, its board, the list of cycles, what is told. -/
import Derived.Test.YtacghkidpbflkabDoorCbq
import Derived.Test.YtacghkidpbflkabDoorBfq
import Derived.RangeFuncBox
import Derived.Test.YtacghkidpbflkabDoorQ21
import Derived.Test.YtacghkidpbflkabDoorMbq
import Derived.Deep.RegionWith
import Derived.Deep.QuietTactic
namespace Go.Proofs.YtacghkidpbflkabDoor
open Go.ChangeShapes Go.WideShapes Go.ChangeAt Go.RowKit
set_option linter.unusedVariables false
set_option linter.unusedSimpArgs false

abbrev proT (c : Cp) (B n : Nat) (T : Value) : Array Value :=
  #[.int .i64 (c.b : Int), .int .i64 (c.c : Int), .int .i64 (c.d : Int), .int .i64 (c.e : Int), .int .i64 (c.h : Int), .int .i64 (c.l : Int), .int .i64 0, .int .i64 (c.a : Int), .int .i64 (c.f : Int), .int .i64 (c.sp : Int), .int .i64 (c.pc : Int), .bool c.iff, .bool c.ei, .bool c.halt,
    .pointer (some ⟨B, 0, none⟩), .int .i64 (n : Int), T]
theorem Blk.same {w w' : World} {b : Nat} {A : Array Value} (h : Blk w b A) (e : w'.heap[b]? = w.heap[b]?) : Blk w' b A := by
  obtain ⟨t, h⟩ := h
  exact ⟨t, e.trans h⟩
/-- what stays the same while the processor works -/
structure Par where
  w : World
  Y : Nat
  B : Nat
  O : Nat
  I : Nat
  V : Nat
  L : Nat
  D : Nat
  lo : Nat
  hi : Nat
  r : Nat
  s : Nat
  n : Nat
  G : Nat → Nat
  Q : Nat → Nat
  R : Loop
/-- the blocks of the board -/
def brdB (lo hi B : Nat) (Q : Nat → Nat) (b : Nat) : Prop := (lo ≤ b ∧ b < hi) ∨ b = B ∨ ∃ q, q < 4 ∧ b = Q q
theorem Brd.kept {w w' : World} {lo hi B r s : Nat} {G Q : Nat → Nat} {M : Mem} (h : Brd w lo hi B r s G Q M) (k : ∀ b, brdB lo hi B Q b → w'.heap[b]? = w.heap[b]?) : Brd w' lo hi B r s G Q M :=
  ⟨h.lies.kept (fun b h1 h2 => k b (.inl ⟨h1, h2⟩)), h.blk.same (k _ (.inr (.inl rfl))), fun q hq => let ⟨cap, hc⟩ := h.bank q hq; ⟨cap, hc.same (k _ (.inr (.inr ⟨q, hq, rfl⟩)))⟩, h.ord⟩
theorem Brd.lt {w : World} {lo hi B r s : Nat} {G Q : Nat → Nat} {M : Mem} (h : Brd w lo hi B r s G Q M) (hh : hi ≤ w.heap.size) {b : Nat} (hb : brdB lo hi B Q b) : b < w.heap.size := by
  rcases hb with h1 | rfl | ⟨q, hq, rfl⟩
  · omega
  · exact h.blk.lt
  · obtain ⟨_, hc⟩ := h.bank q hq
    exact hc.lt
def Par.bs (p : Par) : List Nat := [p.Y, p.O, p.I, p.V, p.L, p.D]
structure Sep (p : Par) : Prop where
  nd : p.bs.Nodup
  nb : ∀ b, b ∈ p.bs → ¬ brdB p.lo p.hi p.B p.Q b
  far : ∀ b, b ∈ p.bs → p.w.heap.size ≤ b
  flo : p.w.heap.size ≤ p.lo
/-- blocks that must stay as they are -/
abbrev Kps := List (Nat × Array Value)
theorem Par.mem (p : Par) : p.Y ∈ p.bs ∧ p.O ∈ p.bs ∧ p.I ∈ p.bs ∧ p.V ∈ p.bs ∧ p.L ∈ p.bs ∧ p.D ∈ p.bs := by simp [Par.bs]
theorem Sep.apart {p : Par} (h : Sep p) : (p.Y ≠ p.O ∧ p.Y ≠ p.I ∧ p.Y ≠ p.V ∧ p.Y ≠ p.L ∧ p.Y ≠ p.D) ∧ (p.O ≠ p.I ∧ p.O ≠ p.V ∧ p.O ≠ p.L ∧ p.O ≠ p.D) ∧ (p.I ≠ p.V ∧ p.I ≠ p.L ∧ p.I ≠ p.D) ∧ (p.V ≠ p.L ∧ p.V ≠ p.D) ∧ p.L ≠ p.D := by
  have := h.nd
  simp [Par.bs] at this
  omega
end Go.Proofs.YtacghkidpbflkabDoor

/- What the program's processor does with registers and memory: fetch, read, write, get, put, push, pop. -/
namespace Go.Proofs.YtacghkidpbflkabDoor
open Go.ChangeShapes Go.WideShapes Go.ChangeAt Go.RowKit
set_option linter.unusedVariables false
set_option linter.unusedSimpArgs false
theorem around_impl (v : Int) (r : Nat) (h : bits .and .i64 v 255 = (r : Int)) (w : World) : Calls Tryd.prog 98 #[.int .i64 v] w fun e w' => e = .returned (.int .i64 (r : Int)) ∧ w' = w := by
  go_enter Tryd.func98, Tryd.ntmps98
  go_wp2
  go_ret
  exact ⟨rfl, rfl⟩
theorem boardN_impl (w : World) (lo hi B r s : Nat) (G Q : Nat → Nat) (M : Mem) (a : Nat) (h : Brd w lo hi B r s G Q M) (hk : okM M = true) (ha : a < 256) :
    Calls Tryd.prog 97 #[.pointer (some ⟨B, 0, none⟩), .int .i64 (a : Int)] w fun e w' => e = .returned (.int .i64 (peekN M a : Int)) ∧ w' = w := by
  have := read_impl w lo hi B r s G Q M (a : Int) h hk (by omega) (by omega)
  rw [(peek_byte hk ha).1] at this
  exact this
end Go.Proofs.YtacghkidpbflkabDoor
