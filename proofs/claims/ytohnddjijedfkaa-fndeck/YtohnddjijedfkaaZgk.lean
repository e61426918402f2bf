/- Drawn blocks. -/
import Derived.Test.YtohnddjijedfkaaUak
import Derived.Test.YtohnddjijedfkaaUgk
import Derived.Test.YtohnddjijedfkaaIwk
import Derived.Test.YtohnddjijedfkaaSrck
namespace Go.Proofs.Ytohnddjijedfkaa
open Go.ChangeShapes Go.WideShapes Go.ChangeAt Go.RowKit
set_option linter.unusedVariables false
set_option linter.unusedSimpArgs false

def upd (e : Nat → Value) (k : Nat) (v : Value) : Nat → Value := fun j => if j = k then v else e j
theorem upd_at (e : Nat → Value) (k : Nat) (v : Value) : upd e k v k = v := if_pos rfl
theorem upd_ne (e : Nat → Value) {k j : Nat} (v : Value) (h : j ≠ k) : upd e k v j = e j := if_neg h
/-- the source, and the room for a block -/
structure QB (w0 w : World) (p : Nat) (a0 : Option Addr) (len cap n b2 : Nat) (cs : Array Value) : Prop where
  src : Src w p a0 len cap n
  gro : w0.grownBy w (some p)
  q : Blk w b2 cs
  o1 : p < w0.heap.size
  o2 : w0.heap.size ≤ b2
theorem QB.next {w0 w w' : World} {p : Nat} {a0 : Option Addr} {len cap n n' b2 : Nat} {cs : Array Value} (h : QB w0 w p a0 len cap n b2 cs) (hg : w.grownBy w' (some p)) (hs : Src w' p a0 len cap n') : QB w0 w' p a0 len cap n' b2 cs :=
  ⟨hs, grown_then h.gro hg (fun g e => .inr (by rw [e])), h.q.grown hg (by have := h.o1; have := h.o2; simp; omega), h.o1, h.o2⟩
theorem QB.alloc {w0 w : World} {p : Nat} {a0 : Option Addr} {len cap n b2 : Nat} {cs : Array Value} (h : QB w0 w p a0 len cap n b2 cs) (o : Obj) : QB w0 (w.alloc o) p a0 len cap n b2 cs :=
  ⟨h.src.kept (World.grownBy_alloc w o none) (fun g hg => by cases hg), grown_then h.gro (World.grownBy_alloc w o none) (fun g hg => by cases hg), h.q.alloc o, h.o1, h.o2⟩
theorem QB.set {w0 w : World} {p : Nat} {a0 : Option Addr} {len cap n b2 : Nat} {cs : Array Value} (h : QB w0 w p a0 len cap n b2 cs) (i : Nat) (u : Value) : QB w0 (w.setCell ⟨b2, i, none⟩ u) p a0 len cap n b2 (cs.setIfInBounds i u) := by
  have sg : w.grownBy (w.setCell ⟨b2, i, none⟩ u) (some b2) := ⟨rfl, rfl, rfl, by simp [World.setCell], fun k _ hk => Below.heap_setCell _ _ _ _ (fun e => hk (by rw [e]))⟩
  have := h.o1
  have := h.o2
  exact ⟨h.src.kept sg (fun g hg => by cases hg; omega), grown_then h.gro sg (fun g hg => .inl (by cases hg; exact h.o2)), h.q.set i u, h.o1, h.o2⟩
/-- while a block is drawn: what each operation that is done has given -/
structure BJ (w0 w : World) (p : Nat) (a0 : Option Addr) (len cap n b2 : Nat) (f : Nat → Bool) (e : Nat → Value) : Prop where
  q : ∃ nn, nn + (bif f 1 then 0 else 3) + (bif f 4 then 0 else 3) + (bif f 9 then 0 else 3) + (bif f 10 then 0 else 18) ≤ n + 27 ∧ ∃ cs, QB w0 w p a0 len cap nn b2 cs
  h1 : f 1 = true → ∃ x : Nat, e 1 = .int .i64 (x : Int) ∧ x < 256
  h2 : f 2 = true → ∃ g x : Nat, e 2 = .slice (some ⟨g, 0, none⟩) 3 3 ∧ x < 256 ∧ w0.heap.size ≤ g ∧ g ≠ b2 ∧ Blk w g #[.int .i64 0, .int .i64 255, .int .i64 (x : Int)]
  h4 : f 4 = true → ∃ y : Nat, e 4 = .int .i64 (y : Int) ∧ y < 3
  h5 : f 5 = true → ∃ g x y : Nat, e 5 = .pointer (some ⟨g, y, none⟩) ∧ x < 256 ∧ y < 3 ∧ w0.heap.size ≤ g ∧ g ≠ b2 ∧ Blk w g #[.int .i64 0, .int .i64 255, .int .i64 (x : Int)]
  h6 : f 6 = true → ∃ z : Int, e 6 = .int .i64 z ∧ 0 ≤ z ∧ z ≤ 255
  h9 : f 9 = true → ∃ k : Nat, e 9 = .int .i64 (k : Int) ∧ k < 6
  h10 : f 10 = true → ∃ s : ByteArray, e 10 = .string s ∧ s.size ≤ 5
  h11 : f 11 = true → ∃ (z : Int) (s : ByteArray), e 11 = bkV z s ∧ (0 ≤ z ∧ z ≤ 255) ∧ s.size ≤ 5
  q12 : f 12 = false → Blk w b2 (bkA 0 eS)
  r12 : f 12 = true → ∃ (z : Int) (s : ByteArray), (0 ≤ z ∧ z ≤ 255) ∧ s.size ≤ 5 ∧ Blk w b2 (bkA z s)
theorem upd_keep {f : Nat → Bool} {e : Nat → Value} {k : Nat} {v : Value} (hun : f k = false) : ∀ j, f j = true → upd e k v j = e j := fun j hj => upd_ne e v (fun h => by rw [h, hun] at hj; cases hj)
theorem nth3 {w : World} {g x y : Nat} (h : Blk w g #[.int .i64 0, .int .i64 255, .int .i64 (x : Int)]) (hy : y < 3) (hx : x < 256) : ∃ z : Int, (0 ≤ z ∧ z ≤ 255) ∧ w.cell? ⟨g, y, none⟩ = some (.int .i64 z) := by
  rcases (by omega : y = 0 ∨ y = 1 ∨ y = 2) with rfl | rfl | rfl
  · exact ⟨0, by omega, h.cell 0⟩
  · exact ⟨255, by omega, h.cell 1⟩
  · exact ⟨(x : Int), by omega, h.cell 2⟩
theorem BJ.idle0 {w0 w : World} {p : Nat} {a0 : Option Addr} {len cap n b2 : Nat} {f : Nat → Bool} {e : Nat → Value} (hJ : BJ w0 w p a0 len cap n b2 f e) : BJ w0 w p a0 len cap n b2 (fun j => j == 0 || f j) e := ⟨hJ.q, fun h => hJ.h1 h, fun h => hJ.h2 h, fun h => hJ.h4 h, fun h => hJ.h5 h, fun h => hJ.h6 h, fun h => hJ.h9 h, fun h => hJ.h10 h, fun h => hJ.h11 h, fun h => hJ.q12 h, fun h => hJ.r12 h⟩
theorem BJ.idle3 {w0 w : World} {p : Nat} {a0 : Option Addr} {len cap n b2 : Nat} {f : Nat → Bool} {e : Nat → Value} (hJ : BJ w0 w p a0 len cap n b2 f e) : BJ w0 w p a0 len cap n b2 (fun j => j == 3 || f j) e := ⟨hJ.q, fun h => hJ.h1 h, fun h => hJ.h2 h, fun h => hJ.h4 h, fun h => hJ.h5 h, fun h => hJ.h6 h, fun h => hJ.h9 h, fun h => hJ.h10 h, fun h => hJ.h11 h, fun h => hJ.q12 h, fun h => hJ.r12 h⟩
theorem BJ.idle7 {w0 w : World} {p : Nat} {a0 : Option Addr} {len cap n b2 : Nat} {f : Nat → Bool} {e : Nat → Value} (hJ : BJ w0 w p a0 len cap n b2 f e) : BJ w0 w p a0 len cap n b2 (fun j => j == 7 || f j) e := ⟨hJ.q, fun h => hJ.h1 h, fun h => hJ.h2 h, fun h => hJ.h4 h, fun h => hJ.h5 h, fun h => hJ.h6 h, fun h => hJ.h9 h, fun h => hJ.h10 h, fun h => hJ.h11 h, fun h => hJ.q12 h, fun h => hJ.r12 h⟩
theorem BJ.idle8 {w0 w : World} {p : Nat} {a0 : Option Addr} {len cap n b2 : Nat} {f : Nat → Bool} {e : Nat → Value} (hJ : BJ w0 w p a0 len cap n b2 f e) : BJ w0 w p a0 len cap n b2 (fun j => j == 8 || f j) e := ⟨hJ.q, fun h => hJ.h1 h, fun h => hJ.h2 h, fun h => hJ.h4 h, fun h => hJ.h5 h, fun h => hJ.h6 h, fun h => hJ.h9 h, fun h => hJ.h10 h, fun h => hJ.h11 h, fun h => hJ.q12 h, fun h => hJ.r12 h⟩
theorem BJ.call1 {w0 w : World} {p : Nat} {a0 : Option Addr} {len cap n b2 : Nat} {f : Nat → Bool} {e : Nat → Value} (hJ : BJ w0 w p a0 len cap n b2 f e) {w' : World} {n' : Nat} {cs : Array Value} (hQ : QB w0 w' p a0 len cap n' b2 cs) (hg : w.grownBy w' (some p)) (hb : n' + 0 + (bif f 4 then 0 else 3) + (bif f 9 then 0 else 3) + (bif f 10 then 0 else 18) ≤ n + 27) (v : Nat) (hv : v < 256) : BJ w0 w' p a0 len cap n b2 (fun j => j == 1 || f j) (upd e 1 (.int .i64 (v : Int))) :=
  ⟨⟨_, hb, _, hQ⟩, fun _ => ⟨v, upd_at _ _ _, hv⟩, fun h => by obtain ⟨g, x, e1, hx, g1, g2, hb⟩ := hJ.h2 h; exact ⟨g, x, e1, hx, g1, g2, (hb).grown hg (by have := hQ.o1; have := hQ.o2; simp; omega)⟩, fun h => hJ.h4 h, fun h => by obtain ⟨g, x, y, e1, hx, hy, g1, g2, hb⟩ := hJ.h5 h; exact ⟨g, x, y, e1, hx, hy, g1, g2, (hb).grown hg (by have := hQ.o1; have := hQ.o2; simp; omega)⟩, fun h => hJ.h6 h, fun h => hJ.h9 h, fun h => hJ.h10 h, fun h => hJ.h11 h, fun h => ((hJ.q12 h)).grown hg (by have := hQ.o1; have := hQ.o2; simp; omega), fun h => by obtain ⟨z, s, hz, hs, hb⟩ := hJ.r12 h; exact ⟨z, s, hz, hs, (hb).grown hg (by have := hQ.o1; have := hQ.o2; simp; omega)⟩⟩
theorem BJ.call4 {w0 w : World} {p : Nat} {a0 : Option Addr} {len cap n b2 : Nat} {f : Nat → Bool} {e : Nat → Value} (hJ : BJ w0 w p a0 len cap n b2 f e) {w' : World} {n' : Nat} {cs : Array Value} (hQ : QB w0 w' p a0 len cap n' b2 cs) (hg : w.grownBy w' (some p)) (hb : n' + (bif f 1 then 0 else 3) + 0 + (bif f 9 then 0 else 3) + (bif f 10 then 0 else 18) ≤ n + 27) (v : Nat) (hv : v < 3) : BJ w0 w' p a0 len cap n b2 (fun j => j == 4 || f j) (upd e 4 (.int .i64 (v : Int))) :=
  ⟨⟨_, hb, _, hQ⟩, fun h => hJ.h1 h, fun h => by obtain ⟨g, x, e1, hx, g1, g2, hb⟩ := hJ.h2 h; exact ⟨g, x, e1, hx, g1, g2, (hb).grown hg (by have := hQ.o1; have := hQ.o2; simp; omega)⟩, fun _ => ⟨v, upd_at _ _ _, hv⟩, fun h => by obtain ⟨g, x, y, e1, hx, hy, g1, g2, hb⟩ := hJ.h5 h; exact ⟨g, x, y, e1, hx, hy, g1, g2, (hb).grown hg (by have := hQ.o1; have := hQ.o2; simp; omega)⟩, fun h => hJ.h6 h, fun h => hJ.h9 h, fun h => hJ.h10 h, fun h => hJ.h11 h, fun h => ((hJ.q12 h)).grown hg (by have := hQ.o1; have := hQ.o2; simp; omega), fun h => by obtain ⟨z, s, hz, hs, hb⟩ := hJ.r12 h; exact ⟨z, s, hz, hs, (hb).grown hg (by have := hQ.o1; have := hQ.o2; simp; omega)⟩⟩
theorem BJ.call9 {w0 w : World} {p : Nat} {a0 : Option Addr} {len cap n b2 : Nat} {f : Nat → Bool} {e : Nat → Value} (hJ : BJ w0 w p a0 len cap n b2 f e) {w' : World} {n' : Nat} {cs : Array Value} (hQ : QB w0 w' p a0 len cap n' b2 cs) (hg : w.grownBy w' (some p)) (hb : n' + (bif f 1 then 0 else 3) + (bif f 4 then 0 else 3) + 0 + (bif f 10 then 0 else 18) ≤ n + 27) (v : Nat) (hv : v < 6) : BJ w0 w' p a0 len cap n b2 (fun j => j == 9 || f j) (upd e 9 (.int .i64 (v : Int))) :=
  ⟨⟨_, hb, _, hQ⟩, fun h => hJ.h1 h, fun h => by obtain ⟨g, x, e1, hx, g1, g2, hb⟩ := hJ.h2 h; exact ⟨g, x, e1, hx, g1, g2, (hb).grown hg (by have := hQ.o1; have := hQ.o2; simp; omega)⟩, fun h => hJ.h4 h, fun h => by obtain ⟨g, x, y, e1, hx, hy, g1, g2, hb⟩ := hJ.h5 h; exact ⟨g, x, y, e1, hx, hy, g1, g2, (hb).grown hg (by have := hQ.o1; have := hQ.o2; simp; omega)⟩, fun h => hJ.h6 h, fun _ => ⟨v, upd_at _ _ _, hv⟩, fun h => hJ.h10 h, fun h => hJ.h11 h, fun h => ((hJ.q12 h)).grown hg (by have := hQ.o1; have := hQ.o2; simp; omega), fun h => by obtain ⟨z, s, hz, hs, hb⟩ := hJ.r12 h; exact ⟨z, s, hz, hs, (hb).grown hg (by have := hQ.o1; have := hQ.o2; simp; omega)⟩⟩
theorem BJ.call10 {w0 w : World} {p : Nat} {a0 : Option Addr} {len cap n b2 : Nat} {f : Nat → Bool} {e : Nat → Value} (hJ : BJ w0 w p a0 len cap n b2 f e) {w' : World} {n' : Nat} {cs : Array Value} (hQ : QB w0 w' p a0 len cap n' b2 cs) (hg : w.grownBy w' (some p)) (hb : n' + (bif f 1 then 0 else 3) + (bif f 4 then 0 else 3) + (bif f 9 then 0 else 3) + 0 ≤ n + 27) (s : ByteArray) (hs : s.size ≤ 5) : BJ w0 w' p a0 len cap n b2 (fun j => j == 10 || f j) (upd e 10 (.string s)) :=
  ⟨⟨_, hb, _, hQ⟩, fun h => hJ.h1 h, fun h => by obtain ⟨g, x, e1, hx, g1, g2, hb⟩ := hJ.h2 h; exact ⟨g, x, e1, hx, g1, g2, (hb).grown hg (by have := hQ.o1; have := hQ.o2; simp; omega)⟩, fun h => hJ.h4 h, fun h => by obtain ⟨g, x, y, e1, hx, hy, g1, g2, hb⟩ := hJ.h5 h; exact ⟨g, x, y, e1, hx, hy, g1, g2, (hb).grown hg (by have := hQ.o1; have := hQ.o2; simp; omega)⟩, fun h => hJ.h6 h, fun h => hJ.h9 h, fun _ => ⟨s, upd_at _ _ _, hs⟩, fun h => hJ.h11 h, fun h => ((hJ.q12 h)).grown hg (by have := hQ.o1; have := hQ.o2; simp; omega), fun h => by obtain ⟨z, s, hz, hs, hb⟩ := hJ.r12 h; exact ⟨z, s, hz, hs, (hb).grown hg (by have := hQ.o1; have := hQ.o2; simp; omega)⟩⟩
theorem BJ.build {w0 w : World} {p : Nat} {a0 : Option Addr} {len cap n b2 : Nat} {f : Nat → Bool} {e : Nat → Value} (hJ : BJ w0 w p a0 len cap n b2 f e) (x : Nat) (hx : x < 256) (t : TypeId) : BJ w0 (w.alloc (.cells #[.int .i64 0, .int .i64 255, .int .i64 (x : Int)] t)) p a0 len cap n b2 (fun j => j == 2 || f j) (upd e 2 (.slice (some ⟨w.heap.size, 0, none⟩) 3 3)) := by
  obtain ⟨nn, hnn, cs, hQ⟩ := hJ.q
  have hl := hQ.q.lt
  have hz := hQ.gro.size
  exact ⟨⟨nn, hnn, cs, hQ.alloc _⟩, fun h => hJ.h1 h, fun _ => ⟨w.heap.size, x, upd_at _ _ _, hx, hz, by omega, Blk.new w _ t⟩, fun h => hJ.h4 h, fun h => by obtain ⟨g, x, y, e1, hx, hy, g1, g2, hb⟩ := hJ.h5 h; exact ⟨g, x, y, e1, hx, hy, g1, g2, (hb).alloc _⟩, fun h => hJ.h6 h, fun h => hJ.h9 h, fun h => hJ.h10 h, fun h => hJ.h11 h, fun h => ((hJ.q12 h)).alloc _, fun h => by obtain ⟨z, s, hz, hs, hb⟩ := hJ.r12 h; exact ⟨z, s, hz, hs, (hb).alloc _⟩⟩
theorem BJ.addr {w0 w : World} {p : Nat} {a0 : Option Addr} {len cap n b2 : Nat} {f : Nat → Bool} {e : Nat → Value} (hJ : BJ w0 w p a0 len cap n b2 f e) (g x y : Nat) (hx : x < 256) (hb : w0.heap.size ≤ g ∧ g ≠ b2 ∧ Blk w g #[.int .i64 0, .int .i64 255, .int .i64 (x : Int)]) (hy : y < 3) : BJ w0 w p a0 len cap n b2 (fun j => j == 5 || f j) (upd e 5 (.pointer (some ⟨g, y, none⟩))) := ⟨hJ.q, fun h => hJ.h1 h, fun h => hJ.h2 h, fun h => hJ.h4 h, fun _ => ⟨g, x, y, upd_at _ _ _, hx, hy, hb⟩, fun h => hJ.h6 h, fun h => hJ.h9 h, fun h => hJ.h10 h, fun h => hJ.h11 h, fun h => hJ.q12 h, fun h => hJ.r12 h⟩
theorem BJ.load {w0 w : World} {p : Nat} {a0 : Option Addr} {len cap n b2 : Nat} {f : Nat → Bool} {e : Nat → Value} (hJ : BJ w0 w p a0 len cap n b2 f e) (z : Int) (hz : 0 ≤ z ∧ z ≤ 255) : BJ w0 w p a0 len cap n b2 (fun j => j == 6 || f j) (upd e 6 (.int .i64 z)) := ⟨hJ.q, fun h => hJ.h1 h, fun h => hJ.h2 h, fun h => hJ.h4 h, fun h => hJ.h5 h, fun _ => ⟨z, upd_at _ _ _, hz⟩, fun h => hJ.h9 h, fun h => hJ.h10 h, fun h => hJ.h11 h, fun h => hJ.q12 h, fun h => hJ.r12 h⟩
theorem BJ.mk' {w0 w : World} {p : Nat} {a0 : Option Addr} {len cap n b2 : Nat} {f : Nat → Bool} {e : Nat → Value} (hJ : BJ w0 w p a0 len cap n b2 f e) (z : Int) (s : ByteArray) (hz : 0 ≤ z ∧ z ≤ 255) (hs : s.size ≤ 5) : BJ w0 w p a0 len cap n b2 (fun j => j == 11 || f j) (upd e 11 (bkV z s)) := ⟨hJ.q, fun h => hJ.h1 h, fun h => hJ.h2 h, fun h => hJ.h4 h, fun h => hJ.h5 h, fun h => hJ.h6 h, fun h => hJ.h9 h, fun h => hJ.h10 h, fun _ => ⟨z, s, upd_at _ _ _, hz, hs⟩, fun h => hJ.q12 h, fun h => hJ.r12 h⟩
theorem BJ.store {w0 w : World} {p : Nat} {a0 : Option Addr} {len cap n b2 : Nat} {f : Nat → Bool} {e : Nat → Value} (hJ : BJ w0 w p a0 len cap n b2 f e) (hun : f 12 = false) (z : Int) (s : ByteArray) (hz : 0 ≤ z ∧ z ≤ 255) (hs : s.size ≤ 5) : BJ w0 ((w.setCell ⟨b2, 0, none⟩ (.int .i64 z)).setCell ⟨b2, 1, none⟩ (.string s)) p a0 len cap n b2 (fun j => j == 12 || f j) e := by
  obtain ⟨nn, hnn, cs, hQ⟩ := hJ.q
  exact ⟨⟨nn, hnn, _, (hQ.set 0 (.int .i64 z)).set 1 (.string s)⟩, fun h => hJ.h1 h, fun h => by obtain ⟨g, x, e1, hx, g1, g2, hb⟩ := hJ.h2 h; exact ⟨g, x, e1, hx, g1, g2, ((hb).other (p := ⟨b2, 0, none⟩) g2 _).other (p := ⟨b2, 1, none⟩) g2 _⟩, fun h => hJ.h4 h, fun h => by obtain ⟨g, x, y, e1, hx, hy, g1, g2, hb⟩ := hJ.h5 h; exact ⟨g, x, y, e1, hx, hy, g1, g2, ((hb).other (p := ⟨b2, 0, none⟩) g2 _).other (p := ⟨b2, 1, none⟩) g2 _⟩, fun h => hJ.h6 h, fun h => hJ.h9 h, fun h => hJ.h10 h, fun h => hJ.h11 h, fun h => (by cases h), fun _ => ⟨z, s, hz, hs, ((hJ.q12 hun).set 0 (.int .i64 z)).set 1 (.string s)⟩⟩
def db_V (w0 : World) (p : Nat) (a0 : Option Addr) (len cap n b2 : Nat) : Nat → (Nat → Value) → Value := fun i e => match i with
  | 0 => .pointer (some ⟨p, 0, none⟩)
  | 1 => e 1
  | 2 => e 2
  | 3 => .pointer (some ⟨p, 0, none⟩)
  | 4 => e 4
  | 5 => e 5
  | 6 => e 6
  | 7 => .pointer (some ⟨p, 0, none⟩)
  | 8 => .pointer (some ⟨p, 0, none⟩)
  | 9 => e 9
  | 10 => e 10
  | 11 => e 11
  | _ => undef
def db_J (w1 : World) (w0 : World) (p : Nat) (a0 : Option Addr) (len cap n b2 : Nat) (f : Nat → Bool) (e : (Nat → Value)) (w : World) : Prop :=
  BJ w0 w p a0 len cap n b2 f e
def db_o0 : Oper := ({ dst := some 3, op := Op.move (Operand.tmp 0), type := 40, pos := "l09_tap.go:114", after := #[], guard := none } : Oper)
def db_o1 : Oper := ({ dst := some 4, op := Op.call { callee := Callee.value (Operand.func 44), args := #[Operand.tmp 3, Operand.const (Value.int IntKind.i64 256)], argTypes := #[40, 3] }, type := 3, pos := "l09_tap.go:114", after := #[{ on := 0, ground := Ground.data }], guard := none } : Oper)
def db_o2 : Oper := ({ dst := some 5, op := Op.buildSlice 23 3 #[(0, Operand.const (Value.int IntKind.i64 0)), (1, Operand.const (Value.int IntKind.i64 255)), (2, Operand.tmp 4)], type := 23, pos := "l09_tap.go:114", after := #[{ on := 1, ground := Ground.data }], guard := none } : Oper)
def db_o3 : Oper := ({ dst := some 6, op := Op.move (Operand.tmp 0), type := 40, pos := "l09_tap.go:114", after := #[], guard := none } : Oper)
def db_o4 : Oper := ({ dst := some 7, op := Op.call { callee := Callee.value (Operand.func 44), args := #[Operand.tmp 6, Operand.const (Value.int IntKind.i64 3)], argTypes := #[40, 3] }, type := 3, pos := "l09_tap.go:114", after := #[{ on := 3, ground := Ground.data }, { on := 1, ground := Ground.chain }], guard := none } : Oper)
def db_o5 : Oper := ({ dst := some 8, op := Op.indexAddr 23 (Operand.tmp 5) (Operand.tmp 7), type := 0, pos := "l09_tap.go:114", after := #[{ on := 2, ground := Ground.data }, { on := 4, ground := Ground.data }], guard := none } : Oper)
def db_o6 : Oper := ({ dst := some 9, op := Op.load 3 (Operand.tmp 8), type := 3, pos := "l09_tap.go:114", after := #[{ on := 5, ground := Ground.data }], guard := none } : Oper)
def db_o7 : Oper := ({ dst := some 10, op := Op.move (Operand.tmp 0), type := 40, pos := "l09_tap.go:114", after := #[], guard := none } : Oper)
def db_o8 : Oper := ({ dst := some 11, op := Op.move (Operand.tmp 0), type := 40, pos := "l09_tap.go:114", after := #[], guard := none } : Oper)
def db_o9 : Oper := ({ dst := some 12, op := Op.call { callee := Callee.value (Operand.func 44), args := #[Operand.tmp 11, Operand.const (Value.int IntKind.i64 6)], argTypes := #[40, 3] }, type := 3, pos := "l09_tap.go:114", after := #[{ on := 8, ground := Ground.data }, { on := 4, ground := Ground.chain }], guard := none } : Oper)
def db_o10 : Oper := ({ dst := some 13, op := Op.call { callee := Callee.value (Operand.func 56), args := #[Operand.tmp 10, Operand.tmp 12], argTypes := #[40, 3] }, type := 9, pos := "l09_tap.go:114", after := #[{ on := 7, ground := Ground.data }, { on := 9, ground := Ground.data }, { on := 9, ground := Ground.chain }], guard := none } : Oper)
def db_o11 : Oper := ({ dst := some 14, op := Op.build 66 #[(0, Operand.tmp 9), (1, Operand.tmp 13)], type := 66, pos := "l09_tap.go:114", after := #[{ on := 6, ground := Ground.data }, { on := 10, ground := Ground.data }], guard := none } : Oper)
def db_o12 : Oper := ({ dst := none, op := Op.store 66 (Operand.tmp 2) (Operand.tmp 14), type := 0, pos := "l09_tap.go:114", after := #[{ on := 11, ground := Ground.data }, { on := 10, ground := Ground.chain }, { on := 0, ground := Ground.phase }, { on := 1, ground := Ground.phase }, { on := 2, ground := Ground.phase }, { on := 3, ground := Ground.phase }, { on := 4, ground := Ground.phase }, { on := 5, ground := Ground.phase }, { on := 6, ground := Ground.phase }, { on := 7, ground := Ground.phase }, { on := 8, ground := Ground.phase }, { on := 9, ground := Ground.phase }, { on := 10, ground := Ground.phase }, { on := 11, ground := Ground.phase }], guard := none } : Oper)
def db_O : Array Oper := #[db_o0, db_o1, db_o2, db_o3, db_o4, db_o5, db_o6, db_o7, db_o8, db_o9, db_o10, db_o11, db_o12]
theorem db_no {s : Nat} (h : ([3, 4, 5, 6, 7, 8, 9, 10, 11, 12, 13, 14] : List Nat).contains s = false) : ∀ i, dstAt db_O i ≠ some s := by
  intro i hi
  have hl : i < 13 := by
    rcases Nat.lt_or_ge i 13 with h1 | h1
    · exact h1
    · unfold dstAt at hi
      rw [Array.getElem?_eq_none (by exact h1)] at hi
      cases hi
  rcases (by omega : i = 0 ∨ i = 1 ∨ i = 2 ∨ i = 3 ∨ i = 4 ∨ i = 5 ∨ i = 6 ∨ i = 7 ∨ i = 8 ∨ i = 9 ∨ i = 10 ∨ i = 11 ∨ i = 12) with rfl | rfl | rfl | rfl | rfl | rfl | rfl | rfl | rfl | rfl | rfl | rfl | rfl
  all_goals first
    | (cases hi; simp at h)
    | cases hi
theorem db_keep (w0 : World) (p : Nat) (a0 : Option Addr) (len cap n b2 : Nat) {f : Nat → Bool} {e : Nat → Value} {k : Nat} {v : Value} (hun : f k = false) : ∀ j, f j = true → db_V w0 p a0 len cap n b2 j (upd e k v) = db_V w0 p a0 len cap n b2 j e := by
  intro j hj
  have := upd_keep (e := e) (v := v) hun j hj
  unfold db_V
  split <;> first | rfl | exact this
set_option maxRecDepth 100000 in
set_option maxHeartbeats 2000000 in
theorem db_s0 (A : Act) (w1 : World) (Q : Exit → Act → World → Prop) (w0 : World) (p : Nat) (a0 : Option Addr) (len cap n b2 : Nat) 
    (hp : A.tmps.getD 0 undef = .pointer (some ⟨p, 0, none⟩)) (hm : A.tmps.getD 2 undef = .pointer (some ⟨b2, 0, none⟩)) (hn : n ≤ 1000000) (hS0 : BJ w0 w1.drew p a0 len cap n b2 (fun _ => false) (fun _ => undef))
    (f : Nat → Bool) (e : (Nat → Value)) (a : Act) (w : World) (hun : f 0 = false) (hdep : ∀ d ∈ db_o0.after, Region.binds .any d = true → f d.on = true) (hJ : db_J w1 w0 p a0 len cap n b2 f e w) (hFr : Fr db_O A f (fun j => db_V w0 p a0 len cap n b2 j e) a)
    (K : Act → World → Prop) (hK : Hid (∀ v e' w', v = db_V w0 p a0 len cap n b2 0 e' → (∀ j, f j = true → db_V w0 p a0 len cap n b2 j e' = db_V w0 p a0 len cap n b2 j e) → db_J w1 w0 p a0 len cap n b2 (fun j => j == 0 || f j) e' w' → K (a.put db_o0.dst v) w')) :
    if Region.wanted db_o0 (yielded db_O a.tmps) = true then Oper.wp Try.prog db_o0 a w K Q else K (a.put db_o0.dst undef) w := by
  unfold db_o0 at hdep hK ⊢
  have v0 := (hFr.old 0 (db_no (by decide))).trans hp
  replace hJ := hid hJ
  clear hdep hFr hp hm
  go_simp
  exact hK.out _ e _ rfl (fun _ _ => rfl) hJ.out.idle0
set_option maxRecDepth 100000 in
set_option maxHeartbeats 2000000 in
theorem db_s1 (A : Act) (w1 : World) (Q : Exit → Act → World → Prop) (w0 : World) (p : Nat) (a0 : Option Addr) (len cap n b2 : Nat) 
    (hp : A.tmps.getD 0 undef = .pointer (some ⟨p, 0, none⟩)) (hm : A.tmps.getD 2 undef = .pointer (some ⟨b2, 0, none⟩)) (hn : n ≤ 1000000) (hS0 : BJ w0 w1.drew p a0 len cap n b2 (fun _ => false) (fun _ => undef))
    (f : Nat → Bool) (e : (Nat → Value)) (a : Act) (w : World) (hun : f 1 = false) (hdep : ∀ d ∈ db_o1.after, Region.binds .any d = true → f d.on = true) (hJ : db_J w1 w0 p a0 len cap n b2 f e w) (hFr : Fr db_O A f (fun j => db_V w0 p a0 len cap n b2 j e) a)
    (K : Act → World → Prop) (hK : Hid (∀ v e' w', v = db_V w0 p a0 len cap n b2 1 e' → (∀ j, f j = true → db_V w0 p a0 len cap n b2 j e' = db_V w0 p a0 len cap n b2 j e) → db_J w1 w0 p a0 len cap n b2 (fun j => j == 1 || f j) e' w' → K (a.put db_o1.dst v) w')) :
    if Region.wanted db_o1 (yielded db_O a.tmps) = true then Oper.wp Try.prog db_o1 a w K Q else K (a.put db_o1.dst undef) w := by
  unfold db_o1 at hdep hK ⊢
  have k0 : f 0 = true := hdep { on := 0, ground := .data } (by simp) rfl
  have v3 : a.tmps.getD 3 undef = .pointer (some ⟨p, 0, none⟩) := hFr.new 0 3 rfl k0
  obtain ⟨nn, hnn, cs, hQ⟩ := hJ.q
  have hbd : nn ≤ n + 27 := by omega
  have hN := hid (next_any p a0 len cap nn 256 w hQ.src (by omega))
  replace hQ := hid hQ
  replace hnn := hid hnn
  replace hJ := hid hJ
  clear hdep hFr hp hm
  go_simp
  go_at_call 44
  refine hN.out.mono ?_
  rintro r w' ⟨⟨v, rfl, g0, _, g1⟩, ⟨n', hn', hs'⟩, hg⟩
  have g2 := g1 (by omega)
  obtain ⟨vn, rfl⟩ : ∃ vn : Nat, v = vn := ⟨v.toNat, by omega⟩
  have hJ2 := hid (hJ.out.call1 (hQ.out.next hg hs') hg (by have := hnn.out; rw [hun] at this; simp only [cond] at this ⊢; omega) vn (by omega))
  clear hn' hs' hg g0 g1 g2
  go_simp
  exact hK.out _ (upd e 1 (.int .i64 (vn : Int))) _ rfl (db_keep w0 p a0 len cap n b2 hun) hJ2.out
set_option maxRecDepth 100000 in
set_option maxHeartbeats 2000000 in
theorem db_s2 (A : Act) (w1 : World) (Q : Exit → Act → World → Prop) (w0 : World) (p : Nat) (a0 : Option Addr) (len cap n b2 : Nat) 
    (hp : A.tmps.getD 0 undef = .pointer (some ⟨p, 0, none⟩)) (hm : A.tmps.getD 2 undef = .pointer (some ⟨b2, 0, none⟩)) (hn : n ≤ 1000000) (hS0 : BJ w0 w1.drew p a0 len cap n b2 (fun _ => false) (fun _ => undef))
    (f : Nat → Bool) (e : (Nat → Value)) (a : Act) (w : World) (hun : f 2 = false) (hdep : ∀ d ∈ db_o2.after, Region.binds .any d = true → f d.on = true) (hJ : db_J w1 w0 p a0 len cap n b2 f e w) (hFr : Fr db_O A f (fun j => db_V w0 p a0 len cap n b2 j e) a)
    (K : Act → World → Prop) (hK : Hid (∀ v e' w', v = db_V w0 p a0 len cap n b2 2 e' → (∀ j, f j = true → db_V w0 p a0 len cap n b2 j e' = db_V w0 p a0 len cap n b2 j e) → db_J w1 w0 p a0 len cap n b2 (fun j => j == 2 || f j) e' w' → K (a.put db_o2.dst v) w')) :
    if Region.wanted db_o2 (yielded db_O a.tmps) = true then Oper.wp Try.prog db_o2 a w K Q else K (a.put db_o2.dst undef) w := by
  unfold db_o2 at hdep hK ⊢
  have k1 : f 1 = true := hdep { on := 1, ground := .data } (by simp) rfl
  have v4 : a.tmps.getD 4 undef = e 1 := hFr.new 1 4 rfl k1
  obtain ⟨x, hx, hx2⟩ := hJ.h1 k1
  rw [hx] at v4
  have v4b : a.tmps[4]?.getD undef = .int .i64 (x : Int) := by simpa using v4
  have hJ2 := hid (hJ.build x hx2 3)
  clear hx
  replace hJ := hid hJ
  clear hdep hFr hp hm
  go_simp
  exact hK.out _ (upd e 2 (.slice (some ⟨w.heap.size, 0, none⟩) 3 3)) _ rfl (db_keep w0 p a0 len cap n b2 hun) hJ2.out
set_option maxRecDepth 100000 in
set_option maxHeartbeats 2000000 in
theorem db_s3 (A : Act) (w1 : World) (Q : Exit → Act → World → Prop) (w0 : World) (p : Nat) (a0 : Option Addr) (len cap n b2 : Nat) 
    (hp : A.tmps.getD 0 undef = .pointer (some ⟨p, 0, none⟩)) (hm : A.tmps.getD 2 undef = .pointer (some ⟨b2, 0, none⟩)) (hn : n ≤ 1000000) (hS0 : BJ w0 w1.drew p a0 len cap n b2 (fun _ => false) (fun _ => undef))
    (f : Nat → Bool) (e : (Nat → Value)) (a : Act) (w : World) (hun : f 3 = false) (hdep : ∀ d ∈ db_o3.after, Region.binds .any d = true → f d.on = true) (hJ : db_J w1 w0 p a0 len cap n b2 f e w) (hFr : Fr db_O A f (fun j => db_V w0 p a0 len cap n b2 j e) a)
    (K : Act → World → Prop) (hK : Hid (∀ v e' w', v = db_V w0 p a0 len cap n b2 3 e' → (∀ j, f j = true → db_V w0 p a0 len cap n b2 j e' = db_V w0 p a0 len cap n b2 j e) → db_J w1 w0 p a0 len cap n b2 (fun j => j == 3 || f j) e' w' → K (a.put db_o3.dst v) w')) :
    if Region.wanted db_o3 (yielded db_O a.tmps) = true then Oper.wp Try.prog db_o3 a w K Q else K (a.put db_o3.dst undef) w := by
  unfold db_o3 at hdep hK ⊢
  have v0 := (hFr.old 0 (db_no (by decide))).trans hp
  replace hJ := hid hJ
  clear hdep hFr hp hm
  go_simp
  exact hK.out _ e _ rfl (fun _ _ => rfl) hJ.out.idle3
set_option maxRecDepth 100000 in
set_option maxHeartbeats 2000000 in
theorem db_s4 (A : Act) (w1 : World) (Q : Exit → Act → World → Prop) (w0 : World) (p : Nat) (a0 : Option Addr) (len cap n b2 : Nat) 
    (hp : A.tmps.getD 0 undef = .pointer (some ⟨p, 0, none⟩)) (hm : A.tmps.getD 2 undef = .pointer (some ⟨b2, 0, none⟩)) (hn : n ≤ 1000000) (hS0 : BJ w0 w1.drew p a0 len cap n b2 (fun _ => false) (fun _ => undef))
    (f : Nat → Bool) (e : (Nat → Value)) (a : Act) (w : World) (hun : f 4 = false) (hdep : ∀ d ∈ db_o4.after, Region.binds .any d = true → f d.on = true) (hJ : db_J w1 w0 p a0 len cap n b2 f e w) (hFr : Fr db_O A f (fun j => db_V w0 p a0 len cap n b2 j e) a)
    (K : Act → World → Prop) (hK : Hid (∀ v e' w', v = db_V w0 p a0 len cap n b2 4 e' → (∀ j, f j = true → db_V w0 p a0 len cap n b2 j e' = db_V w0 p a0 len cap n b2 j e) → db_J w1 w0 p a0 len cap n b2 (fun j => j == 4 || f j) e' w' → K (a.put db_o4.dst v) w')) :
    if Region.wanted db_o4 (yielded db_O a.tmps) = true then Oper.wp Try.prog db_o4 a w K Q else K (a.put db_o4.dst undef) w := by
  unfold db_o4 at hdep hK ⊢
  have k3 : f 3 = true := hdep { on := 3, ground := .data } (by simp) rfl
  have v6 : a.tmps.getD 6 undef = .pointer (some ⟨p, 0, none⟩) := hFr.new 3 6 rfl k3
  obtain ⟨nn, hnn, cs, hQ⟩ := hJ.q
  have hbd : nn ≤ n + 27 := by omega
  have hN := hid (next_any p a0 len cap nn 3 w hQ.src (by omega))
  replace hQ := hid hQ
  replace hnn := hid hnn
  replace hJ := hid hJ
  clear hdep hFr hp hm
  go_simp
  go_at_call 44
  refine hN.out.mono ?_
  rintro r w' ⟨⟨v, rfl, g0, _, g1⟩, ⟨n', hn', hs'⟩, hg⟩
  have g2 := g1 (by omega)
  obtain ⟨vn, rfl⟩ : ∃ vn : Nat, v = vn := ⟨v.toNat, by omega⟩
  have hJ2 := hid (hJ.out.call4 (hQ.out.next hg hs') hg (by have := hnn.out; rw [hun] at this; simp only [cond] at this ⊢; omega) vn (by omega))
  clear hn' hs' hg g0 g1 g2
  go_simp
  exact hK.out _ (upd e 4 (.int .i64 (vn : Int))) _ rfl (db_keep w0 p a0 len cap n b2 hun) hJ2.out
set_option maxRecDepth 100000 in
set_option maxHeartbeats 2000000 in
theorem db_s5 (A : Act) (w1 : World) (Q : Exit → Act → World → Prop) (w0 : World) (p : Nat) (a0 : Option Addr) (len cap n b2 : Nat) 
    (hp : A.tmps.getD 0 undef = .pointer (some ⟨p, 0, none⟩)) (hm : A.tmps.getD 2 undef = .pointer (some ⟨b2, 0, none⟩)) (hn : n ≤ 1000000) (hS0 : BJ w0 w1.drew p a0 len cap n b2 (fun _ => false) (fun _ => undef))
    (f : Nat → Bool) (e : (Nat → Value)) (a : Act) (w : World) (hun : f 5 = false) (hdep : ∀ d ∈ db_o5.after, Region.binds .any d = true → f d.on = true) (hJ : db_J w1 w0 p a0 len cap n b2 f e w) (hFr : Fr db_O A f (fun j => db_V w0 p a0 len cap n b2 j e) a)
    (K : Act → World → Prop) (hK : Hid (∀ v e' w', v = db_V w0 p a0 len cap n b2 5 e' → (∀ j, f j = true → db_V w0 p a0 len cap n b2 j e' = db_V w0 p a0 len cap n b2 j e) → db_J w1 w0 p a0 len cap n b2 (fun j => j == 5 || f j) e' w' → K (a.put db_o5.dst v) w')) :
    if Region.wanted db_o5 (yielded db_O a.tmps) = true then Oper.wp Try.prog db_o5 a w K Q else K (a.put db_o5.dst undef) w := by
  unfold db_o5 at hdep hK ⊢
  have k2 : f 2 = true := hdep { on := 2, ground := .data } (by simp) rfl
  have k4 : f 4 = true := hdep { on := 4, ground := .data } (by simp) rfl
  have v5 : a.tmps.getD 5 undef = e 2 := hFr.new 2 5 rfl k2
  have v7 : a.tmps.getD 7 undef = e 4 := hFr.new 4 7 rfl k4
  obtain ⟨g, x, hg, hx, hb⟩ := hJ.h2 k2
  obtain ⟨y, hy, hy2⟩ := hJ.h4 k4
  rw [hg] at v5
  rw [hy] at v7
  have y0 : (0 : Int) ≤ (y : Int) := by omega
  have y1 : (y : Int) < 3 := by omega
  have hJ2 := hid (hJ.addr g x y hx hb hy2)
  clear hg hy
  replace hb := hid hb
  replace hJ := hid hJ
  clear hdep hFr hp hm
  go_simp
  exact hK.out _ (upd e 5 (.pointer (some ⟨g, y, none⟩))) _ (by simp [db_V, upd]) (db_keep w0 p a0 len cap n b2 hun) hJ2.out
set_option maxRecDepth 100000 in
set_option maxHeartbeats 2000000 in
theorem db_s6 (A : Act) (w1 : World) (Q : Exit → Act → World → Prop) (w0 : World) (p : Nat) (a0 : Option Addr) (len cap n b2 : Nat) 
    (hp : A.tmps.getD 0 undef = .pointer (some ⟨p, 0, none⟩)) (hm : A.tmps.getD 2 undef = .pointer (some ⟨b2, 0, none⟩)) (hn : n ≤ 1000000) (hS0 : BJ w0 w1.drew p a0 len cap n b2 (fun _ => false) (fun _ => undef))
    (f : Nat → Bool) (e : (Nat → Value)) (a : Act) (w : World) (hun : f 6 = false) (hdep : ∀ d ∈ db_o6.after, Region.binds .any d = true → f d.on = true) (hJ : db_J w1 w0 p a0 len cap n b2 f e w) (hFr : Fr db_O A f (fun j => db_V w0 p a0 len cap n b2 j e) a)
    (K : Act → World → Prop) (hK : Hid (∀ v e' w', v = db_V w0 p a0 len cap n b2 6 e' → (∀ j, f j = true → db_V w0 p a0 len cap n b2 j e' = db_V w0 p a0 len cap n b2 j e) → db_J w1 w0 p a0 len cap n b2 (fun j => j == 6 || f j) e' w' → K (a.put db_o6.dst v) w')) :
    if Region.wanted db_o6 (yielded db_O a.tmps) = true then Oper.wp Try.prog db_o6 a w K Q else K (a.put db_o6.dst undef) w := by
  unfold db_o6 at hdep hK ⊢
  have k5 : f 5 = true := hdep { on := 5, ground := .data } (by simp) rfl
  have v8 : a.tmps.getD 8 undef = e 5 := hFr.new 5 8 rfl k5
  obtain ⟨g, x, y, hg, hx, hy, hb⟩ := hJ.h5 k5
  rw [hg] at v8
  obtain ⟨z, hz, hc⟩ := nth3 hb.2.2 hy hx
  have hJ2 := hid (hJ.load z hz)
  clear hg
  replace hb := hid hb
  replace hJ := hid hJ
  clear hdep hFr hp hm
  go_simp
  exact hK.out _ (upd e 6 (.int .i64 z)) _ rfl (db_keep w0 p a0 len cap n b2 hun) hJ2.out
set_option maxRecDepth 100000 in
set_option maxHeartbeats 2000000 in
theorem db_s7 (A : Act) (w1 : World) (Q : Exit → Act → World → Prop) (w0 : World) (p : Nat) (a0 : Option Addr) (len cap n b2 : Nat) 
    (hp : A.tmps.getD 0 undef = .pointer (some ⟨p, 0, none⟩)) (hm : A.tmps.getD 2 undef = .pointer (some ⟨b2, 0, none⟩)) (hn : n ≤ 1000000) (hS0 : BJ w0 w1.drew p a0 len cap n b2 (fun _ => false) (fun _ => undef))
    (f : Nat → Bool) (e : (Nat → Value)) (a : Act) (w : World) (hun : f 7 = false) (hdep : ∀ d ∈ db_o7.after, Region.binds .any d = true → f d.on = true) (hJ : db_J w1 w0 p a0 len cap n b2 f e w) (hFr : Fr db_O A f (fun j => db_V w0 p a0 len cap n b2 j e) a)
    (K : Act → World → Prop) (hK : Hid (∀ v e' w', v = db_V w0 p a0 len cap n b2 7 e' → (∀ j, f j = true → db_V w0 p a0 len cap n b2 j e' = db_V w0 p a0 len cap n b2 j e) → db_J w1 w0 p a0 len cap n b2 (fun j => j == 7 || f j) e' w' → K (a.put db_o7.dst v) w')) :
    if Region.wanted db_o7 (yielded db_O a.tmps) = true then Oper.wp Try.prog db_o7 a w K Q else K (a.put db_o7.dst undef) w := by
  unfold db_o7 at hdep hK ⊢
  have v0 := (hFr.old 0 (db_no (by decide))).trans hp
  replace hJ := hid hJ
  clear hdep hFr hp hm
  go_simp
  exact hK.out _ e _ rfl (fun _ _ => rfl) hJ.out.idle7
set_option maxRecDepth 100000 in
set_option maxHeartbeats 2000000 in
theorem db_s8 (A : Act) (w1 : World) (Q : Exit → Act → World → Prop) (w0 : World) (p : Nat) (a0 : Option Addr) (len cap n b2 : Nat) 
    (hp : A.tmps.getD 0 undef = .pointer (some ⟨p, 0, none⟩)) (hm : A.tmps.getD 2 undef = .pointer (some ⟨b2, 0, none⟩)) (hn : n ≤ 1000000) (hS0 : BJ w0 w1.drew p a0 len cap n b2 (fun _ => false) (fun _ => undef))
    (f : Nat → Bool) (e : (Nat → Value)) (a : Act) (w : World) (hun : f 8 = false) (hdep : ∀ d ∈ db_o8.after, Region.binds .any d = true → f d.on = true) (hJ : db_J w1 w0 p a0 len cap n b2 f e w) (hFr : Fr db_O A f (fun j => db_V w0 p a0 len cap n b2 j e) a)
    (K : Act → World → Prop) (hK : Hid (∀ v e' w', v = db_V w0 p a0 len cap n b2 8 e' → (∀ j, f j = true → db_V w0 p a0 len cap n b2 j e' = db_V w0 p a0 len cap n b2 j e) → db_J w1 w0 p a0 len cap n b2 (fun j => j == 8 || f j) e' w' → K (a.put db_o8.dst v) w')) :
    if Region.wanted db_o8 (yielded db_O a.tmps) = true then Oper.wp Try.prog db_o8 a w K Q else K (a.put db_o8.dst undef) w := by
  unfold db_o8 at hdep hK ⊢
  have v0 := (hFr.old 0 (db_no (by decide))).trans hp
  replace hJ := hid hJ
  clear hdep hFr hp hm
  go_simp
  exact hK.out _ e _ rfl (fun _ _ => rfl) hJ.out.idle8
set_option maxRecDepth 100000 in
set_option maxHeartbeats 2000000 in
theorem db_s9 (A : Act) (w1 : World) (Q : Exit → Act → World → Prop) (w0 : World) (p : Nat) (a0 : Option Addr) (len cap n b2 : Nat) 
    (hp : A.tmps.getD 0 undef = .pointer (some ⟨p, 0, none⟩)) (hm : A.tmps.getD 2 undef = .pointer (some ⟨b2, 0, none⟩)) (hn : n ≤ 1000000) (hS0 : BJ w0 w1.drew p a0 len cap n b2 (fun _ => false) (fun _ => undef))
    (f : Nat → Bool) (e : (Nat → Value)) (a : Act) (w : World) (hun : f 9 = false) (hdep : ∀ d ∈ db_o9.after, Region.binds .any d = true → f d.on = true) (hJ : db_J w1 w0 p a0 len cap n b2 f e w) (hFr : Fr db_O A f (fun j => db_V w0 p a0 len cap n b2 j e) a)
    (K : Act → World → Prop) (hK : Hid (∀ v e' w', v = db_V w0 p a0 len cap n b2 9 e' → (∀ j, f j = true → db_V w0 p a0 len cap n b2 j e' = db_V w0 p a0 len cap n b2 j e) → db_J w1 w0 p a0 len cap n b2 (fun j => j == 9 || f j) e' w' → K (a.put db_o9.dst v) w')) :
    if Region.wanted db_o9 (yielded db_O a.tmps) = true then Oper.wp Try.prog db_o9 a w K Q else K (a.put db_o9.dst undef) w := by
  unfold db_o9 at hdep hK ⊢
  have k8 : f 8 = true := hdep { on := 8, ground := .data } (by simp) rfl
  have v11 : a.tmps.getD 11 undef = .pointer (some ⟨p, 0, none⟩) := hFr.new 8 11 rfl k8
  obtain ⟨nn, hnn, cs, hQ⟩ := hJ.q
  have hbd : nn ≤ n + 27 := by omega
  have hN := hid (next_any p a0 len cap nn 6 w hQ.src (by omega))
  replace hQ := hid hQ
  replace hnn := hid hnn
  replace hJ := hid hJ
  clear hdep hFr hp hm
  go_simp
  go_at_call 44
  refine hN.out.mono ?_
  rintro r w' ⟨⟨v, rfl, g0, _, g1⟩, ⟨n', hn', hs'⟩, hg⟩
  have g2 := g1 (by omega)
  obtain ⟨vn, rfl⟩ : ∃ vn : Nat, v = vn := ⟨v.toNat, by omega⟩
  have hJ2 := hid (hJ.out.call9 (hQ.out.next hg hs') hg (by have := hnn.out; rw [hun] at this; simp only [cond] at this ⊢; omega) vn (by omega))
  clear hn' hs' hg g0 g1 g2
  go_simp
  exact hK.out _ (upd e 9 (.int .i64 (vn : Int))) _ rfl (db_keep w0 p a0 len cap n b2 hun) hJ2.out
set_option maxRecDepth 100000 in
set_option maxHeartbeats 2000000 in
theorem db_s10 (A : Act) (w1 : World) (Q : Exit → Act → World → Prop) (w0 : World) (p : Nat) (a0 : Option Addr) (len cap n b2 : Nat) 
    (hp : A.tmps.getD 0 undef = .pointer (some ⟨p, 0, none⟩)) (hm : A.tmps.getD 2 undef = .pointer (some ⟨b2, 0, none⟩)) (hn : n ≤ 1000000) (hS0 : BJ w0 w1.drew p a0 len cap n b2 (fun _ => false) (fun _ => undef))
    (f : Nat → Bool) (e : (Nat → Value)) (a : Act) (w : World) (hun : f 10 = false) (hdep : ∀ d ∈ db_o10.after, Region.binds .any d = true → f d.on = true) (hJ : db_J w1 w0 p a0 len cap n b2 f e w) (hFr : Fr db_O A f (fun j => db_V w0 p a0 len cap n b2 j e) a)
    (K : Act → World → Prop) (hK : Hid (∀ v e' w', v = db_V w0 p a0 len cap n b2 10 e' → (∀ j, f j = true → db_V w0 p a0 len cap n b2 j e' = db_V w0 p a0 len cap n b2 j e) → db_J w1 w0 p a0 len cap n b2 (fun j => j == 10 || f j) e' w' → K (a.put db_o10.dst v) w')) :
    if Region.wanted db_o10 (yielded db_O a.tmps) = true then Oper.wp Try.prog db_o10 a w K Q else K (a.put db_o10.dst undef) w := by
  unfold db_o10 at hdep hK ⊢
  have k7 : f 7 = true := hdep { on := 7, ground := .data } (by simp) rfl
  have k9 : f 9 = true := hdep { on := 9, ground := .data } (by simp) rfl
  have v10 : a.tmps.getD 10 undef = .pointer (some ⟨p, 0, none⟩) := hFr.new 7 10 rfl k7
  have v12 : a.tmps.getD 12 undef = e 9 := hFr.new 9 12 rfl k9
  obtain ⟨k, hk, hk2⟩ := hJ.h9 k9
  rw [hk] at v12
  obtain ⟨nn, hnn, cs, hQ⟩ := hJ.q
  have hbd : nn ≤ n + 27 := by omega
  have hN := hid (some_any p a0 len cap nn k w hQ.src (by omega) (by omega))
  replace hQ := hid hQ
  replace hnn := hid hnn
  clear hk
  replace hJ := hid hJ
  clear hdep hFr hp hm
  go_simp
  go_at_call 56
  refine hN.out.mono ?_
  rintro r w' ⟨⟨xs, rfl, hl, _⟩, ⟨n', hn', hs'⟩, hg⟩
  obtain ⟨s, hs⟩ : ∃ s, strOfNums xs = s := ⟨_, rfl⟩
  have hss : s.size ≤ 5 := by rw [← hs, strOfNums_size]; omega
  rw [hs]
  have hJ2 := hid (hJ.out.call10 (hQ.out.next hg hs') hg (by have := hnn.out; rw [hun] at this; simp only [cond] at this ⊢; omega) s hss)
  clear hn' hs' hg hs hl
  go_simp
  exact hK.out _ (upd e 10 (.string s)) _ rfl (db_keep w0 p a0 len cap n b2 hun) hJ2.out
set_option maxRecDepth 100000 in
set_option maxHeartbeats 2000000 in
theorem db_s11 (A : Act) (w1 : World) (Q : Exit → Act → World → Prop) (w0 : World) (p : Nat) (a0 : Option Addr) (len cap n b2 : Nat) 
    (hp : A.tmps.getD 0 undef = .pointer (some ⟨p, 0, none⟩)) (hm : A.tmps.getD 2 undef = .pointer (some ⟨b2, 0, none⟩)) (hn : n ≤ 1000000) (hS0 : BJ w0 w1.drew p a0 len cap n b2 (fun _ => false) (fun _ => undef))
    (f : Nat → Bool) (e : (Nat → Value)) (a : Act) (w : World) (hun : f 11 = false) (hdep : ∀ d ∈ db_o11.after, Region.binds .any d = true → f d.on = true) (hJ : db_J w1 w0 p a0 len cap n b2 f e w) (hFr : Fr db_O A f (fun j => db_V w0 p a0 len cap n b2 j e) a)
    (K : Act → World → Prop) (hK : Hid (∀ v e' w', v = db_V w0 p a0 len cap n b2 11 e' → (∀ j, f j = true → db_V w0 p a0 len cap n b2 j e' = db_V w0 p a0 len cap n b2 j e) → db_J w1 w0 p a0 len cap n b2 (fun j => j == 11 || f j) e' w' → K (a.put db_o11.dst v) w')) :
    if Region.wanted db_o11 (yielded db_O a.tmps) = true then Oper.wp Try.prog db_o11 a w K Q else K (a.put db_o11.dst undef) w := by
  unfold db_o11 at hdep hK ⊢
  have k6 : f 6 = true := hdep { on := 6, ground := .data } (by simp) rfl
  have k10 : f 10 = true := hdep { on := 10, ground := .data } (by simp) rfl
  have v9 : a.tmps.getD 9 undef = e 6 := hFr.new 6 9 rfl k6
  have v13 : a.tmps.getD 13 undef = e 10 := hFr.new 10 13 rfl k10
  obtain ⟨z, hz, hz2⟩ := hJ.h6 k6
  obtain ⟨s, hs, hs2⟩ := hJ.h10 k10
  rw [hz] at v9
  rw [hs] at v13
  have v9b : a.tmps[9]?.getD undef = .int .i64 z := by simpa using v9
  have v13b : a.tmps[13]?.getD undef = .string s := by simpa using v13
  have hJ2 := hid (hJ.mk' z s hz2 hs2)
  clear hz hs
  replace hJ := hid hJ
  clear hdep hFr hp hm
  go_simp
  exact hK.out _ (upd e 11 (bkV z s)) _ rfl (db_keep w0 p a0 len cap n b2 hun) hJ2.out
set_option maxRecDepth 100000 in
set_option maxHeartbeats 2000000 in
theorem db_s12 (A : Act) (w1 : World) (Q : Exit → Act → World → Prop) (w0 : World) (p : Nat) (a0 : Option Addr) (len cap n b2 : Nat) 
    (hp : A.tmps.getD 0 undef = .pointer (some ⟨p, 0, none⟩)) (hm : A.tmps.getD 2 undef = .pointer (some ⟨b2, 0, none⟩)) (hn : n ≤ 1000000) (hS0 : BJ w0 w1.drew p a0 len cap n b2 (fun _ => false) (fun _ => undef))
    (f : Nat → Bool) (e : (Nat → Value)) (a : Act) (w : World) (hun : f 12 = false) (hdep : ∀ d ∈ db_o12.after, Region.binds .any d = true → f d.on = true) (hJ : db_J w1 w0 p a0 len cap n b2 f e w) (hFr : Fr db_O A f (fun j => db_V w0 p a0 len cap n b2 j e) a)
    (K : Act → World → Prop) (hK : Hid (∀ v e' w', v = db_V w0 p a0 len cap n b2 12 e' → (∀ j, f j = true → db_V w0 p a0 len cap n b2 j e' = db_V w0 p a0 len cap n b2 j e) → db_J w1 w0 p a0 len cap n b2 (fun j => j == 12 || f j) e' w' → K (a.put db_o12.dst v) w')) :
    if Region.wanted db_o12 (yielded db_O a.tmps) = true then Oper.wp Try.prog db_o12 a w K Q else K (a.put db_o12.dst undef) w := by
  unfold db_o12 at hdep hK ⊢
  have k11 : f 11 = true := hdep { on := 11, ground := .data } (by simp) rfl
  have v14 : a.tmps.getD 14 undef = e 11 := hFr.new 11 14 rfl k11
  obtain ⟨z, s, hv, hz, hs⟩ := hJ.h11 k11
  rw [hv] at v14
  have v2 := (hFr.old 2 (db_no (by decide))).trans hm
  have hb0 := hJ.q12 hun
  have y := hb0.cell
  have yf := hb0.frozen
  have yl := hb0.lt
  have hJ2 := hid (hJ.store hun z s hz hs)
  clear hv
  replace hb0 := hid hb0
  replace hJ := hid hJ
  clear hdep hFr hp hm
  go_simp
  exact hK.out (db_V w0 p a0 len cap n b2 12 e) e _ rfl (fun _ _ => rfl) hJ2.out
set_option maxRecDepth 100000 in
set_option maxHeartbeats 4000000 in
theorem db_reg (A : Act) (w1 : World) (Q : Exit → Act → World → Prop) (w0 : World) (p : Nat) (a0 : Option Addr) (len cap n b2 : Nat) 
    (hp : A.tmps.getD 0 undef = .pointer (some ⟨p, 0, none⟩)) (hm : A.tmps.getD 2 undef = .pointer (some ⟨b2, 0, none⟩)) (hn : n ≤ 1000000) (hS0 : BJ w0 w1.drew p a0 len cap n b2 (fun _ => false) (fun _ => undef)) (hN : 15 ≤ A.tmps.size)
    (h : ∀ (w : World) (e : (Nat → Value)), (∃ (z : Int) (s : ByteArray) (nn : Nat) (cs : Array Value), (0 ≤ z ∧ z ≤ 255) ∧ s.size ≤ 5 ∧ Blk w b2 (bkA z s) ∧ nn ≤ n + 27 ∧ QB w0 w p a0 len cap nn b2 cs) → Q .normal (putsA A [(3, .pointer (some ⟨p, 0, none⟩)), (4, e 1), (5, e 2), (6, .pointer (some ⟨p, 0, none⟩)), (7, e 4), (8, e 5), (9, e 6), (10, .pointer (some ⟨p, 0, none⟩)), (11, .pointer (some ⟨p, 0, none⟩)), (12, e 9), (13, e 10), (14, e 11)]) w) :
    (Code.region 1 #[({ dst := some 3, op := Op.move (Operand.tmp 0), type := 40, pos := "l09_tap.go:114", after := #[], guard := none } : Oper), ({ dst := some 4, op := Op.call { callee := Callee.value (Operand.func 44), args := #[Operand.tmp 3, Operand.const (Value.int IntKind.i64 256)], argTypes := #[40, 3] }, type := 3, pos := "l09_tap.go:114", after := #[{ on := 0, ground := Ground.data }], guard := none } : Oper), ({ dst := some 5, op := Op.buildSlice 23 3 #[(0, Operand.const (Value.int IntKind.i64 0)), (1, Operand.const (Value.int IntKind.i64 255)), (2, Operand.tmp 4)], type := 23, pos := "l09_tap.go:114", after := #[{ on := 1, ground := Ground.data }], guard := none } : Oper), ({ dst := some 6, op := Op.move (Operand.tmp 0), type := 40, pos := "l09_tap.go:114", after := #[], guard := none } : Oper), ({ dst := some 7, op := Op.call { callee := Callee.value (Operand.func 44), args := #[Operand.tmp 6, Operand.const (Value.int IntKind.i64 3)], argTypes := #[40, 3] }, type := 3, pos := "l09_tap.go:114", after := #[{ on := 3, ground := Ground.data }, { on := 1, ground := Ground.chain }], guard := none } : Oper), ({ dst := some 8, op := Op.indexAddr 23 (Operand.tmp 5) (Operand.tmp 7), type := 0, pos := "l09_tap.go:114", after := #[{ on := 2, ground := Ground.data }, { on := 4, ground := Ground.data }], guard := none } : Oper), ({ dst := some 9, op := Op.load 3 (Operand.tmp 8), type := 3, pos := "l09_tap.go:114", after := #[{ on := 5, ground := Ground.data }], guard := none } : Oper), ({ dst := some 10, op := Op.move (Operand.tmp 0), type := 40, pos := "l09_tap.go:114", after := #[], guard := none } : Oper), ({ dst := some 11, op := Op.move (Operand.tmp 0), type := 40, pos := "l09_tap.go:114", after := #[], guard := none } : Oper), ({ dst := some 12, op := Op.call { callee := Callee.value (Operand.func 44), args := #[Operand.tmp 11, Operand.const (Value.int IntKind.i64 6)], argTypes := #[40, 3] }, type := 3, pos := "l09_tap.go:114", after := #[{ on := 8, ground := Ground.data }, { on := 4, ground := Ground.chain }], guard := none } : Oper), ({ dst := some 13, op := Op.call { callee := Callee.value (Operand.func 56), args := #[Operand.tmp 10, Operand.tmp 12], argTypes := #[40, 3] }, type := 9, pos := "l09_tap.go:114", after := #[{ on := 7, ground := Ground.data }, { on := 9, ground := Ground.data }, { on := 9, ground := Ground.chain }], guard := none } : Oper), ({ dst := some 14, op := Op.build 66 #[(0, Operand.tmp 9), (1, Operand.tmp 13)], type := 66, pos := "l09_tap.go:114", after := #[{ on := 6, ground := Ground.data }, { on := 10, ground := Ground.data }], guard := none } : Oper), ({ dst := none, op := Op.store 66 (Operand.tmp 2) (Operand.tmp 14), type := 0, pos := "l09_tap.go:114", after := #[{ on := 11, ground := Ground.data }, { on := 10, ground := Ground.chain }, { on := 0, ground := Ground.phase }, { on := 1, ground := Ground.phase }, { on := 2, ground := Ground.phase }, { on := 3, ground := Ground.phase }, { on := 4, ground := Ground.phase }, { on := 5, ground := Ground.phase }, { on := 6, ground := Ground.phase }, { on := 7, ground := Ground.phase }, { on := 8, ground := Ground.phase }, { on := 9, ground := Ground.phase }, { on := 10, ground := Ground.phase }, { on := 11, ground := Ground.phase }], guard := none } : Oper)] true).wp Try.prog Q A w1 := by
  show (Code.region 1 db_O true).wp Try.prog Q A w1
  refine wp_region_slots (E := (Nat → Value)) (db_V w0 p a0 len cap n b2) (db_J w1 w0 p a0 len cap n b2) (by kernel_rfl) (by kernel_rfl) (by kernel_rfl) (fun i s hi => ?_) ?_ (fun _ => undef) (hS0) ?_
  · cases hc : ([3, 4, 5, 6, 7, 8, 9, 10, 11, 12, 13, 14] : List Nat).contains s
    · exact absurd hi (db_no hc i)
    · have : s ∈ ([3, 4, 5, 6, 7, 8, 9, 10, 11, 12, 13, 14] : List Nat) := by simpa using hc
      simp only [List.mem_cons, List.not_mem_nil, or_false] at this
      omega
  · intro f e a w i o hi ho hun hdep hJ hFr K hK
    have hi8 : i < 13 := hi
    rcases (by omega : i = 0 ∨ i = 1 ∨ i = 2 ∨ i = 3 ∨ i = 4 ∨ i = 5 ∨ i = 6 ∨ i = 7 ∨ i = 8 ∨ i = 9 ∨ i = 10 ∨ i = 11 ∨ i = 12) with rfl | rfl | rfl | rfl | rfl | rfl | rfl | rfl | rfl | rfl | rfl | rfl | rfl
    · obtain rfl := Option.some.inj ho
      exact db_s0 A w1 Q w0 p a0 len cap n b2 hp hm hn hS0 f e a w hun hdep hJ hFr K hK
    · obtain rfl := Option.some.inj ho
      exact db_s1 A w1 Q w0 p a0 len cap n b2 hp hm hn hS0 f e a w hun hdep hJ hFr K hK
    · obtain rfl := Option.some.inj ho
      exact db_s2 A w1 Q w0 p a0 len cap n b2 hp hm hn hS0 f e a w hun hdep hJ hFr K hK
    · obtain rfl := Option.some.inj ho
      exact db_s3 A w1 Q w0 p a0 len cap n b2 hp hm hn hS0 f e a w hun hdep hJ hFr K hK
    · obtain rfl := Option.some.inj ho
      exact db_s4 A w1 Q w0 p a0 len cap n b2 hp hm hn hS0 f e a w hun hdep hJ hFr K hK
    · obtain rfl := Option.some.inj ho
      exact db_s5 A w1 Q w0 p a0 len cap n b2 hp hm hn hS0 f e a w hun hdep hJ hFr K hK
    · obtain rfl := Option.some.inj ho
      exact db_s6 A w1 Q w0 p a0 len cap n b2 hp hm hn hS0 f e a w hun hdep hJ hFr K hK
    · obtain rfl := Option.some.inj ho
      exact db_s7 A w1 Q w0 p a0 len cap n b2 hp hm hn hS0 f e a w hun hdep hJ hFr K hK
    · obtain rfl := Option.some.inj ho
      exact db_s8 A w1 Q w0 p a0 len cap n b2 hp hm hn hS0 f e a w hun hdep hJ hFr K hK
    · obtain rfl := Option.some.inj ho
      exact db_s9 A w1 Q w0 p a0 len cap n b2 hp hm hn hS0 f e a w hun hdep hJ hFr K hK
    · obtain rfl := Option.some.inj ho
      exact db_s10 A w1 Q w0 p a0 len cap n b2 hp hm hn hS0 f e a w hun hdep hJ hFr K hK
    · obtain rfl := Option.some.inj ho
      exact db_s11 A w1 Q w0 p a0 len cap n b2 hp hm hn hS0 f e a w hun hdep hJ hFr K hK
    · obtain rfl := Option.some.inj ho
      exact db_s12 A w1 Q w0 p a0 len cap n b2 hp hm hn hS0 f e a w hun hdep hJ hFr K hK
  · intro f e a w hall hJ hFr
    have := h w e (by obtain ⟨z, s, hz, hs, hb⟩ := hJ.r12 (hall 12 (by decide)); obtain ⟨nn, hnn, cs, hQ⟩ := hJ.q; exact ⟨z, s, nn, cs, hz, hs, hb, by omega, hQ⟩)
    rw [hFr.eq [(3, .pointer (some ⟨p, 0, none⟩)), (4, e 1), (5, e 2), (6, .pointer (some ⟨p, 0, none⟩)), (7, e 4), (8, e 5), (9, e 6), (10, .pointer (some ⟨p, 0, none⟩)), (11, .pointer (some ⟨p, 0, none⟩)), (12, e 9), (13, e 10), (14, e 11)] (fun s hs => ?_) (fun i s hi => ?_)]
    · exact this
    · have hne : ∀ k ∈ ([3, 4, 5, 6, 7, 8, 9, 10, 11, 12, 13, 14] : List Nat), k ≠ s := by
        intro k hk e2
        subst e2
        simp only [List.mem_cons, List.not_mem_nil, or_false] at hk
        rcases hk with rfl | rfl | rfl | rfl | rfl | rfl | rfl | rfl | rfl | rfl | rfl | rfl
        · exact hs 0 rfl
        · exact hs 1 rfl
        · exact hs 2 rfl
        · exact hs 3 rfl
        · exact hs 4 rfl
        · exact hs 5 rfl
        · exact hs 6 rfl
        · exact hs 7 rfl
        · exact hs 8 rfl
        · exact hs 9 rfl
        · exact hs 10 rfl
        · exact hs 11 rfl
      simp only [lookA]
      simp [hne]
    · have hl : i < 13 := by
        rcases Nat.lt_or_ge i 13 with h1 | h1
        · exact h1
        · unfold dstAt at hi
          rw [Array.getElem?_eq_none (by exact h1)] at hi
          cases hi
      refine ⟨hall i hl, ?_⟩
      rcases (by omega : i = 0 ∨ i = 1 ∨ i = 2 ∨ i = 3 ∨ i = 4 ∨ i = 5 ∨ i = 6 ∨ i = 7 ∨ i = 8 ∨ i = 9 ∨ i = 10 ∨ i = 11 ∨ i = 12) with rfl | rfl | rfl | rfl | rfl | rfl | rfl | rfl | rfl | rfl | rfl | rfl | rfl
      all_goals first
        | (cases hi; rfl)
        | cases hi
set_option maxRecDepth 100000 in
set_option maxHeartbeats 2000000 in
theorem block_any (p : Nat) (a0 : Option Addr) (len cap n : Nat) (w : World) (hs : Src w p a0 len cap n) (hn : n ≤ 1000000) :
    Calls Try.prog 51 #[.pointer (some ⟨p, 0, none⟩)] w fun e w' => (∃ (z : Int) (s : ByteArray), e = .returned (bkV z s) ∧ okB z s = true) ∧ (∃ n', n' ≤ n + 27 ∧ Src w' p a0 len cap n') ∧ w.grownBy w' (some p) := by
  have hp := hs.lt
  have hq := Blk.new w (bkA 0 eS) 66
  have hB : Hid (BJ w (w.alloc (.cells (bkA 0 eS) 66)).drew p a0 len cap n w.heap.size (fun _ => false) (fun _ => undef)) := by
    have hQ : QB w (w.alloc (.cells (bkA 0 eS) 66)) p a0 len cap n w.heap.size (bkA 0 eS) := ⟨hs.kept (World.grownBy_alloc w _ none) (fun g hg => by cases hg), World.grownBy_alloc w _ _, hq, hp, Nat.le_refl _⟩
    have hQ2 : QB w (w.alloc (.cells (bkA 0 eS) 66)).drew p a0 len cap n w.heap.size (bkA 0 eS) := ⟨hQ.src.kept (r := none) ⟨rfl, rfl, rfl, Nat.le_refl _, fun _ _ _ => rfl⟩ (fun g hg => by cases hg), ⟨hQ.gro.os, hQ.gro.tape, hQ.gro.output, hQ.gro.size, hQ.gro.block⟩, hQ.q, hQ.o1, hQ.o2⟩
    exact ⟨⟨n, by show n + 3 + 3 + 3 + 18 ≤ n + 27; omega, _, hQ2⟩, fun h => (by cases h), fun h => (by cases h), fun h => (by cases h), fun h => (by cases h), fun h => (by cases h), fun h => (by cases h), fun h => (by cases h), fun h => (by cases h), fun _ => hQ2.q, fun h => (by cases h)⟩
  clear hq
  go_enter Try.func51, Try.ntmps51
  go_upto_region 1 with fail
  obtain ⟨V, hV⟩ : ∃ V, w.alloc (.cells (bkA 0 eS) 66) = V := ⟨_, rfl⟩
  rw [hV] at hB ⊢
  clear hV
  refine db_reg _ V _ w p a0 len cap n w.heap.size rfl rfl hn hB.out (by simp) ?_
  intro w9 e9 ⟨z, s, nn, cs, hz, hs9, hb, hnn, hQ⟩
  simp only [putsA, Act.put, List.setIfInBounds_toArray, List.set_cons_zero, List.set_cons_succ]
  have x9 := hb.cell
  have hok : okB z s = true := (okB_iff z s).2 ⟨hz, by omega⟩
  replace hQ := hid hQ
  replace hok := hid hok
  clear hB hb
  go_wp2
  exact bodyPost_ret (v := bkV z s) (by simp [results, Try.results51, go_sem, x9]) rfl ⟨⟨z, s, rfl, hok.out⟩, ⟨nn, hnn, hQ.out.src⟩, hQ.out.gro⟩
set_option maxRecDepth 100000 in
set_option maxHeartbeats 2000000 in
theorem blocks_any (p : Nat) (a0 : Option Addr) (len cap n : Nat) (w : World) (hs : Src w p a0 len cap n) (hn : n ≤ 100000) :
    Calls Try.prog 42 #[.pointer (some ⟨p, 0, none⟩)] w fun e w' => ∃ (v : Value) (l : List (Int × ByteArray)), e = .returned v ∧ l.length ≤ 3 ∧ (∀ x ∈ l, okB x.1 x.2 = true) ∧ w'.ownsRow w.heap.size 66 2 v l.length (bkL l) ∧ w.grownBy w' (some p) ∧ ∃ n', n' ≤ n + 84 ∧ Src w' p a0 len cap n' := by
  obtain ⟨i0, hi0, hz0, hz1, hz2⟩ := info_parts infoBk
  have hp := hs.lt
  have hs1 := hs.kept (World.grownBy_alloc w (.cells #[] 66) none) (fun g hg => by cases hg)
  have hO := hid (World.ownsRow_made (e := 66) (size := 2) w #[] 0 (Nat.le_refl _) (by unfold maxLen; omega) rfl)
  have hG := hid (World.grownBy_alloc w (.cells #[] 66) (some p))
  have hN := hid (next_any p a0 len cap n 4 _ hs1 (by omega))
  clear hs1
  go_enter Try.func42, Try.ntmps42
  go_wp2_with fail
  refine hN.out.mono ?_
  rintro e w1 ⟨⟨y, rfl, g0, _, g1⟩, ⟨n1, hn1, hs1⟩, hg1⟩
  have g2 := g1 (by omega)
  obtain ⟨m, rfl⟩ : ∃ m : Nat, y = m := ⟨y.toNat, by omega⟩
  have hO1 := hid (hO.out.kept hg1 (.inr (by simp [Value.ownBlock]; omega)))
  have hG1 := hid (grown_then hG.out hg1 (fun g e => .inr (by rw [e])))
  have hm : m ≤ 3 := by omega
  replace hs1 := hid hs1
  clear hN hO hG hg1 g0 g1 g2
  go_wp2_with fail
  go_loopw [3, 4] (fun v i wr => ∃ (k : Nat) (l : List (Int × ByteArray)) (n' : Nat), i = .int .i64 (k : Int) ∧ k + l.length = m ∧ (∀ x ∈ l, okB x.1 x.2 = true) ∧ wr.ownsRow w.heap.size 66 2 v l.length (bkL l) ∧ n' ≤ n + 3 + 27 * l.length ∧ Src wr p a0 len cap n' ∧ w.grownBy wr (some p)) (fun _ i _ => (intOf i).toNat)
  case atStart => exact ⟨m, [], n1, rfl, by simp, (fun x hx => by cases hx), hO1.out, by simp; omega, hs1.out, hG1.out⟩
  case round =>
    obtain ⟨k, l, n', rfl, hkl, hok, hown, hn', hsr, hgr⟩ := hrel
    clear hO1 hG1 hs1
    obtain ⟨oa, ocap, rfl⟩ : ∃ oa cap, u3 = .slice oa l.length cap := by
      obtain ⟨_, ⟨h, h0⟩ | ⟨g, cap, _, h, _⟩⟩ := hown
      · exact ⟨none, 0, by rw [h, h0]⟩
      · exact ⟨_, _, h⟩
    have hwz := hgr.size
    by_cases hk : k = 0
    · subst hk
      replace hown := hid hown
      replace hgr := hid hgr
      replace hsr := hid hsr
      go_wp2
      go_ret
      exact ⟨_, l, rfl, by omega, hok, hown.out, hgr.out, n', by omega, hsr.out⟩
    · have hB := hid (block_any p a0 len cap n' wr hsr (by omega))
      obtain ⟨k, rfl⟩ : ∃ k', k = k' + 1 := ⟨k - 1, by omega⟩
      have hk1 : ((k + 1 : Nat) : Int) - 1 = (k : Int) := by omega
      have hk2 : (0 : Int) < ((k + 1 : Nat) : Int) := by omega
      replace hown := hid hown
      replace hgr := hid hgr
      clear hsr
      go_wp2_with fail
      refine hB.out.mono ?_
      rintro e w2 ⟨⟨z, s, rfl, hzs⟩, ⟨n2, hn2, hs2⟩, hg2⟩
      have hown2 := hown.out.kept hg2 (.inr (fun e => by have := (hown.out.lt p e).1; omega))
      have hgr2 := grown_then hgr.out hg2 (fun g e => .inr (by rw [e]))
      have hz2' := hg2.size
      obtain ⟨L, hL⟩ : ∃ L, l.length = L := ⟨_, rfl⟩
      rw [hL] at hown2 ⊢
      have hfin : Hid (∀ (g cp : Nat) (w3 : World), w3.ownsRow w.heap.size 66 2 (.slice (some ⟨g, 0, none⟩) (L + 1) cp) (L + 1) (bkL l ++ [.int .i64 z, .string s]) → (w2.alloc (.cells (bkA z s) 66)).grownBy w3 (Value.slice oa L ocap).ownBlock → w3.ownsRow w.heap.size 66 2 (.slice (some ⟨g, 0, none⟩) (L + 1) cp) (l ++ [(z, s)]).length (bkL (l ++ [(z, s)])) ∧ Src w3 p a0 len cap n2 ∧ w.grownBy w3 (some p)) := by
        intro g cp w3 ho hg
        refine ⟨?_, ?_, ?_⟩
        · rw [bkL_snoc, List.length_append, hL]
          exact ho
        · exact (hs2.kept (World.grownBy_alloc w2 _ none) (fun g hg => by cases hg)).kept hg (fun g' e' => by have := (hown2.lt g' e').1; omega)
        · exact grown_then (grown_then hgr2 (World.grownBy_alloc w2 _ none) (fun g hg => by cases hg)) hg (fun g' e' => .inl (hown2.lt g' e').1)
      replace hown2 := hid hown2
      have hLb : L ≤ 3 := by omega
      replace hzs := hid hzs
      clear hown hgr hgr2 hs2 hg2
      go_upto_region 4 with (at_builtin; refine wpList_append_lies _ rfl _ _ 59 rfl w.heap.size 66 i0 _ 2 24 Try.underlying59 hi0 hz0 hz1 hz2 rfl (by omega) _ L (bkL l) rfl (hown2.out.alloc _) ⟨_, 0, none⟩ 1 1 [.int .i64 z, .string s] rfl rfl (World.news_of_block (cs := #[.int .i64 z, .string s]) (t := 66) (fr := (0, 0)) (heap_alloc_new _ _)) (by simp [Value.oneCell']) (by omega) (by unfold maxLen; omega) (by omega) (by simp; omega) _ rfl ?_; intro g3 c3 w3 ho hg hat hlt2; obtain ⟨r1, r2, r3⟩ := hfin.out _ _ _ ho hg; replace r1 := hid r1; replace r2 := hid r2; replace r3 := hid r3; clear ho hg hat hlt2 hown2 hfin)
      go_wp2
      go_roundw
      case rel => exact ⟨k, l ++ [(z, s)], n2, by first | rfl | go_num, by rw [List.length_append]; simp; omega, (fun x hx => by
          rcases List.mem_append.1 hx with h | h
          · exact hok x h
          · obtain rfl : x = (z, s) := by simpa using h
            exact hzs.out), r1.out, by rw [List.length_append]; simp; omega, r2.out, r3.out⟩
      case measure => simp [intOf]
end Go.Proofs.Ytohnddjijedfkaa
