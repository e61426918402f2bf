/- A memory that the laws draw: it is right, and lies in blocks of its own. -/
import Derived.Test.YtgpmpfikeindfaaGreatDoorMnv
import Derived.Test.YtgpmpfikeindfaaGreatDoorV04
import Derived.Test.YtgpmpfikeindfaaGreatDoorSrcv
import Derived.Deep.RegionWith
import Derived.Test.YtgpmpfikeindfaaGreatDoorV01
import Derived.Test.YtgpmpfikeindfaaGreatDoorV23
namespace Go.Proofs.YtgpmpfikeindfaaGreatDoor
open Go.ChangeShapes Go.WideShapes Go.ChangeAt Go.RowKit
set_option linter.unusedVariables false
set_option linter.unusedSimpArgs false

abbrev box4 (a1 : Option Addr) (p1 : Nat) (a2 : Option Addr) (p2 : Nat) (pg sc : Int) (l : Bool) : Array Value := #[.slice a1 64 p1, .slice a2 4 p2, .int .i64 pg, .int .i64 sc, .bool l]
/-- while a memory is being drawn -/
structure MSt (w W : World) (p : Nat) (a : Option Addr) (len cap nn : Nat) (bm lo : Nat) (a1 : Option Addr) (p1 : Nat) (a2 : Option Addr) (p2 : Nat) (M : Mem) : Prop where
  src : Src W p a len cap nn
  ord : p < w.heap.size ∧ w.heap.size < lo ∧ lo ≤ bm ∧ bm < W.heap.size
  q0 : Blk W w.heap.size #[.slice none 0 0, .slice none 0 0, .int .i64 0, .int .i64 0, .bool false]
  qm : Blk W bm (box4 a1 p1 a2 p2 M.page M.screen M.locked)
  mem : MemO W lo bm (memV (.slice a1 64 p1) (.slice a2 4 p2) M.page M.screen M.locked) M
  ok : okM M = true
  gro : w.grownBy W (some p)
theorem grown_two {a b c : World} {p : Nat} (h : a.grownBy b (some p)) (k : b.grownBy c (some p)) : a.grownBy c (some p) :=
  ⟨k.os.trans h.os, k.tape.trans h.tape, k.output.trans h.output, Nat.le_trans h.size k.size, fun i hi hne => (k.block i (Nat.lt_of_lt_of_le hi h.size) hne).trans (h.block i hi hne)⟩
theorem MSt.next {w W W' : World} {p : Nat} {a : Option Addr} {len cap nn nn' bm lo : Nat} {a1 : Option Addr} {p1 : Nat} {a2 : Option Addr} {p2 : Nat} {M : Mem} (h : MSt w W p a len cap nn bm lo a1 p1 a2 p2 M) (hg : W.grownBy W' (some p)) (hs : Src W' p a len cap nn') : MSt w W' p a len cap nn' bm lo a1 p1 a2 p2 M := by
  obtain ⟨_, ⟨o1, o2, o3, o4⟩, q0, qm, mem, ok, gro⟩ := h
  have hz := hg.size
  exact ⟨hs, ⟨o1, o2, o3, by omega⟩, q0.grown hg (by simp; omega), qm.grown hg (by simp; omega), mem.kept (fun b h0 h1 => hg.block b (by omega) (by simp; omega)), ok, grown_two gro hg⟩
theorem MSt.drew {w W : World} {p : Nat} {a : Option Addr} {len cap nn bm lo : Nat} {a1 : Option Addr} {p1 : Nat} {a2 : Option Addr} {p2 : Nat} {M : Mem} (h : MSt w W p a len cap nn bm lo a1 p1 a2 p2 M) : MSt w W.drew p a len cap nn bm lo a1 p1 a2 p2 M :=
  h.next ⟨rfl, rfl, rfl, Nat.le_refl _, fun _ _ _ => rfl⟩ (h.src.kept (r := none) ⟨rfl, rfl, rfl, Nat.le_refl _, fun _ _ _ => rfl⟩ (by intro g e; cases e))
theorem grown_setO {w W : World} {p b i : Nat} {u : Value} (h : w.grownBy W (some p)) (hb : w.heap.size ≤ b) : w.grownBy (W.setCell ⟨b, i, none⟩ u) (some p) :=
  ⟨h.os, h.tape, h.output, by have := h.size; simpa [World.setCell] using this, fun k hk hne => by
    rw [Below.heap_setCell _ _ _ _ (by simp; omega)]
    exact h.block k hk hne⟩
theorem Src.setO {W : World} {p : Nat} {a : Option Addr} {len cap nn b i : Nat} {u : Value} (h : Src W p a len cap nn) (hb : p < b) : Src (W.setCell ⟨b, i, none⟩ u) p a len cap nn :=
  h.kept (r := some b) ⟨rfl, rfl, rfl, by simp [World.setCell], fun k hk hne => Below.heap_setCell _ _ _ _ (by intro e; exact hne (by rw [e]))⟩ (by intro g e; cases e; exact hb)
theorem MSt.row {w W : World} {p : Nat} {a : Option Addr} {len cap nn bm lo : Nat} {a1 : Option Addr} {p1 : Nat} {a2 : Option Addr} {p2 : Nat} {M : Mem} (h : MSt w W p a len cap nn bm lo a1 p1 a2 p2 M) {j : Nat} (hj : j < 4) :
    ∃ s g c, a2 = some ⟨s, 0, none⟩ ∧ W.cell? ⟨s, j, none⟩ = some (.slice (some ⟨g, 0, none⟩) 64 c) ∧ ∀ q, q < 64 → (∃ x, W.cell? ⟨g, q, none⟩ = some x) ∧ W.frozen? ⟨g, q, none⟩ = false ∧
      ∀ z, 0 ≤ z → z ≤ 255 → MSt w (W.setCell ⟨g, q, none⟩ (.int .i64 z)) p a len cap nn bm lo a1 p1 a2 p2 { M with ram := M.ram.set j ((M.ram.getD j []).set q z) } := by
  obtain ⟨src, ⟨o1, o2, o3, o4⟩, q0, qm, mem, ok, gro⟩ := h
  obtain ⟨k1, k2, k3, k4, k5⟩ := ok_parts ok
  have hlz := bytes_len (k5 j (by omega))
  rcases mem with ⟨_, _, e⟩ | ⟨vr, vm, r, s, G, e, h1, h2, b1, b2, b3, d1, d2, d3⟩
  · rw [e] at k2
    simp at k2
  injection e with e
  have e0 : Value.slice a1 64 p1 = vr := by
    have := congrArg (·[0]?) e
    simpa using this
  have e2 : Value.slice a2 4 p2 = vm := by
    have := congrArg (·[1]?) e
    simpa using this
  subst e0 e2
  obtain ⟨cp, u, hv, hc, hr, hstep⟩ := h2.at (k := j) (by omega)
  injection hv with hv _ _
  subst hv
  obtain ⟨cu, _, _, hu, _, _⟩ := id hr
  subst hu
  have hg := b3 j (by omega)
  refine ⟨s, G j, cu, rfl, by rw [hc, hlz], fun q hq => ⟨⟨_, hr.cell q (by omega)⟩, hr.frozen q, fun z z0 z1 => ⟨src.setO (by omega), ⟨o1, o2, o3, by rw [sizeSet]; exact o4⟩, q0.other (by simp; omega) _, qm.other (by simp; omega) _, ?_, ?_, grown_setO gro (by omega)⟩⟩⟩
  · have hgr : W.grownBy (W.setCell ⟨G j, q, none⟩ (.int .i64 z)) (some (G j)) := ⟨rfl, rfl, rfl, by simp [World.setCell], fun k hk hne => Below.heap_setCell _ _ _ _ (by intro e; exact hne (by rw [e]))⟩
    refine .inr ⟨_, _, r, s, G, rfl, h1.kept (Below.heap_setCell _ _ _ _ (by simp; exact fun e => (d2 j (by omega)).1 e.symm)), hstep _ _ (hr.set q z) hgr (fun i hi => (d2 i hi).2) d3, b1, b2, fun i hi => b3 i (by simpa using hi), d1, fun i hi => d2 i (by simpa using hi), fun i i' hi hi' => d3 i i' (by simpa using hi) (by simpa using hi')⟩
  · refine ok_all k1 (by rw [List.length_set]; exact k2) (in_yes k3.1 k3.2) k4 (fun i hi => ?_)
    by_cases e : j = i
    · subst e
      show bytesB ((M.ram.set j _).getD j []) 64 = true
      rw [List.getD_eq_getElem?_getD, List.getElem?_set_self (by omega)]
      exact bytes_set (k5 j (by omega)) (in_yes z0 z1)
    · show bytesB ((M.ram.set j _).getD i []) 64 = true
      rw [List.getD_eq_getElem?_getD, List.getElem?_set_ne e, ← List.getD_eq_getElem?_getD]
      exact k5 i (by omega)
theorem MSt.top {w W : World} {p : Nat} {a : Option Addr} {len cap nn bm lo : Nat} {a1 : Option Addr} {p1 : Nat} {a2 : Option Addr} {p2 : Nat} {M : Mem} (h : MSt w W p a len cap nn bm lo a1 p1 a2 p2 M) : ∃ s, a2 = some ⟨s, 0, none⟩ ∧ lo ≤ s := by
  obtain ⟨src, ⟨o1, o2, o3, o4⟩, q0, qm, mem, ok, gro⟩ := h
  obtain ⟨k1, k2, k3, k4, k5⟩ := ok_parts ok
  rcases mem with ⟨_, _, e⟩ | ⟨vr, vm, r, s, G, e, h1, h2, b1, b2, b3, d1, d2, d3⟩
  · rw [e] at k2
    simp at k2
  injection e with e
  have e2 : Value.slice a2 4 p2 = vm := by
    have := congrArg (·[1]?) e
    simpa using this
  subst e2
  obtain ⟨cp, _, _, _, hv, _⟩ := h2
  injection hv with hv _ _
  exact ⟨s, hv, b2.1⟩
theorem MSt.row' {w W : World} {p : Nat} {a : Option Addr} {len cap nn bm lo : Nat} {a1 : Option Addr} {p1 s : Nat} {p2 : Nat} {M : Mem} (h : MSt w W p a len cap nn bm lo a1 p1 (some ⟨s, 0, none⟩) p2 M) {j : Nat} (hj : j < 4) :
    ∃ g c, W.cell? ⟨s, j, none⟩ = some (.slice (some ⟨g, 0, none⟩) 64 c) ∧ ∀ q, q < 64 → (∃ x, W.cell? ⟨g, q, none⟩ = some x) ∧ W.frozen? ⟨g, q, none⟩ = false ∧
      ∀ z, 0 ≤ z → z ≤ 255 → MSt w (W.setCell ⟨g, q, none⟩ (.int .i64 z)) p a len cap nn bm lo a1 p1 (some ⟨s, 0, none⟩) p2 { M with ram := M.ram.set j ((M.ram.getD j []).set q z) } := by
  obtain ⟨s', g, c, e, h1, h2⟩ := h.row hj
  injection e with e
  injection e with e _ _
  subst e
  exact ⟨g, c, h1, h2⟩
theorem MSt.same {w W : World} {p : Nat} {a : Option Addr} {len cap nn bm lo : Nat} {a1 : Option Addr} {p1 s : Nat} {p2 : Nat} {M : Mem} (h : MSt w W p a len cap nn bm lo a1 p1 (some ⟨s, 0, none⟩) p2 M) {j g c : Nat} (hj : j < 4) (hc : W.cell? ⟨s, j, none⟩ = some (.slice (some ⟨g, 0, none⟩) 64 c)) :
    ∀ q, q < 64 → (∃ x, W.cell? ⟨g, q, none⟩ = some x) ∧ W.frozen? ⟨g, q, none⟩ = false ∧
      ∀ z, 0 ≤ z → z ≤ 255 → MSt w (W.setCell ⟨g, q, none⟩ (.int .i64 z)) p a len cap nn bm lo a1 p1 (some ⟨s, 0, none⟩) p2 { M with ram := M.ram.set j ((M.ram.getD j []).set q z) } := by
  obtain ⟨g', c', h1, h2⟩ := h.row' hj
  rw [hc] at h1
  have e := Option.some.inj h1
  injection e with e _ _
  injection e with e
  injection e with e _ _
  subst e
  exact h2
theorem MemO.fields {W : World} {lo hi : Nat} {vr vm : Value} {pg sc : Int} {l : Bool} {M : Mem} (h : MemO W lo hi (memV vr vm M.page M.screen M.locked) M) : MemO W lo hi (memV vr vm pg sc l) { M with page := pg, screen := sc, locked := l } := by
  rcases h with ⟨e, e1, e2⟩ | ⟨vr', vm', r, s, G, e, h1, h2, r2⟩
  · injection e with e
    have e3 : vr = .slice none 0 0 := by
      have := congrArg (·[0]?) e
      simpa using this
    have e4 : vm = .slice none 0 0 := by
      have := congrArg (·[1]?) e
      simpa using this
    exact .inl ⟨by rw [e3, e4], e1, e2⟩
  · injection e with e
    have e3 : vr = vr' := by
      have := congrArg (·[0]?) e
      simpa using this
    have e4 : vm = vm' := by
      have := congrArg (·[1]?) e
      simpa using this
    subst e3 e4
    exact .inr ⟨_, _, r, s, G, rfl, h1, h2, r2⟩
theorem MSt.field {w W : World} {p : Nat} {a : Option Addr} {len cap nn bm lo : Nat} {a1 : Option Addr} {p1 : Nat} {a2 : Option Addr} {p2 : Nat} {M : Mem} (h : MSt w W p a len cap nn bm lo a1 p1 a2 p2 M) (i : Nat) (u : Value) (pg sc : Int) (l : Bool)
    (hb : (box4 a1 p1 a2 p2 M.page M.screen M.locked).setIfInBounds i u = box4 a1 p1 a2 p2 pg sc l) (hp : 0 ≤ pg ∧ pg ≤ 3) (hs : sc = 1 ∨ sc = 3) : MSt w (W.setCell ⟨bm, i, none⟩ u) p a len cap nn bm lo a1 p1 a2 p2 { M with page := pg, screen := sc, locked := l } := by
  obtain ⟨src, ⟨o1, o2, o3, o4⟩, q0, qm, mem, ok, gro⟩ := h
  obtain ⟨k1, k2, k3, k4, k5⟩ := ok_parts ok
  have q := qm.set i u
  rw [hb] at q
  exact ⟨src.setO (by omega), ⟨o1, o2, o3, by rw [sizeSet]; exact o4⟩, q0.other (by simp; omega) _, q, (mem.kept (fun b h0 h1 => Below.heap_setCell _ _ _ _ (by simp; omega))).fields, ok_all k1 k2 (in_yes hp.1 hp.2) hs (fun i hi => k5 i (by omega)), grown_setO gro (by omega)⟩
end Go.Proofs.YtgpmpfikeindfaaGreatDoor

/- What the drawing of a memory answers. -/
namespace Go.Proofs.YtgpmpfikeindfaaGreatDoor
open Go.ChangeShapes Go.WideShapes Go.ChangeAt Go.RowKit
set_option linter.unusedVariables false
set_option linter.unusedSimpArgs false

theorem chance_any (p : Nat) (a : Option Addr) (len cap n : Nat) (m : Int) (w : World) (hs : Src w p a len cap n) (hn : n + 3 ≤ 1000000000) (hm0 : 0 ≤ m) (hm : m ≤ 1000000) :
    Calls Tryz.prog 38 #[.pointer (some ⟨p, 0, none⟩), .int .i64 m] w fun e w' => (∃ b : Bool, e = .returned (.bool b)) ∧ (∃ n', n' ≤ n + 3 ∧ Src w' p a len cap n') ∧ w.grownBy w' (some p) := by
  go_enter Tryz.func38, Tryz.ntmps38
  go_wp2_with fail
  refine (next_any _ _ _ _ _ _ _ hs hn).mono ?_
  rintro e w1 ⟨⟨v, rfl, h0, h1, h2⟩, hs1, hg1⟩
  replace hs1 := hid hs1
  clear h1 h2
  go_wp2
  go_ret
  exact ⟨⟨_, rfl⟩, hs1.out, hg1⟩
set_option maxRecDepth 100000 in
set_option maxHeartbeats 4000000 in
theorem memory_any (p : Nat) (a : Option Addr) (len cap nn : Nat) (w : World) (hs : Src w p a len cap nn) (hn : nn ≤ 100000) :
    Calls Tryz.prog 18 #[.pointer (some ⟨p, 0, none⟩)] w fun e w' => ∃ u M, e = .returned u ∧ okM M = true ∧ (∃ lo hi, w.heap.size ≤ lo ∧ MemO w' lo hi u M) ∧ (∃ n', n' ≤ nn + 2000 ∧ Src w' p a len cap n') ∧ w.grownBy w' (some p) := by
  have hp := hs.lt
  have hs1 : Hid (∀ o, Src (w.alloc o) p a len cap nn) := fun o => hs.kept (r := none) (World.grownBy_alloc _ _ _) (by intro g e; cases e)
  clear hs
  go_enter Tryz.func18, Tryz.ntmps18
  go_wp2_with fail
  refine (some_any p a len cap nn 64 _ (hs1.out _) (by omega) (by omega)).mono ?_
  rintro e w2 ⟨⟨xs, rfl, hx1, hx2⟩, ⟨n2, hn2, hs2⟩, hg2⟩
  have hsz : (strOfNums xs).size = 64 := by rw [strOfNums_size]; exact hx1
  generalize strOfNums xs = s at *
  have q2 := (Blk.new w #[.slice none 0 0, .slice none 0 0, .int .i64 0, .int .i64 0, .bool false] 30).grown hg2 (by simp; omega)
  have hg2' : w.grownBy w2 (some p) := ⟨hg2.os, hg2.tape, hg2.output, by have := hg2.size; rw [World.size_alloc] at this; omega, fun k hk hne => (hg2.block k (by rw [World.size_alloc]; omega) hne).trans (Below.heap_alloc _ _ _ hk)⟩
  have hz2 := q2.lt
  replace q2 := hid q2
  replace hg2' := hid hg2'
  replace hs2 := hid hs2
  clear hg2 hx1 hx2 hs1
  go_wp2_with fail
  refine (new_spec s _ (by rw [hsz]; decide)).mono ?_
  rintro e w3 ⟨u3, rfl, hm3, hb3⟩
  have e1 : newC s = 0 := by unfold newC; rw [hsz]; rfl
  rw [e1]
  have hok := new_ok hsz
  obtain ⟨a1, p1, a2, p2, rfl, _, _⟩ := hm3.reads.form
  have hl1 : (newM s).rom.length = 64 := bytes_len (ok_parts hok).1
  have hl2 : (newM s).ram.length = 4 := (ok_parts hok).2.1
  rw [hl1, hl2] at hm3 ⊢
  generalize newM s = M0 at *
  have S0 : Hid (MSt w (w3.alloc (.cells (box4 a1 p1 a2 p2 M0.page M0.screen M0.locked) 30)) p a len cap n2 w3.heap.size w2.heap.size a1 p1 a2 p2 M0) := by
    have ha : Below w3.heap.size w3 (w3.alloc (.cells (box4 a1 p1 a2 p2 M0.page M0.screen M0.locked) 30)) := (Below.refl _ _).alloc (Nat.le_refl _) _
    have hb := new_trans hb3 ha
    have hgb : w2.grownBy (w3.alloc (.cells (box4 a1 p1 a2 p2 M0.page M0.screen M0.locked) 30)) none := ⟨hb.os, hb.tape, hb.output, hb.size, fun k hk _ => hb.block k hk⟩
    have hz3 := hb3.size
    refine ⟨hs2.out.kept hgb (by intro g e; cases e), ⟨hp, hz2, hz3, by simp⟩, q2.out.below hb hz2, Blk.new w3 _ _, hm3.below ha (Nat.le_refl _), hok, ?_⟩
    exact ⟨hb.os.trans hg2'.out.os, hb.tape.trans hg2'.out.tape, hb.output.trans hg2'.out.output, Nat.le_trans hg2'.out.size hb.size, fun k hk hne => (hb.block k (by omega)).trans (hg2'.out.block k hk hne)⟩
  clear hs2 q2 hg2' hm3 hb3 hok hl1 hl2 e1
  obtain ⟨s2, rfl, hlos⟩ := S0.out.top
  have hps : p < s2 := by have := S0.out.ord; omega
  clear hlos
  have x0 := S0.out.qm.cell
  obtain ⟨bm, hbm⟩ : ∃ bm, w3.heap.size = bm := ⟨_, rfl⟩
  obtain ⟨lo, hlo⟩ : ∃ lo, w2.heap.size = lo := ⟨_, rfl⟩
  obtain ⟨W3, hW3⟩ : ∃ W3, (w3.alloc (.cells (box4 a1 p1 (some ⟨s2, 0, none⟩) p2 M0.page M0.screen M0.locked) 30)) = W3 := ⟨_, rfl⟩
  rw [hW3] at S0 x0
  rw [hbm] at S0 x0
  rw [hlo] at S0
  go_wp2_with fail
  refine (next_any p a len cap n2 12 _ S0.out.src (by omega)).mono ?_
  rintro e w4 ⟨⟨v4, rfl, h40, h41, h42⟩, ⟨n4, hn4, hs4⟩, hg4⟩
  have S1 := hid (S0.out.next hg4 hs4)
  have hv4 : v4 < 12 := h42 (by omega)
  obtain ⟨k4, rfl⟩ : ∃ k : Nat, v4 = (k : Int) := ⟨v4.toNat, by omega⟩
  clear hs4 hg4 S0 x0 hbm hlo hW3 h41 h42 h40
  go_wp2
  go_loopw [5] (fun i wr => ∃ (k nk : Nat) (M : Mem), k ≤ 12 ∧ i = .int .i64 k ∧ nk + 9 * k ≤ nn + 1000 ∧ MSt w wr p a len cap nk bm lo a1 p1 (some ⟨s2, 0, none⟩) p2 M) (fun i _ => (intOf i).toNat)
  case atStart => exact ⟨k4, n4, M0, by omega, rfl, by omega, S1.out⟩
  case round =>
    obtain ⟨k, nk, M, hk, rfl, hnk, hS⟩ := hrel
    by_cases hlt : 0 < k
    · replace hS := hid hS
      have xm := hS.out.qm.cell
      have hSd := hid hS.out.drew
      have T1 : Hid True := trivial
      have T2 : Hid True := trivial
      clear S1
      go_wp2_with fail
      go_region_with (first | (clear T1; go_at_call 37; refine (next_any p a len cap nk 4 _ hSd.out.src (by omega)).mono ?_; rintro e w5 ⟨⟨v5, rfl, h50, h51, h52⟩, ⟨n5, hn5, hs5⟩, hg5⟩; have S5 := hid (hSd.out.next hg5 hs5); have hv5 := h52 (by omega); obtain ⟨j5, rfl⟩ : ∃ j : Nat, v5 = (j : Int) := ⟨v5.toNat, (by omega)⟩; have hj5 : j5 < 4 := (by omega); have xm5 := S5.out.qm.cell; obtain ⟨g5, c5, r5, _⟩ := S5.out.row' hj5; clear hs5 hg5 h50 h51 h52) | (clear T2; go_at_call 37; refine (next_any p a len cap n5 64 _ S5.out.src (by omega)).mono ?_; rintro e w6 ⟨⟨v6, rfl, h60, h61, h62⟩, ⟨n6, hn6, hs6⟩, hg6⟩; have S6 := hid (S5.out.next hg6 hs6); have hv6 := h62 (by omega); obtain ⟨j6, rfl⟩ : ∃ j : Nat, v6 = (j : Int) := ⟨v6.toNat, (by omega)⟩; have hj6 : j6 < 64 := (by omega); have xm6 := S6.out.qm.cell; have r6 := hg6.cell r5 (by simp; omega); clear hs6 hg6 h60 h61 h62) | (go_at_call 37; refine (next_any p a len cap n6 256 _ S6.out.src (by omega)).mono ?_; rintro e w7 ⟨⟨v7, rfl, h70, h71, h72⟩, ⟨n7, hn7, hs7⟩, hg7⟩; have S7 := hid (S6.out.next hg7 hs7); have hv7 := h72 (by omega); have xm7 := S7.out.qm.cell; have r7 := hg7.cell r6 (by simp; omega); obtain ⟨⟨x7, hx7⟩, hf7, hfin⟩ := S7.out.same hj5 r7 j6 hj6; have hE := hid (hfin v7 h70 (by omega)); clear hs7 hg7 h71 h72 hfin))
      all_goals
        clear hSd hS S5 S6 S7 xm xm5 xm6 xm7
        go_wp2
        go_roundw
        case rel => exact ⟨k - 1, n7, _, by omega, by rw [show ((k : Int) - 1) = ((k - 1 : Nat) : Int) by omega], by omega, hE.out⟩
        case measure => simp [intOf]; omega
    · obtain rfl : k = 0 := by omega
      replace hS := hid hS
      have hok := (ok_parts hS.out.ok).2.2
      clear S1
      go_wp2_with fail
      refine (next_any p a len cap nk 4 _ hS.out.src (by omega)).mono ?_
      rintro e w5 ⟨⟨v5, rfl, h50, h51, h52⟩, ⟨n5, hn5, hs5⟩, hg5⟩
      have S5 := hid ((hS.out.next hg5 hs5).field 2 (.int .i64 v5) v5 M.screen M.locked rfl ⟨h50, by have := h52 (by omega); omega⟩ hok.2.1)
      have x5 := (hS.out.next hg5 hs5).qm.cell
      have f5 := (hS.out.next hg5 hs5).qm.frozen
      clear hs5 hg5 hS h50 h51 h52
      obtain ⟨W5, hW5⟩ : ∃ W5, w5.setCell ⟨bm, 2, none⟩ (.int .i64 v5) = W5 := ⟨_, rfl⟩
      rw [hW5] at S5
      go_wp2_with fail
      clear hW5 x5 f5
      refine (next_any p a len cap n5 2 _ S5.out.src (by omega)).mono ?_
      rintro e w6 ⟨⟨v6, rfl, h60, h61, h62⟩, ⟨n6, hn6, hs6⟩, hg6⟩
      have hv6 : v6 = 0 ∨ v6 = 1 := by have := h62 (by omega); omega
      have S6 := hid ((S5.out.next hg6 hs6).field 3 (.int .i64 (1 + 2 * v6)) v5 (1 + 2 * v6) M.locked rfl (ok_parts S5.out.ok).2.2.1 (by omega))
      have x6 := (S5.out.next hg6 hs6).qm.cell
      have f6 := (S5.out.next hg6 hs6).qm.frozen
      clear hs6 hg6 S5 h60 h61 h62
      obtain ⟨W6, hW6⟩ : ∃ W6, w6.setCell ⟨bm, 3, none⟩ (.int .i64 (1 + 2 * v6)) = W6 := ⟨_, rfl⟩
      rw [hW6] at S6
      have hvb : 0 ≤ v6 ∧ v6 ≤ 1 := by omega
      go_wp2_with fail
      clear hW6 x6 f6
      refine (chance_any p a len cap n6 5 _ S6.out.src (by omega) (by omega) (by omega)).mono ?_
      rintro e w7 ⟨⟨v7, rfl⟩, ⟨n7, hn7, hs7⟩, hg7⟩
      have S7 := hid ((S6.out.next hg7 hs7).field 4 (.bool v7) v5 (1 + 2 * v6) v7 rfl (ok_parts S6.out.ok).2.2.1 (by omega))
      have x7 := (S6.out.next hg7 hs7).qm.cell
      have f7 := (S6.out.next hg7 hs7).qm.frozen
      clear hs7 hg7 S6
      obtain ⟨W7, hW7⟩ : ∃ W7, w7.setCell ⟨bm, 4, none⟩ (.bool v7) = W7 := ⟨_, rfl⟩
      rw [hW7] at S7
      have y0 := S7.out.q0.cell
      have z0 := S7.out.q0.frozen
      have y7 := S7.out.qm.cell
      go_wp2
      have hord := S7.out.ord
      refine bodyPost_ret (v := memV (.slice a1 64 p1) (.slice (some ⟨s2, 0, none⟩) 4 p2) v5 (1 + 2 * v6) v7) (by simp [results, Tryz.results18, go_sem, y0]) rfl ⟨_, _, rfl, S7.out.ok, ⟨lo, bm, by omega, ?_⟩, ⟨n7, by omega, ?_⟩, ?_⟩
      · refine S7.out.mem.kept (fun b h0 h1 => ?_)
        iterate 5 rw [Below.heap_setCell _ _ _ _ (by simp; omega)]
      · iterate 5 refine Src.setO ?_ (by omega)
        exact S7.out.src
      · iterate 5 refine grown_setO ?_ (Nat.le_refl _)
        exact S7.out.gro
theorem memdrawn_any (a : Option Addr) (len cap : Nat) (w : World) (hc : CodeAt w w.heap.size a len) (hl : len ≤ 1048576) :
    Calls Tryz.prog 5 #[.slice a len cap] w fun e w' => ∃ u M, e = .returned u ∧ okM M = true ∧ MemR w' u M ∧ Below w.heap.size w w' := by
  have hc1 : Hid (∀ o, CodeAt (w.alloc o) (w.alloc o).heap.size a len) := fun o => hc.below ((Below.refl _ _).alloc (Nat.le_refl _) o) (by simp)
  clear hc
  go_enter Tryz.func5, Tryz.ntmps5
  go_wp2_with fail
  refine (source_any a len cap _ (hc1.out _) hl).mono ?_
  rintro e w1 ⟨rfl, hs1, hg1⟩
  rw [World.size_alloc] at hs1 ⊢
  have q1 := (Blk.new w #[.slice none 0 0, .slice none 0 0, .int .i64 0, .int .i64 0, .bool false] 30).grown hg1 (by simp)
  have hB1 : Below w.heap.size w w1 := ((Below.refl _ _).alloc (Nat.le_refl _) _).grown hg1 (by simp) (fun k e => by cases e)
  have hl1 := hs1.lt
  replace hs1 := hid hs1
  replace q1 := hid q1
  replace hB1 := hid hB1
  clear hg1 hc1
  go_wp2_with fail
  refine (memory_any _ a len cap 0 _ hs1.out (by omega)).mono ?_
  rintro e w2 ⟨u, M, rfl, hok, ⟨lo, hi, hlo, hm⟩, _, hg2⟩
  obtain ⟨a1, p1, a2, p2, rfl, _, _⟩ := hm.reads.form
  have q2 := q1.out.grown hg2 (by simp)
  have hB2 := hid (hB1.out.grown hg2 (by omega) (fun k e => by cases e; omega))
  have x2 := q2.cell
  have f2 := q2.frozen
  replace hm := hid hm
  clear q1 q2 hg2 hs1 hB1
  go_wp2
  refine bodyPost_ret (v := memV (.slice a1 M.rom.length p1) (.slice a2 M.ram.length p2) M.page M.screen M.locked) (by simp [results, Tryz.results5, go_sem, x2]) rfl ⟨_, M, rfl, hok, ?_, ?_⟩
  · refine (hm.out.kept (fun b h0 h1 => ?_)).reads
    iterate 5 rw [Below.heap_setCell _ _ _ _ (by simp; omega)]
  · iterate 5 refine Below.setCell ?_ (by first | omega | (simp; done) | (simp; omega)) _
    exact hB2.out
end Go.Proofs.YtgpmpfikeindfaaGreatDoor

/- What the laws do with a processor: copied, held against another. -/
namespace Go.Proofs.YtgpmpfikeindfaaGreatDoor
open Go.ChangeShapes Go.WideShapes Go.ChangeAt Go.RowKit
set_option linter.unusedVariables false
set_option linter.unusedSimpArgs false

abbrev rgA (c : Cu) : Array Value := #[.int .i64 c.r0, .int .i64 c.r1, .int .i64 c.r2, .int .i64 c.r3, .int .i64 c.r4, .int .i64 c.r5, .int .i64 c.r6, .int .i64 c.r7]
abbrev rgV (c : Cu) : Value := .agg (rgA c)
theorem eight {k : Nat} (h : k < 8) : k = 0 ∨ k = 1 ∨ k = 2 ∨ k = 3 ∨ k = 4 ∨ k = 5 ∨ k = 6 ∨ k = 7 := by omega
def rgZ (c : Cu) (k i : Nat) : Value := .int .i64 (if i < k then c.reg i else 0)
def pt8 (c : Cu) (k : Nat) : Array Value := #[rgZ c k 0, rgZ c k 1, rgZ c k 2, rgZ c k 3, rgZ c k 4, rgZ c k 5, rgZ c k 6, rgZ c k 7]
abbrev z8 : Array Value := #[.int .i64 0, .int .i64 0, .int .i64 0, .int .i64 0, .int .i64 0, .int .i64 0, .int .i64 0, .int .i64 0]
theorem pt8_zero (c : Cu) : pt8 c 0 = z8 := rfl
theorem pt8_all (c : Cu) : pt8 c 8 = rgA c := rfl
theorem pt8_succ (c : Cu) (k : Nat) (hk : k < 8) : (pt8 c k).setIfInBounds k (.int .i64 (c.reg k)) = pt8 c (k + 1) := by
  rcases eight hk with rfl | rfl | rfl | rfl | rfl | rfl | rfl | rfl <;> rfl
theorem pt8_at (c : Cu) (k : Nat) (hk : k < 8) : (pt8 c k)[k]? = some (.int .i64 0) := by
  rcases eight hk with rfl | rfl | rfl | rfl | rfl | rfl | rfl | rfl <;> rfl
theorem rgA_at (c : Cu) (k : Nat) (hk : k < 8) : (rgA c)[k]? = some (.int .i64 (c.reg k)) := by
  rcases eight hk with rfl | rfl | rfl | rfl | rfl | rfl | rfl | rfl <;> rfl
end Go.Proofs.YtgpmpfikeindfaaGreatDoor
