/- A snapshot is read: the specification. -/
import Derived.Test.YtghcagibdcblnaaGreatDoorF22
import Derived.Test.YtghcagibdcblnaaGreatDoorF17
import Derived.Test.YtghcagibdcblnaaGreatDoorF14
import Derived.Test.YtghcagibdcblnaaGreatDoorF21
import Derived.Test.YtghcagibdcblnaaGreatDoorF20
namespace Go.Proofs.YtghcagibdcblnaaGreatDoor
open Go.ChangeShapes Go.WideShapes Go.ChangeAt Go.RowKit
set_option linter.unusedVariables false
set_option linter.unusedSimpArgs false

theorem results_cell_tmpS {P : Program} {fn : Func} {p q : Tmp} {ty : TypeId} (h : fn.results = #[.cell p ty, .tmp q]) (tmps : Array Value) (w : World) (g : Nat) (t : TypeId) (cs : Array Value) (fr : Nat × Nat) (d : TypeDesc) (v : Value)
    (hp : tmps.getD p undef = .pointer (some ⟨g, 0, none⟩)) (hq : tmps.getD q undef = v) (hg : w.heap[g]? = some (.cells cs t fr))
    (hu : P.underlying ty = some d) (hd : (match d with | .struct _ | .array _ _ => true | _ => false) = true) (hi : (P.info? ty).map (·.size) = some cs.size) :
    (results fn tmps).run P w = .ok (.tuple #[.agg cs, v]) w := by
  have hp' : tmps[p]?.getD undef = .pointer (some ⟨g, 0, none⟩) := by simpa using hp
  have hq' : tmps[q]?.getD undef = v := by simpa using hq
  simp [results, h, hp', hq', asAddr, run_loadVar_row w g t ty cs fr d hg hu hd hi]
/-- a snapshot while it is being made -/
structure Rd (w W : World) (SB lo mh : Nat) (vr vm : Value) (S : Sn) : Prop where
  res : Blk W w.heap.size (snA sn0 nl nl)
  box : Blk W SB (snA S vr vm)
  mem : MemO W lo mh (memV vr vm S.m.page S.m.screen S.m.locked) S.m
  ord : w.heap.size < lo ∧ lo ≤ mh ∧ mh ≤ SB ∧ mh ≤ W.heap.size
  bel : Below w.heap.size w W
theorem Rd.below {w W W' : World} {SB lo mh : Nat} {vr vm : Value} {S : Sn} (h : Rd w W SB lo mh vr vm S) (hb : Below W.heap.size W W') : Rd w W' SB lo mh vr vm S := by
  have := hb.size
  have ho := h.ord
  exact ⟨h.res.below hb h.res.lt, h.box.below hb h.box.lt, h.mem.below hb ho.2.2.2, by omega, new_trans h.bel hb⟩
theorem Rd.cell {w W : World} {SB lo mh : Nat} {vr vm : Value} {S : Sn} (h : Rd w W SB lo mh vr vm S) (j : Nat) (u : Value) (S' : Sn) (hA : (snA S vr vm).setIfInBounds j u = snA S' vr vm) (h1 : S'.m.rom = S.m.rom) (h2 : S'.m.ram = S.m.ram) : Rd w (W.setCell ⟨SB, j, none⟩ u) SB lo mh vr vm S' := by
  have ho := h.ord
  refine ⟨h.res.other (by simp; omega) u, ?_, ?_, by rw [sizeSet]; exact ho, h.bel.setCell (p := ⟨SB, j, none⟩) (by simp; omega) u⟩
  · have := h.box.set j u
    rw [hA] at this
    exact this
  · have hk := (h.mem.kept (w' := W.setCell ⟨SB, j, none⟩ u) (fun b _ hb => Below.heap_setCell _ _ _ _ (by show b ≠ SB; omega))).fields (pg := S'.m.page) (sc := S'.m.screen) (l := S'.m.locked)
    have e : ({ S.m with page := S'.m.page, screen := S'.m.screen, locked := S'.m.locked } : Mem) = S'.m := by
      show (⟨S.m.rom, S.m.ram, S'.m.page, S'.m.screen, S'.m.locked⟩ : Mem) = S'.m
      rw [← h1, ← h2]
    rw [e] at hk
    exact hk
theorem Rd.ports {w W : World} {SB lo mh : Nat} {vr vm : Value} {S : Sn} (h : Rd w W SB lo mh vr vm S) (p : Po) : Rd w (W.setCells SB 19 (poA p).toList) SB lo mh vr vm { S with p := p } := by
  have ho := h.ord
  refine ⟨layE_other (by omega) _ _ _ h.res, ?_, h.mem.kept (fun b _ hb => layE_heap _ _ _ _ (by omega)), by rw [size_cells]; exact ho, layE_below _ _ _ (by omega) h.bel⟩
  have := layE_blk SB (poA p).toList W 19 _ h.box
  rw [sn_lay2] at this
  exact this
theorem Rd.poke {w W : World} {SB lo mh i k : Nat} {vr vm : Value} {S : Sn} (h : Rd w W SB lo mh vr vm S) (hi : i < S.m.ram.length) (hk : k < (S.m.ram.getD i []).length) :
    ∃ s c g cg, vm = .slice (some ⟨s, 0, none⟩) S.m.ram.length c ∧ W.cell? ⟨s, i, none⟩ = some (.slice (some ⟨g, 0, none⟩) (S.m.ram.getD i []).length cg) ∧ (∃ u, W.cell? ⟨g, k, none⟩ = some u) ∧ W.frozen? ⟨g, k, none⟩ = false ∧ g < W.heap.size ∧ g < mh ∧
      ∀ z, Rd w (W.setCell ⟨g, k, none⟩ (.int .i64 z)) SB lo mh vr vm { S with m := { S.m with ram := S.m.ram.set i ((S.m.ram.getD i []).set k z) } } := by
  obtain ⟨s, c, g, cg, e1, e2, e3, e4, e5, e6, e7, e8, e9⟩ := memO_poke h.mem hi hk
  have ho := h.ord
  refine ⟨s, c, g, cg, e1, e2, e3, e4, e8, e5.2, fun z => ⟨h.res.other (by simp; omega) _, h.box.other (by simp; omega) _, e9 z, by rw [sizeSet]; exact ho, h.bel.setCell (p := ⟨g, k, none⟩) (by simp; omega) _⟩⟩
/-- what reading a text gives -/
def RdOut (w : World) (r : Sn × Int) (e : Ending) (w' : World) : Prop := ∃ vr vm, e = .returned (.tuple #[.agg (snA r.1 vr vm), .int .i64 r.2]) ∧ MemO w' w.heap.size w'.heap.size (memV vr vm r.1.m.page r.1.m.screen r.1.m.locked) r.1.m ∧ Below w.heap.size w w'
end Go.Proofs.YtghcagibdcblnaaGreatDoor

/- A snapshot is read: the specification. -/
namespace Go.Proofs.YtghcagibdcblnaaGreatDoor
open Go.ChangeShapes Go.WideShapes Go.ChangeAt Go.RowKit
set_option linter.unusedVariables false
set_option linter.unusedSimpArgs false

theorem bts_getD (t : ByteArray) {k : Nat} (h : k < t.size) : (bts t).getD k 0 = byt t k := by
  rw [List.getD_eq_getElem?_getD, bts_at t h]
  rfl
abbrev z64 : List Int := List.replicate 64 0
def ramK (B : List (List Int)) (Z : List Int) (i k : Nat) : List (List Int) := B ++ ((Z.take k ++ List.replicate (64 - k) 0) :: List.replicate (3 - i) z64)
theorem ramK_start (B : List (List Int)) (Z : List Int) {i : Nat} (hi : i < 4) : ramK B Z i 0 = B ++ List.replicate (4 - i) z64 := by
  unfold ramK
  have e : 4 - i = (3 - i) + 1 := by omega
  rw [e, List.replicate_succ]
  rfl
theorem ramK_end (B : List (List Int)) {Z : List Int} {i : Nat} (hi : i < 4) (hZ : Z.length = 64) : ramK B Z i 64 = (B ++ [Z]) ++ List.replicate (4 - (i + 1)) z64 := by
  unfold ramK
  have e : 4 - (i + 1) = 3 - i := by omega
  rw [e, List.take_of_length_le (by omega)]
  simp
theorem ramK_row {B : List (List Int)} {Z : List Int} {i k : Nat} (hB : B.length = i) (hZ : Z.length = 64) (hk : k ≤ 64) : i < (ramK B Z i k).length ∧ (ramK B Z i k).length = i + 1 + (3 - i) ∧ (ramK B Z i k).getD i [] = Z.take k ++ List.replicate (64 - k) 0 ∧ ((ramK B Z i k).getD i []).length = 64 := by
  unfold ramK
  have e : (B ++ ((Z.take k ++ List.replicate (64 - k) 0) :: List.replicate (3 - i) z64)).getD i [] = Z.take k ++ List.replicate (64 - k) 0 := by
    rw [List.getD_eq_getElem?_getD, List.getElem?_append_right (by omega), hB, Nat.sub_self]
    rfl
  refine ⟨by simp; omega, by simp; omega, e, ?_⟩
  rw [e]
  simp
  omega
theorem ramK_set {B : List (List Int)} {Z : List Int} {i k : Nat} (hB : B.length = i) (hZ : Z.length = 64) (hk : k < 64) : (ramK B Z i k).set i (((ramK B Z i k).getD i []).set k (Z.getD k 0)) = ramK B Z i (k + 1) := by
  rw [(ramK_row hB hZ (by omega)).2.2.1]
  unfold ramK
  rw [List.set_append_right _ _ (by omega), hB, Nat.sub_self, List.set_cons_zero]
  congr 2
  have e1 : (Z.take k).length = k := by rw [List.length_take]; omega
  rw [List.set_append_right _ _ (by omega), e1, Nat.sub_self]
  have e2 : 64 - k = (64 - (k + 1)) + 1 := by omega
  rw [e2, List.replicate_succ, List.set_cons_zero]
  have e3 : Z.take (k + 1) = Z.take k ++ [Z.getD k 0] := (take_getE (by omega)).symm
  rw [e3, List.append_assoc]
  rfl
theorem take_okS {s : ByteArray} {a n : Nat} (h : a + n ≤ s.size) (hs : s.size ≤ 65536) : takeV s a n = ((s, ((a + n : Nat) : Int)), s.extract a (a + n), 0) := by
  have hst : stB s (a : Int) = true := by unfold stB; simp; omega
  unfold takeV
  rw [if_neg (by rw [hst]; simp), if_neg (by omega), if_neg (by omega)]
  have e : ((a : Int) + (n : Int)) = ((a + n : Nat) : Int) := by omega
  rw [e, Int.toNat_natCast, Int.toNat_natCast]
theorem take_cutS {s : ByteArray} {a n : Nat} (h : s.size < a + n) (ha : a ≤ s.size) (hs : s.size ≤ 65536) (hn : n ≤ 65536) : takeV s a n = ((s, (a : Int)), ByteArray.empty, 9) := by
  have hst : stB s (a : Int) = true := by unfold stB; simp; omega
  unfold takeV
  rw [if_neg (by rw [hst]; simp), if_neg (by omega), if_pos (by omega)]
theorem Rd.drew {w W : World} {SB lo mh : Nat} {vr vm : Value} {S : Sn} (h : Rd w W SB lo mh vr vm S) : Rd w W.drew SB lo mh vr vm S := ⟨h.res, h.box, h.mem.kept (fun _ _ _ => rfl), h.ord, h.bel.drew⟩
theorem Rd.other {w W : World} {SB lo mh b j : Nat} {vr vm : Value} {S : Sn} (h : Rd w W SB lo mh vr vm S) (hb : mh ≤ b) (hs : b ≠ SB) (u : Value) : Rd w (W.setCell ⟨b, j, none⟩ u) SB lo mh vr vm S := by
  have ho := h.ord
  exact ⟨h.res.other (by simp; omega) u, h.box.other (by simp; omega) u, h.mem.kept (fun y _ hy => Below.heap_setCell _ _ _ _ (by show y ≠ b; omega)), by rw [sizeSet]; exact ho, h.bel.setCell (p := ⟨b, j, none⟩) (by simp; omega) u⟩
end Go.Proofs.YtghcagibdcblnaaGreatDoor

/- ReadSnap: the specification; marks in a snapshot. -/
namespace Go.Proofs.YtghcagibdcblnaaGreatDoor
open Go.ChangeShapes Go.WideShapes Go.ChangeAt Go.RowKit
set_option linter.unusedVariables false
set_option linter.unusedSimpArgs false

def read2 (t rom : ByteArray) : Sn × Int := if 65536 < t.size ∨ 65536 < rom.size then (sn0, 2) else if rom.size = 64 then rdS (romL rom) (bts t) else (sn0, 8)
end Go.Proofs.YtghcagibdcblnaaGreatDoor

/- Plain facts of a right snapshot and of its text. -/
namespace Go.Proofs.YtghcagibdcblnaaGreatDoor
open Go.ChangeShapes Go.WideShapes Go.ChangeAt Go.RowKit
set_option linter.unusedVariables false
set_option linter.unusedSimpArgs false

theorem sn_parts {s : Sn} (h : okSn s = true) : okC s.c = true ∧ okM s.m = true ∧ okPo s.p = true := by
  unfold okSn at h
  simp only [Bool.and_eq_true] at h
  exact ⟨h.1.1, h.1.2, h.2⟩
theorem in_of {x a b : Int} (h : inB x a b = true) : a ≤ x ∧ x ≤ b := by
  unfold inB at h
  simp only [Bool.and_eq_true, decide_eq_true_eq] at h
  exact h
theorem right_of {s : Sn} (h : okSn s = true) : Right s.c s.m s.p := by
  obtain ⟨h1, h2, h3⟩ := sn_parts h
  obtain ⟨m1, m2, m3, m4, m5⟩ := ok_parts h2
  have hb := po_border h3
  refine ⟨h1, m2, fun b hb => ?_, m3, m4, hb⟩
  have h6 : bytesB b 64 = true := by
    unfold okM at h2
    simp only [Bool.and_eq_true, List.all_eq_true] at h2
    exact h2.2 b hb
  exact (bytes13 h6).1
theorem cu_bytes {c : Cu} (h : okC c = true) : ∀ x ∈ [c.r0, c.r1, c.r2, c.r3, c.r4, c.r5, c.r6, c.r7, c.f, c.sp, c.pc], 0 ≤ x ∧ x ≤ 255 := by
  unfold okC regsB at h
  simp only [Bool.and_eq_true, List.all_eq_true, List.mem_range, decide_eq_true_eq] at h
  obtain ⟨⟨⟨⟨⟨hr, _⟩, hf⟩, hsp⟩, hpc⟩, _⟩ := h
  intro x hx
  simp only [List.mem_cons, List.not_mem_nil, or_false] at hx
  rcases hx with rfl | rfl | rfl | rfl | rfl | rfl | rfl | rfl | rfl | rfl | rfl
  · exact in_of (hr 0 (by omega))
  · exact in_of (hr 1 (by omega))
  · exact in_of (hr 2 (by omega))
  · exact in_of (hr 3 (by omega))
  · exact in_of (hr 4 (by omega))
  · exact in_of (hr 5 (by omega))
  · exact in_of (hr 6 (by omega))
  · exact in_of (hr 7 (by omega))
  · exact in_of hf
  · exact in_of hsp
  · exact in_of hpc
theorem bnks_bytes : ∀ (R : List (List Int)), (∀ b ∈ R, bytesB b 64 = true) → ∀ x ∈ bnksL R, 0 ≤ x ∧ x ≤ 255
  | [], _, x, h => by cases h
  | b :: R, hb, x, h => by
    have h1 : bnksL (b :: R) = bnkL b ++ bnksL R := rfl
    rw [h1] at h
    rcases List.mem_append.1 h with h | h
    · obtain ⟨e1, e2⟩ := bytes13 (hb b (List.mem_cons_self ..))
      have hbb : ∀ y ∈ b, 0 ≤ y ∧ y ≤ 255 := fun y hy => by
        obtain ⟨k, hk, rfl⟩ := List.mem_iff_getElem.1 hy
        have := e2 k (by omega)
        rw [List.getD_eq_getElem?_getD, List.getElem?_eq_getElem hk] at this
        exact this
      have hl := cmpE_len b
      rcases List.mem_append.1 h with h | h
      · simp only [List.mem_cons, List.not_mem_nil, or_false] at h
        rcases h with rfl | rfl
        · omega
        · omega
      · exact cmpL_all b.length b hbb x h
    · exact bnks_bytes R (fun c hc => hb c (List.mem_cons_of_mem _ hc)) x h
theorem snapL_bytes {s : Sn} (h : okSn s = true) : ∀ x ∈ snapL s.c s.m s.p, 0 ≤ x ∧ x ≤ 255 := by
  obtain ⟨h1, h2, h3⟩ := sn_parts h
  obtain ⟨m1, m2, m3, m4, m5⟩ := ok_parts h2
  have hc := cu_bytes h1
  have hb := po_border h3
  have hbs := bitsS_bd s.c s.m
  have hul := ulaS_bd s.p hb.1 hb.2
  have hp := m3
  intro x hx
  rcases List.mem_append.1 hx with hx | hx
  · have hx' : x ∈ [3, s.c.r0, s.c.r1, s.c.r2, s.c.r3, s.c.r4, s.c.r5, s.c.r6, s.c.r7, s.c.f, s.c.sp, s.c.pc, bitsS s.c s.m, s.m.page, ulaS s.p] := hx
    simp only [List.mem_cons, List.not_mem_nil, or_false] at hx' hc
    rcases hx' with rfl | rfl | rfl | rfl | rfl | rfl | rfl | rfl | rfl | rfl | rfl | rfl | rfl | rfl | rfl
    · omega
    · exact hc _ (by simp)
    · exact hc _ (by simp)
    · exact hc _ (by simp)
    · exact hc _ (by simp)
    · exact hc _ (by simp)
    · exact hc _ (by simp)
    · exact hc _ (by simp)
    · exact hc _ (by simp)
    · exact hc _ (by simp)
    · exact hc _ (by simp)
    · exact hc _ (by simp)
    · exact hbs
    · omega
    · exact hul
  · refine bnks_bytes s.m.ram (fun b hb => ?_) x hx
    unfold okM at h2
    simp only [Bool.and_eq_true, List.all_eq_true] at h2
    exact h2.2 b hb
end Go.Proofs.YtghcagibdcblnaaGreatDoor

/- What the law of snapshots asks of a snapshot; a drawn one. -/
namespace Go.Proofs.YtghcagibdcblnaaGreatDoor
open Go.ChangeShapes Go.WideShapes Go.ChangeAt Go.RowKit
set_option linter.unusedVariables false
set_option linter.unusedSimpArgs false

end Go.Proofs.YtghcagibdcblnaaGreatDoor
